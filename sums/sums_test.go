package sums

import (
	"bytes"
	"hash/crc32"
	"math/rand"
	"slices"
	"strings"
	"testing"
)

const top = 4294967295

// byWords is the chapter's sentence on dividing, and that on On, bit by bit: the number is a list of bits, the lowest first.
func byWords(sum uint32, b []byte) uint32 {
	var bits [32]bool
	for i := range bits {
		bits[i] = sum>>i&1 == 0
	}
	for _, x := range b {
		for i := range 8 {
			bits[i] = bits[i] != (x>>i&1 == 1)
		}
		for range 8 {
			falls := bits[0]
			copy(bits[:], bits[1:])
			bits[31] = false
			for i, c := range "00000100110000010001110110110111" { // edb88320, the lowest bit first
				bits[i] = bits[i] != (falls && c == '1')
			}
		}
	}
	var n uint32
	for i, is := range bits {
		if !is {
			n |= 1 << i
		}
	}
	return n
}

// must holds On, and Of where the sum is 0, against the chapter's words and against the library's CRC-32.
func must(t *testing.T, sum uint32, b []byte) {
	t.Helper()
	want := byWords(sum, b)
	if other := crc32.Update(sum, crc32.IEEETable, b); other != want {
		t.Fatalf("the test is at odds with itself: %08x %08x", want, other)
	}
	if got := On(sum, b); got != want {
		t.Errorf("On(%08x, %d bytes %.40q) = %08x, want %08x", sum, len(b), b, got, want)
	}
	if sum == 0 {
		if got := Of(b); got != want {
			t.Errorf("Of(%d bytes %.40q) = %08x, want %08x", len(b), b, got, want)
		}
	}
}

// someSums: the first, the last, each single bit, each but one, and some others.
func someSums() []uint32 {
	l := []uint32{0, top, 5, 6, 0xe8b7be43, 0x2144df1c, 0xedb88320, ^uint32(0xedb88320), 0x04c11db7, 0x80000001, 0x7fffffff}
	for i := range 32 {
		l = append(l, 1<<i, ^uint32(1<<i))
	}
	return l
}

// mixed: so many bytes, the same ones each time.
func mixed(n int) []byte {
	b := make([]byte, n)
	rand.New(rand.NewSource(int64(n))).Read(b)
	return b
}

// someBytes: none, few, noughts, ones, a text, others.
func someBytes() [][]byte {
	return [][]byte{
		nil, {}, {0}, {255}, {128}, {1}, {0, 0, 0, 0}, {255, 255, 255, 255}, {0, 0, 0, 1}, {1, 0, 0, 0},
		[]byte("123456789"), []byte("abc"), make([]byte, 64), bytes.Repeat([]byte{255}, 64), mixed(3), mixed(63), mixed(64), mixed(65),
	}
}

// P3.1: the chapter's examples, and some sums that are well known.
func TestOf(t *testing.T) {
	for s, want := range map[string]uint32{
		"":                 0,
		"123456789":        0xcbf43926,
		"a":                0xe8b7be43,
		"abc":              0x352441c2,
		"\x00\x00\x00\x00": 0x2144df1c,
		"\xff\xff\xff\xff": 0xffffffff,
		"\x00":             0xd202ef8d,
		"\xff":             0xff000000,
		"The quick brown fox jumps over the lazy dog": 0x414fa339,
	} {
		if got := Of([]byte(s)); got != want {
			t.Errorf("Of(%q) = %08x, want %08x", s, got, want)
		}
	}
}

// P3.1: it is On of 0, of any bytes.
func TestOfIsOnOfNought(t *testing.T) {
	for _, b := range someBytes() {
		if Of(b) != On(0, b) {
			t.Errorf("%.40q: Of %08x, On of 0 %08x", b, Of(b), On(0, b))
		}
	}
}

// P3.2: the chapter's examples, and the sum that noughts leave as it is.
func TestOn(t *testing.T) {
	for _, c := range []struct {
		sum  uint32
		b    string
		want uint32
	}{
		{0xe8b7be43, "bc", 0x352441c2},
		{5, "", 5},
		{0, "123456789", 0xcbf43926},
		{top, "\x00", top},
		{top, strings.Repeat("\x00", 100), top},
		{top, "\x80", ^uint32(0xedb88320)},
	} {
		if got := On(c.sum, []byte(c.b)); got != c.want {
			t.Errorf("On(%08x, %q) = %08x, want %08x", c.sum, c.b, got, c.want)
		}
	}
}

// P3.1, P3.2: no bytes, and a list that is not there, leave a sum as it is.
func TestNoBytes(t *testing.T) {
	if Of(nil) != 0 || Of([]byte{}) != 0 || Of(make([]byte, 0, 8)) != 0 {
		t.Error("Of no bytes")
	}
	for _, s := range someSums() {
		if On(s, nil) != s || On(s, []byte{}) != s || On(s, []byte("spare")[:0]) != s {
			t.Errorf("On(%08x, no bytes)", s)
		}
	}
}

// P3.1, P3.2: one byte of each value, from each of some sums on.
func TestOneByte(t *testing.T) {
	for x := range 256 {
		for _, s := range someSums() {
			must(t, s, []byte{byte(x)})
		}
	}
}

// P3.1, P3.2: a byte of each value behind another one, and in front of it.
func TestTwoBytes(t *testing.T) {
	for x := range 256 {
		for _, y := range []byte{0, 1, 127, 128, 255} {
			for _, s := range []uint32{0, top} {
				must(t, s, []byte{byte(x), y})
				must(t, s, []byte{y, byte(x)})
			}
		}
	}
}

// P3.1, P3.2: each of some bytes, from each of some sums on.
func TestSumsAndBytes(t *testing.T) {
	for _, b := range someBytes() {
		for _, s := range someSums() {
			must(t, s, b)
		}
	}
}

// P3.1, P3.2: each count of bytes up to some sectors', and many.
func TestManyBytes(t *testing.T) {
	l := []int{1023, 1024, 4095, 4096, 16384, 16385, 65535, 65536, 65537, 262144}
	for n := range 200 {
		l = append(l, n)
	}
	for _, n := range l {
		for _, b := range [][]byte{mixed(n), make([]byte, n), bytes.Repeat([]byte{255}, n)} {
			must(t, 0, b)
			must(t, top, b)
		}
	}
	if b := mixed(1 << 24); Of(b) != crc32.ChecksumIEEE(b) {
		t.Error("16777216 bytes")
	}
}

// P3.3: bytes cut at each place, and at each two.
func TestCut(t *testing.T) {
	for _, b := range someBytes() {
		for _, s := range []uint32{0, top, 5} {
			want := On(s, b)
			for i := range len(b) + 1 {
				for j := i; j <= len(b); j++ {
					if got := On(On(On(s, b[:i]), b[i:j]), b[j:]); got != want {
						t.Fatalf("%08x, %.40q cut at %d, %d: %08x, want %08x", s, b, i, j, got, want)
					}
				}
				if got := On(Of(b[:i]), b[i:]); got != Of(b) {
					t.Fatalf("%.40q cut at %d: %08x, want %08x", b, i, got, Of(b))
				}
			}
		}
	}
}

// P3.3: byte by byte.
func TestByteByByte(t *testing.T) {
	b := mixed(1000)
	for _, s := range []uint32{0, top} {
		n := s
		for i := range b {
			n = On(n, b[i:i+1])
			if want := On(s, b[:i+1]); n != want {
				t.Fatalf("%08x, %d bytes: %08x, want %08x", s, i+1, n, want)
			}
		}
	}
}

// P3.3: two sums do not become one, whatever the further bytes.
func TestSumsStayApart(t *testing.T) {
	for _, b := range someBytes() {
		whose := map[uint32]uint32{}
		for _, s := range someSums() {
			n := On(s, b)
			if other, ok := whose[n]; ok && other != s {
				t.Errorf("%08x and %08x, on over %.40q, are both %08x", other, s, b, n)
			}
			whose[n] = s
		}
	}
}

// turn turns so many bits in a row, from a place on; a byte's bits stand from its lowest one on, or from its highest one on.
func turn(b []byte, from, n int, highest bool) []byte {
	c := slices.Clone(b)
	for i := from; i < from+n; i++ {
		if highest {
			c[i/8] ^= 128 >> (i % 8)
		} else {
			c[i/8] ^= 1 << (i % 8)
		}
	}
	return c
}

// P3.3: 1 to 32 bits in a row, turned at each place.
func TestTurned(t *testing.T) {
	for _, b := range someBytes() {
		for _, s := range []uint32{0, top} {
			was := On(s, b)
			for n := 1; n <= 32; n++ {
				for from := 0; from+n <= 8*len(b); from++ {
					for _, highest := range []bool{false, true} {
						if On(s, turn(b, from, n, highest)) == was {
							t.Fatalf("%08x, %.40q: %d bits turned from %d on have no other sum", s, b, n, from)
						}
					}
				}
			}
		}
	}
}

// P3.3: some of 32 bits in a row, at each place; the first and the last of them, and any between.
func TestSomeTurned(t *testing.T) {
	b := mixed(70)
	was := Of(b)
	r := rand.New(rand.NewSource(1))
	for from := 0; from+32 <= 8*len(b); from++ {
		for _, mask := range []uint32{0x80000001, 0xedb88320, 0x04c11db7, r.Uint32() | 1, r.Uint32() | 1<<31} {
			c := slices.Clone(b)
			for i := range 32 {
				if mask>>i&1 == 1 {
					c[(from+i)/8] ^= 1 << ((from + i) % 8)
				}
			}
			if Of(c) == was {
				t.Fatalf("%08x turned from %d on has no other sum", mask, from)
			}
		}
	}
}

// P3.2: the divisor, and the bit that falls off ahead of it, turned: 33 bits in a row, of which this sum sees nothing. Another divisor would.
func TestDivisorTurned(t *testing.T) {
	b := mixed(20)
	c := slices.Clone(b)
	turned := uint64(0xedb88320)<<1 | 1
	for i := range 5 {
		c[7+i] ^= byte(turned >> (8 * i))
	}
	if Of(b) != Of(c) {
		t.Errorf("%08x and %08x", Of(b), Of(c))
	}
}

// R4: what is handed in stays as it was, its spare room too.
func TestStays(t *testing.T) {
	for _, b := range someBytes() {
		in := append(slices.Clone(b), "spare room"...)
		was := string(in)
		part := in[:len(b)]
		Of(part)
		On(7, part)
		On(top, part)
		if string(in) != was {
			t.Errorf("%.40q became %.40q", was, in)
		}
	}
}

// R5: what is asked again is answered again, whatever was asked between, and whatever stands in the spare room; what was handed in may be used for others.
func TestAgain(t *testing.T) {
	for _, b := range someBytes() {
		in := append(slices.Clone(b), "spare room"...)
		of, on := Of(in[:len(b)]), On(9, in[:len(b)])
		clear(in)
		Of(in)
		On(of, in)
		if Of(b) != of || On(9, b) != on {
			t.Errorf("%.40q: another answer", b)
		}
	}
}

// R1, P3.1 to P3.3: any sum, any bytes, cut and turned anywhere.
func FuzzSums(f *testing.F) {
	f.Add(uint32(0), []byte(nil), uint16(0), uint16(0), uint8(0))
	f.Add(uint32(top), []byte("123456789"), uint16(4), uint16(11), uint8(31))
	f.Add(uint32(0xe8b7be43), mixed(64), uint16(63), uint16(480), uint8(1))
	f.Fuzz(func(t *testing.T, sum uint32, b []byte, cut, from uint16, n uint8) {
		must(t, sum, b)
		must(t, 0, b)
		was := On(sum, b)
		at := int(cut) % (len(b) + 1)
		if On(On(sum, b[:at]), b[at:]) != was {
			t.Errorf("%08x, %q, cut at %d", sum, b, at)
		}
		many := int(n)%32 + 1
		if many > 8*len(b) {
			return
		}
		if On(sum, turn(b, int(from)%(8*len(b)-many+1), many, n > 127)) == was {
			t.Errorf("%08x, %q, %d bits turned from %d on", sum, b, many, from)
		}
	})
}
