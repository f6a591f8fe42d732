package frames

import (
	"bytes"
	"encoding/binary"
	"hash/crc32"
	"math"
	"math/rand"
	"slices"
	"testing"

	"concordat/api"
)

// byWords is the chapter's sentence on what a frame is; the sum is the library's CRC-32. It is of longer records too, which have no frame.
func byWords(record []byte) []byte {
	b := binary.BigEndian.AppendUint32(nil, uint32(len(record)))
	b = binary.BigEndian.AppendUint32(b, crc32.ChecksumIEEE(append(slices.Clone(b), record...)))
	b = append(b, record...)
	for len(b)%64 != 0 {
		b = append(b, 0)
	}
	return b
}

// mixed: so many bytes, the same ones each time.
func mixed(n int) []byte {
	b := make([]byte, n)
	rand.New(rand.NewSource(int64(n))).Read(b)
	return b
}

// someLengths: the first ones, those about the ends of sectors, and the last ones.
func someLengths() []int {
	l := []int{183, 184, 185, 255, 256, 257, 4095, 4096, 4097, 8191, 8192, 8193, 16311, 16312, 16313, 16375, 16376, 16377, api.MaxRecord - 1, api.MaxRecord}
	for n := range 130 {
		l = append(l, n)
	}
	return l
}

// someRecords: of each of some lengths: mixed bytes, noughts, ones, and one letter.
func someRecords() [][]byte {
	var l [][]byte
	for _, n := range someLengths() {
		l = append(l, mixed(n), make([]byte, n), bytes.Repeat([]byte{255}, n), bytes.Repeat([]byte("r"), n))
	}
	return l
}

// put is the frame of a record that has one.
func put(t *testing.T, record []byte) []byte {
	t.Helper()
	b, e := Put(record)
	if e != api.OK {
		t.Fatalf("Put(%d bytes %.20q): %d", len(record), record, e)
	}
	return b
}

// got holds what Get tells against the record and its frame's sectors.
func got(t *testing.T, b, record []byte, sectors int) {
	t.Helper()
	r, k, e := Get(b)
	if !bytes.Equal(r, record) || k != sectors || e != api.OK {
		t.Errorf("Get(%d bytes %.20q) = %d bytes %.20q, %d, %d; want %d bytes %.20q, %d", len(b), b, len(r), r, k, e, len(record), record, sectors)
	}
}

// refused holds that bytes begin with no frame, and that nothing is told beside the error.
func refused(t *testing.T, what string, b []byte) {
	t.Helper()
	if r, k, e := Get(b); len(r) != 0 || k != 0 || e != api.ErrForm {
		t.Errorf("%s: Get(%d bytes %.20q) = %d bytes %.20q, %d, %d; want ErrForm", what, len(b), b, len(r), r, k, e)
	}
}

// The chapter's examples.
func TestExamples(t *testing.T) {
	b := put(t, []byte("a"))
	if len(b) != 64 || !bytes.Equal(b[:4], []byte{0, 0, 0, 1}) || b[8] != 'a' {
		t.Fatalf("Put(a) = %q", b)
	}
	got(t, append(slices.Clone(b), "and more"...), []byte("a"), 1)
	refused(t, "64 of 0", make([]byte, 64))
	refused(t, "63 of that", b[:63])
	last := slices.Clone(b)
	last[63] = 1
	refused(t, "its last byte 1", last)
	if b, e := Put(make([]byte, 16385)); len(b) != 0 || e != api.ErrLimit {
		t.Errorf("Put(16385 bytes) = %d bytes, %d", len(b), e)
	}
}

// P5.1: frames that are written out here, byte by byte.
func TestPutWrittenOut(t *testing.T) {
	for record, head := range map[string][]byte{
		"":          {0, 0, 0, 0, 0x21, 0x44, 0xdf, 0x1c},
		"a":         {0, 0, 0, 1, 0xe5, 0x8c, 0x97, 0x92},
		"123456789": {0, 0, 0, 9, 0xde, 0x9c, 0x40, 0xc0},
	} {
		want := append(slices.Clone(head), record...)
		want = append(want, make([]byte, 64-len(want))...)
		if b := put(t, []byte(record)); !bytes.Equal(b, want) {
			t.Errorf("Put(%q) = %x, want %x", record, b, want)
		}
	}
}

// P5.1: records of many lengths and kinds, and of how many sectors their frames are.
func TestPut(t *testing.T) {
	for _, r := range someRecords() {
		if b := put(t, r); !bytes.Equal(b, byWords(r)) {
			t.Errorf("Put(%d bytes %.20q) = %d bytes %.20q", len(r), r, len(b), b)
		}
	}
	for n, sectors := range map[int]int{0: 1, 1: 1, 55: 1, 56: 1, 57: 2, 119: 2, 120: 2, 121: 3, 184: 3, 185: 4, 16376: 256, 16377: 257, 16384: 257} {
		if b := put(t, make([]byte, n)); len(b) != 64*sectors {
			t.Errorf("%d: %d bytes", n, len(b))
		}
	}
}

// P5.1: no record, and none with spare room, are records of no bytes.
func TestPutNone(t *testing.T) {
	want := byWords(nil)
	for _, r := range [][]byte{nil, {}, []byte("spare")[:0]} {
		if b := put(t, r); !bytes.Equal(b, want) {
			t.Errorf("Put(none) = %x", b)
		}
	}
}

// P5.1: more bytes than a record may have.
func TestPutLimit(t *testing.T) {
	for _, n := range []int{api.MaxRecord + 1, api.MaxRecord + 2, 16440, 16441, 32768, 65536, 65537, 1 << 20} {
		if b, e := Put(mixed(n)); len(b) != 0 || e != api.ErrLimit {
			t.Errorf("Put(%d bytes) = %d bytes, %d", n, len(b), e)
		}
	}
	if b, e := Put(make([]byte, api.MaxRecord, api.MaxRecord+1)); len(b) != 16448 || e != api.OK {
		t.Errorf("spare room counts: %d bytes, %d", len(b), e)
	}
}

// P5.2: frames by the chapter's words, with nothing behind them, and with what does not matter.
func TestGet(t *testing.T) {
	other := byWords([]byte("another"))
	for _, r := range someRecords() {
		b := byWords(r)
		for _, behind := range [][]byte{nil, {0}, {1}, {255}, make([]byte, 64), other, b, mixed(63), mixed(200)} {
			got(t, append(slices.Clone(b), behind...), r, len(b)/64)
		}
	}
}

// P5.2: bytes that are too few, with the rest of the frame behind them as spare room, and without any.
func TestGetCut(t *testing.T) {
	for _, n := range []int{0, 1, 55, 56, 57, 120, 121, 185} {
		b := byWords(mixed(n))
		for cut := range b {
			refused(t, "cut, with spare room", b[:cut])
			refused(t, "cut", b[:cut:cut])
		}
		got(t, b[:len(b):len(b)], mixed(n), len(b)/64)
	}
	b := byWords(mixed(api.MaxRecord))
	for _, cut := range []int{0, 63, 64, 8191, 16383, 16384, 16385, 16391, 16392, 16393, 16447} {
		refused(t, "cut, with spare room", b[:cut])
		refused(t, "cut", b[:cut:cut])
	}
}

// P5.2: no bytes, and a list that is not there.
func TestGetNone(t *testing.T) {
	refused(t, "nil", nil)
	refused(t, "empty", []byte{})
	refused(t, "empty, with spare room", byWords(nil)[:0])
}

// P5.2: each byte of a frame, those of the noughts behind the record too, turned to each other value.
func TestGetTurned(t *testing.T) {
	for _, n := range []int{0, 1, 55, 56, 57, 120} {
		b := byWords(mixed(n))
		for at := range b {
			for x := 1; x < 256; x++ {
				b[at] ^= byte(x)
				refused(t, "turned", b)
				refused(t, "turned, with more behind", append(slices.Clone(b), mixed(70)...))
				b[at] ^= byte(x)
			}
		}
		got(t, b, mixed(n), len(b)/64)
	}
}

// P5.2: the same of the greatest frame: its numbers, its noughts, and some bytes of its record.
func TestGetTurnedGreatest(t *testing.T) {
	r := mixed(api.MaxRecord)
	b := byWords(r)
	for at := range b {
		if at > 70 && at < len(b)-70 && at%173 != 0 {
			continue
		}
		for _, x := range []byte{1, 128, 255} {
			b[at] ^= x
			refused(t, "turned", b)
			b[at] ^= x
		}
	}
	got(t, b, r, 257)
}

// framed is as a frame, with a length of its own and a sum that is right for it.
func framed(length uint32, record []byte, size int) []byte {
	b := binary.BigEndian.AppendUint32(nil, length)
	b = binary.BigEndian.AppendUint32(b, crc32.ChecksumIEEE(append(slices.Clone(b), record...)))
	b = append(b, record...)
	return append(b, make([]byte, max(0, size-len(b)))...)
}

// P5.2: lengths that say more than a record may have, than there are, or than there is room for as a number; each sum is right.
func TestGetLength(t *testing.T) {
	for _, n := range []int{api.MaxRecord + 1, api.MaxRecord + 2, 16440, 16441, 65535, 65536} {
		refused(t, "longer than a record may be", byWords(mixed(n)))
		refused(t, "longer than a record may be, with more behind", append(byWords(mixed(n)), mixed(100)...))
	}
	for _, n := range []uint32{2, 57, 120, api.MaxRecord, api.MaxRecord + 1, 1 << 16, 1<<24 + 1, math.MaxInt32 - 8, math.MaxInt32, 1 << 31, 1<<31 + 1, math.MaxUint32 - 64, math.MaxUint32 - 8, math.MaxUint32 - 7, math.MaxUint32} {
		for _, r := range [][]byte{nil, []byte("a"), mixed(56), mixed(70)} {
			if int(n) == len(r) {
				continue
			}
			for _, size := range []int{0, 64, 128, 192, 20000} {
				refused(t, "another length", framed(n, r, size))
			}
		}
	}
	for _, n := range []uint32{0, 1, 55} {
		refused(t, "fewer bytes than the sum is over", framed(n, mixed(56), 64))
	}
}

// P5.2: sums of something else than the chapter says, and numbers the other way round.
func TestGetSum(t *testing.T) {
	for _, n := range []int{0, 1, 9, 56, 57, 1000} {
		r := mixed(n)
		b := byWords(r)
		sum := binary.BigEndian.Uint32(b[4:])
		for what, other := range map[string]uint32{
			"of the record alone":              crc32.ChecksumIEEE(r),
			"of the record, then the length":   crc32.ChecksumIEEE(append(slices.Clone(r), b[:4]...)),
			"of the noughts too":               crc32.ChecksumIEEE(append(append(slices.Clone(b[:4]), b[8:]...), 0)),
			"turned round":                     ^sum,
			"one more":                         sum + 1,
			"nought":                           0,
			"of the length alone, but for one": crc32.ChecksumIEEE(b[:4]) ^ 1,
		} {
			if other == sum { // of no bytes, the length and the record may be taken in any order
				continue
			}
			c := slices.Clone(b)
			binary.BigEndian.PutUint32(c[4:], other)
			refused(t, what, c)
		}
		c := slices.Clone(b)
		binary.LittleEndian.PutUint32(c[4:], sum)
		refused(t, "the sum's lowest byte first", c)
		if n > 0 {
			c = slices.Clone(b)
			binary.LittleEndian.PutUint32(c, uint32(n))
			binary.BigEndian.PutUint32(c[4:], crc32.ChecksumIEEE(append(slices.Clone(c[:4]), r...)))
			refused(t, "the length's lowest byte first", c)
		}
	}
}

// P5.2: a frame that does not stand at the beginning.
func TestGetBehind(t *testing.T) {
	for _, n := range []int{0, 1, 56, 57} {
		for _, front := range [][]byte{{0}, make([]byte, 64), mixed(64), {0, 0, 0, 0}} {
			refused(t, "a frame behind others", append(slices.Clone(front), byWords(mixed(n))...))
		}
		refused(t, "a frame less its first byte", append(byWords(mixed(n))[1:], 0))
	}
}

// P5.3: what is put is got, one behind the other too.
func TestPutIsGot(t *testing.T) {
	var all []byte
	for _, r := range someRecords() {
		b := put(t, r)
		got(t, b, r, len(b)/64)
		all = append(all, b...)
	}
	for _, r := range someRecords() {
		x, k, e := Get(all)
		if !bytes.Equal(x, r) || e != api.OK {
			t.Fatalf("%d bytes %.20q: %d bytes %.20q, %d", len(r), r, len(x), x, e)
		}
		all = all[64*k:]
	}
	if len(all) != 0 {
		t.Errorf("%d bytes are left", len(all))
	}
}

// P5.3: a record that is itself a frame, or several, is one record.
func TestFrameOfFrame(t *testing.T) {
	r := []byte("a")
	for len(r) <= api.MaxRecord-64 {
		b := put(t, r)
		got(t, b, r, len(b)/64)
		r = append(b, put(t, nil)...)
	}
}

// P5.3: no frame begins another one: records that are alike, those that differ only in noughts at their end among them.
func TestNoFrameBeginsAnother(t *testing.T) {
	list := [][]byte{nil}
	for _, n := range []int{1, 2, 3, 8, 55, 56, 57, 64, 120, 121, 128} {
		list = append(list, make([]byte, n), mixed(n), append([]byte("a"), make([]byte, n)...), append(make([]byte, n), 'a'), bytes.Repeat([]byte("r"), n))
	}
	list = append(list, byWords(nil), byWords([]byte("a")), byWords(nil)[8:], byWords(make([]byte, 1)))
	for i, x := range list {
		for j, y := range list {
			if !bytes.Equal(x, y) && bytes.HasPrefix(put(t, y), put(t, x)) {
				t.Errorf("the frame of %d, %.20q, begins that of %d, %.20q", i, x, j, y)
			}
		}
	}
}

// P5.3: sectors of noughts, and noughts that are none, begin with no frame, whatever stands behind them.
func TestNoughts(t *testing.T) {
	for _, n := range []int{1, 2, 3, 256, 257, 258, api.MaxSectors} {
		refused(t, "sectors of noughts", make([]byte, 64*n))
		refused(t, "sectors of noughts, and a frame", append(make([]byte, 64*n), byWords([]byte("a"))...))
		refused(t, "sectors of noughts, and others", append(make([]byte, 64*n), mixed(64)...))
	}
	for _, n := range []int{1, 4, 8, 63, 65, 1000} {
		refused(t, "noughts", make([]byte, n))
	}
}

// spared is bytes with spare room behind them, and the whole of it.
func spared(b []byte) (part, whole []byte) {
	whole = append(slices.Clone(b), "spare room, of more than a sector's bytes, that nobody may touch, nor look at"...)
	return whole[:len(b)], whole
}

// R4: what is handed in stays as it was, its spare room too.
func TestStays(t *testing.T) {
	for _, n := range []int{0, 1, 55, 56, 57, 120, 121, api.MaxRecord, api.MaxRecord + 1} {
		for _, b := range [][]byte{mixed(n), byWords(mixed(n)), byWords(mixed(n))[:63]} {
			part, whole := spared(b)
			was := slices.Clone(whole)
			Put(part)
			Get(part)
			if !bytes.Equal(whole, was) {
				t.Errorf("%d bytes %.20q are changed", len(b), b)
			}
		}
	}
}

// scribble writes over all of a list, its spare room too.
func scribble(b []byte) {
	b = b[:cap(b)]
	for i := range b {
		b[i] ^= 255
	}
}

// R4: an answer shares no memory with what was handed in, nor with another answer, its spare room neither.
func TestAnswersApart(t *testing.T) {
	for _, n := range []int{0, 1, 55, 56, 57, 120, 121, 1000, api.MaxRecord} {
		r := mixed(n)
		want := byWords(r)
		one, two := put(t, r), put(t, r)
		scribble(one)
		if !bytes.Equal(r, mixed(n)) || !bytes.Equal(two, want) {
			t.Errorf("%d: a frame is shared", n)
		}
		scribble(r)
		if !bytes.Equal(two, want) {
			t.Errorf("%d: the record is kept", n)
		}
		x, _, _ := Get(two)
		y, _, _ := Get(two)
		scribble(x)
		if !bytes.Equal(two, want) || !bytes.Equal(y, mixed(n)) {
			t.Errorf("%d: a record is shared", n)
		}
		scribble(two)
		if !bytes.Equal(y, mixed(n)) {
			t.Errorf("%d: the bytes are kept", n)
		}
	}
}

// R5: what is asked again is answered again, whatever was asked between, and whatever stands in the spare room.
func TestAgain(t *testing.T) {
	for _, n := range []int{0, 1, 56, 57, 121} {
		r, whole := spared(mixed(n))
		b, all := spared(byWords(mixed(n)))
		for range 3 {
			if !bytes.Equal(put(t, r), byWords(mixed(n))) {
				t.Errorf("%d: another frame", n)
			}
			got(t, b, mixed(n), len(b)/64)
			Put(mixed(2000))
			Get(byWords(mixed(3000)))
			Get(mixed(64))
			Put(mixed(16385))
			scribble(whole[n:])
			scribble(all[len(b):])
		}
	}
}

// P5.1, P5.3: any record.
func FuzzPut(f *testing.F) {
	for _, n := range []int{0, 1, 56, 57, 120, 121, api.MaxRecord, api.MaxRecord + 1} {
		f.Add(mixed(n))
	}
	f.Fuzz(func(t *testing.T, r []byte) {
		b, e := Put(r)
		if len(r) > api.MaxRecord {
			if len(b) != 0 || e != api.ErrLimit {
				t.Errorf("%d bytes: %d bytes, %d", len(r), len(b), e)
			}
			return
		}
		if !bytes.Equal(b, byWords(r)) || e != api.OK {
			t.Errorf("%q: %q %d", r, b, e)
		}
		got(t, append(b, r...), r, (len(r)+71)/64)
	})
}

// begins is the chapter's sentence on Get: the record whose frame the bytes begin with.
func begins(b []byte) ([]byte, bool) {
	if len(b) < 8 {
		return nil, false
	}
	n := binary.BigEndian.Uint32(b)
	if n > api.MaxRecord || len(b)-8 < int(n) {
		return nil, false
	}
	r := b[8 : 8+n]
	return r, bytes.HasPrefix(b, byWords(r))
}

// P5.2, R1: any bytes, and the same ones with the sum that their length asks for.
func FuzzGet(f *testing.F) {
	for _, n := range []int{0, 1, 56, 57, 120, 121, api.MaxRecord, api.MaxRecord + 1} {
		f.Add(byWords(mixed(n)))
		f.Add(mixed(n))
		f.Add(make([]byte, n))
	}
	f.Fuzz(func(t *testing.T, b []byte) {
		summed := slices.Clone(b)
		if len(b) >= 8 {
			n := min(uint64(binary.BigEndian.Uint32(b)), uint64(len(b)-8))
			binary.BigEndian.PutUint32(summed[4:], crc32.ChecksumIEEE(append(slices.Clone(b[:4]), b[8:8+n]...)))
		}
		for _, c := range [][]byte{b, summed} {
			if r, ok := begins(c); ok {
				got(t, c, r, (len(r)+71)/64)
			} else {
				refused(t, "any bytes", c)
			}
		}
	})
}
