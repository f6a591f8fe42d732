package keys

import (
	"bytes"
	"strconv"
	"strings"
	"testing"

	"concordat/api"
)

// allowed is the document's list, written out: the code's bounds are held against it.
const allowed = "abcdefghijklmnopqrstuvwxyz0123456789_"

func mayBe(k string) bool {
	if len(k) < 1 || len(k) > 16 {
		return false
	}
	for i := 0; i < len(k); i++ {
		if strings.IndexByte(allowed, k[i]) < 0 {
			return false
		}
	}
	return true
}

func mustCheck(t *testing.T, k string) {
	t.Helper()
	want := mayBe(k)
	if got := Check(k); got != want {
		t.Errorf("Check(%q) = %v, want %v", k, got, want)
	}
	want = want && k[0] == '_'
	if got := Reserved(k); got != want {
		t.Errorf("Reserved(%q) = %v, want %v", k, got, want)
	}
}

// P1.1: the examples of the chapter, and what is near them.
func TestCheckAndReserved(t *testing.T) {
	for _, c := range []struct {
		k               string
		check, reserved bool
	}{
		{"a", true, false},
		{"z", true, false},
		{"0", true, false},
		{"9", true, false},
		{"_", true, true},
		{"a_1", true, false},
		{"a_", true, false},
		{"_a", true, true},
		{"__", true, true},
		{"_m0", true, true},
		{"0_", true, false},
		{"", false, false},
		{"A", false, false},
		{"_A", false, false},
		{"a-b", false, false},
		{"a b", false, false},
		{" a", false, false},
		{"a ", false, false},
		{"a\n", false, false},
		{"_\x00", false, false},
		{"\x00", false, false},
	} {
		if got := Check(c.k); got != c.check {
			t.Errorf("Check(%q) = %v", c.k, got)
		}
		if got := Reserved(c.k); got != c.reserved {
			t.Errorf("Reserved(%q) = %v", c.k, got)
		}
	}
}

// P1.1: the lengths that the document names, and far above them.
func TestLengths(t *testing.T) {
	if api.MaxKey != 16 {
		t.Fatalf("MaxKey is %d", api.MaxKey)
	}
	for n := range 40 {
		want := n >= 1 && n <= 16
		for _, c := range []string{"a", "z", "0", "9", "_"} {
			k := strings.Repeat(c, n)
			if got := Check(k); got != want {
				t.Errorf("Check(%q) = %v", k, got)
			}
			if got := Reserved(k); got != (want && c == "_") {
				t.Errorf("Reserved(%q) = %v", k, got)
			}
		}
	}
	for _, n := range []int{255, 256, 257, 272, 65537, 1 << 20} {
		if k := strings.Repeat("_", n); Check(k) || Reserved(k) {
			t.Errorf("%d bytes may be a key", n)
		}
	}
	// Bytes are counted, not runes: neither makes a key of the other.
	for _, k := range []string{strings.Repeat("é", 8), strings.Repeat("é", 16), strings.Repeat("世", 5)} {
		mustCheck(t, k)
	}
}

// P1.1: the bytes right beside `a`, `z`, `0`, `9`, `_`.
func TestNeighbours(t *testing.T) {
	for _, c := range []byte{'a' - 1, 'z' + 1, '0' - 1, '9' + 1, '_' - 1, '_' + 1} {
		for _, k := range []string{string([]byte{c}), "a" + string([]byte{c}), "_" + string([]byte{c}), string([]byte{c}) + "_"} {
			if Check(k) || Reserved(k) {
				t.Errorf("%q may be a key", k)
			}
		}
	}
}

// P1.1: every text of one byte and of two, and every byte at each place of a long one.
func TestAllBytes(t *testing.T) {
	for a := range 256 {
		mustCheck(t, string([]byte{byte(a)}))
		for b := range 256 {
			mustCheck(t, string([]byte{byte(a), byte(b)}))
		}
		for at := range 16 {
			for _, fill := range []byte{'a', '_'} {
				k := bytes.Repeat([]byte{fill}, 16)
				k[at] = byte(a)
				mustCheck(t, string(k))
			}
		}
	}
}

// P1.1: bytes that are no UTF-8, and runes that have an allowed one's low bits.
func TestNoUTF8(t *testing.T) {
	for _, k := range []string{
		"\xff", "\x80", "\xc3", "a\xc3", "\xc3a", "\xe4\xb8", "\xed\xa0\x80", "\xf4\x90\x80\x80",
		"\xc1\xa1",          // `a`, too long a form
		"\ufffd", "a\ufffd", // what a range answers for bytes that are none
		"\u0161", "\u0130", "\u015f", "\u0661", // low bytes of `a`, `0`, `_`, `a`
		"ａ", "０", "＿", "é", "_é", "\U0001f600", "\U00010061",
	} {
		if Check(k) || Reserved(k) {
			t.Errorf("%q may be a key", k)
		}
	}
}

// P1.2: the examples, texts that others begin with, bytes that are no key's.
func TestIn(t *testing.T) {
	for _, c := range []struct {
		k, from, to string
		want        bool
	}{
		{"b", "a", "c", true},
		{"a", "a", "a", true},
		{"ab", "a", "b", true},
		{"c", "a", "b", false},
		{"b", "c", "a", false},
		{"a", "b", "c", false},
		{"a", "a", "b", true},
		{"b", "a", "b", true},
		{"a", "b", "a", false},
		{"b", "b", "a", false},
		{"a", "ab", "b", false},
		{"ab", "a", "a", false},
		{"a", "a", "ab", true},
		{"ab", "ab", "abc", true},
		{"abc", "ab", "ab", false},
		{"a_", "a", "aa", true},
		{"", "", "", true},
		{"", "", "a", true},
		{"", "a", "b", false},
		{"a", "", "", false},
		{"a", "", "a", true},
		{"10", "1", "9", true},
		{"10", "2", "9", false},
		{"0", "_", "a", false},
		{"_", "0", "a", true},
		{"_", "9", "_", true},
		{"_", "a", "z", false},
		{"B", "a", "z", false},
		{"\xff", "a", "\xff", true},
		{"\xff", "a", "\xfe", false},
		{"\x80", "\x7f", "\x81", true},
		{"\xff", "\ufffd", "\ufffd", false},
		{"\uffff", "\U00010000", "\U0010ffff", false},
		{"a\x00", "a", "a\x01", true},
		{strings.Repeat("z", 17), "z", strings.Repeat("z", 16), false},
		{strings.Repeat("z", 17), "z", strings.Repeat("z", 18), true},
	} {
		if got := In(c.k, c.from, c.to); got != c.want {
			t.Errorf("In(%q, %q, %q) = %v", c.k, c.from, c.to, got)
		}
	}
}

// P1.2: held against bytes, one by one, over all triples of some texts.
func TestInTriples(t *testing.T) {
	l := []string{"", "\x00", "0", "9", "A", "_", "_m1", "_m10", "_m2", "a", "a\x00", "a0", "a_", "aa", "ab", "b", "z", "zz", "{", "é", "\x80", "\xff", "\xff\xff"}
	for _, k := range l {
		for _, from := range l {
			for _, to := range l {
				want := bytes.Compare([]byte(k), []byte(from)) >= 0 && bytes.Compare([]byte(k), []byte(to)) <= 0
				if got := In(k, from, to); got != want {
					t.Errorf("In(%q, %q, %q) = %v", k, from, to, got)
				}
			}
		}
	}
}

// numbers: those where the count of digits, or a kind of integer, changes, and the first ones.
func numbers() []uint32 {
	l := []uint32{1<<15 - 1, 1 << 15, 1<<16 - 1, 1 << 16, 1<<31 - 1, 1 << 31, 4294967294, 4294967295}
	for n := range uint32(2000) {
		l = append(l, n)
	}
	for p := uint32(10000); ; p *= 10 {
		l = append(l, p-1, p, p+1)
		if p == 1000000000 {
			return l
		}
	}
}

// P1.3: `_m`, and the digits.
func TestMarker(t *testing.T) {
	for g, want := range map[uint32]string{0: "_m0", 1: "_m1", 9: "_m9", 10: "_m10", 100: "_m100", 2147483648: "_m2147483648", 4294967295: "_m4294967295"} {
		if got := Marker(g); got != want {
			t.Errorf("Marker(%d) = %q", g, got)
		}
	}
	for _, g := range numbers() {
		digits, found := strings.CutPrefix(Marker(g), "_m")
		n, err := strconv.ParseUint(digits, 10, 32)
		if !found || err != nil || uint32(n) != g {
			t.Errorf("Marker(%d) = %q", g, Marker(g))
		}
		if len(digits) > 1 && digits[0] == '0' || strings.Trim(digits, "0123456789") != "" {
			t.Errorf("Marker(%d) = %q: needless", g, Marker(g))
		}
	}
}

// P1.4: a marker may be a key, is reserved, and is one number's alone.
func TestMarkersAreApart(t *testing.T) {
	whose := map[string]uint32{}
	for _, g := range numbers() {
		m := Marker(g)
		if !Check(m) || !Reserved(m) {
			t.Errorf("Marker(%d) = %q: no reserved key", g, m)
		}
		if other, ok := whose[m]; ok && other != g {
			t.Errorf("%d and %d have the marker %q", other, g, m)
		}
		whose[m] = g
	}
}

// R5: what is asked again is answered again, whatever was asked between.
func TestAgain(t *testing.T) {
	for range 3 {
		if !Check("a_1") || Check("A") || !Reserved("_a") || Reserved("a_") || !In("ab", "a", "b") || Marker(7) != "_m7" {
			t.Fatal("another answer")
		}
	}
}

// R1: no text makes a call panic.
func FuzzKeys(f *testing.F) {
	f.Add("a_1", "", "\xff", uint32(0))
	f.Add("_m1", "_", "a", uint32(4294967295))
	f.Add("\xed\xa0\x80", "a", "z", uint32(10))
	f.Fuzz(func(t *testing.T, k, from, to string, g uint32) {
		mustCheck(t, k)
		mustCheck(t, from+to)
		if In(k, from, to) != (strings.Compare(from, k) <= 0 && strings.Compare(k, to) <= 0) {
			t.Errorf("In(%q, %q, %q)", k, from, to)
		}
		mustCheck(t, Marker(g))
		if !Reserved(Marker(g)) {
			t.Errorf("Marker(%d)", g)
		}
	})
}
