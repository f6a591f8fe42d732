package sectors

import (
	"bytes"
	"math"
	"math/rand"
	"slices"
	"strings"
	"testing"

	"concordat/api"
)

const all = math.MaxUint64

// noughts are a sector of a disk that is new.
var noughts = strings.Repeat("\x00", 64)

// full is a sector of one letter.
func full(s string) string { return strings.Repeat(s, 64) }

// filled is a text, and noughts behind it.
func filled(s string) string { return s + noughts[len(s):] }

// half is what is left of a torn write over what was there.
func half(fresh, was string) string { return filled(fresh)[:32] + filled(was)[32:] }

// made is a disk that must be.
func made(t *testing.T, n int) *Disk {
	t.Helper()
	d, e := New(n)
	if e != api.OK || d == nil {
		t.Fatalf("New(%d): %v %d", n, d, e)
	}
	return d
}

// wrote writes what may be written.
func wrote(t *testing.T, d *Disk, at int, s string) {
	t.Helper()
	if e := d.Write(at, []byte(s)); e != api.OK {
		t.Fatalf("Write(%d, %q): %d", at, s, e)
	}
}

func synced(t *testing.T, d *Disk) {
	t.Helper()
	if e := d.Sync(); e != api.OK {
		t.Fatalf("Sync: %d", e)
	}
}

// failed is another disk, on which nothing waits.
func failed(t *testing.T, d *Disk, keep uint64, torn int) *Disk {
	t.Helper()
	x, e := d.Fail(keep, torn)
	if e != api.OK || x == nil || x == d || x.Waits() != 0 {
		t.Fatalf("Fail(%x, %d): %p of %p, %d wait, %d", keep, torn, x, d, x.Waits(), e)
	}
	return x
}

// is holds all sectors, and how many writes wait, against what they must be; noughts may be left out behind a sector's text.
func is(t *testing.T, d *Disk, waits int, want ...string) {
	t.Helper()
	if d.Size() != len(want) || d.Waits() != waits {
		t.Fatalf("%d sectors, %d wait; want %d, %d", d.Size(), d.Waits(), len(want), waits)
	}
	for at, w := range want {
		if b, e := d.Read(at); e != api.OK || string(b) != filled(w) {
			t.Errorf("Read(%d) = %q %d, want %q", at, b, e, filled(w))
		}
	}
}

// The chapter's examples, in their order.
func TestExamples(t *testing.T) {
	d := made(t, 2)
	wrote(t, d, 0, "a")
	synced(t, d)
	wrote(t, d, 0, "b")
	wrote(t, d, 1, "c")
	is(t, d, 2, "b", "c")
	is(t, failed(t, d, 2, -1), 0, "a", "c")
	is(t, failed(t, d, 3, 0), 0, "b", "c")
	is(t, failed(t, d, 0, 0), 0, "a", "")
	if x, e := d.Fail(0, -2); x != nil || e != api.ErrArg {
		t.Errorf("Fail(0, -2): %v %d", x, e)
	}
	if e := d.Write(2, []byte("a")); e != api.ErrArg {
		t.Errorf("Write(2, a): %d", e)
	}
	if e := d.Write(0, make([]byte, 65)); e != api.ErrArg {
		t.Errorf("Write(0, 65 bytes): %d", e)
	}
	for _, n := range []int{0, 4097} {
		if x, e := New(n); x != nil || e != api.ErrArg {
			t.Errorf("New(%d): %v %d", n, x, e)
		}
	}
	is(t, d, 2, "b", "c")
}

// P4.1: how many sectors may be, and that all are noughts.
func TestNew(t *testing.T) {
	for _, n := range []int{1, 2, 3, 63, 64, 65, 4095, api.MaxSectors} {
		d := made(t, n)
		is(t, d, 0, make([]string, n)...)
		is(t, failed(t, d, all, -1), 0, make([]string, n)...)
	}
	for _, n := range []int{0, -1, -64, api.MaxSectors + 1, 65536, math.MaxInt32, math.MaxInt64, math.MinInt64} {
		if d, e := New(n); d != nil || e != api.ErrArg {
			t.Errorf("New(%d): %v %d", n, d, e)
		}
	}
}

// P4.1: neither writes nor syncs nor failures change how many there are.
func TestSize(t *testing.T) {
	for _, n := range []int{1, 7, api.MaxSectors} {
		d := made(t, n)
		for range 5 {
			wrote(t, d, n-1, "x")
			d.Write(n, []byte("x"))
			if d.Size() != n || failed(t, d, 1, 0).Size() != n {
				t.Errorf("%d: %d", n, d.Size())
			}
		}
		synced(t, d)
		if d.Size() != n {
			t.Errorf("%d: %d", n, d.Size())
		}
	}
}

// P4.2: each count of bytes that may be, over a sector that was full, sure or not.
func TestWriteCounts(t *testing.T) {
	for _, sync := range []bool{false, true} {
		for n := range api.Sector + 1 {
			d := made(t, 3)
			for at := range 3 {
				wrote(t, d, at, full("o"))
			}
			if sync {
				synced(t, d)
			}
			wrote(t, d, 1, strings.Repeat("n", n))
			waits := d.Waits()
			is(t, d, waits, full("o"), strings.Repeat("n", n), full("o"))
			synced(t, d)
			is(t, d, 0, full("o"), strings.Repeat("n", n), full("o"))
		}
	}
}

// P4.2: bytes of all values, noughts and those that are no text among them.
func TestWriteValues(t *testing.T) {
	d := made(t, 4)
	var want []string
	for at := range 4 {
		b := make([]byte, api.Sector)
		for i := range b {
			b[i] = byte(64*at + i)
		}
		want = append(want, string(b))
		wrote(t, d, at, string(b))
	}
	is(t, d, 4, want...)
	is(t, failed(t, d, all, -1), 0, want...)
	synced(t, d)
	is(t, d, 0, want...)
}

// P4.2: no bytes, there or not, make a sector noughts, and are a write.
func TestWriteNone(t *testing.T) {
	for _, b := range [][]byte{nil, {}, []byte("spare")[:0]} {
		d := made(t, 2)
		wrote(t, d, 0, full("o"))
		wrote(t, d, 1, full("p"))
		synced(t, d)
		if e := d.Write(0, b); e != api.OK {
			t.Fatalf("Write(0, no bytes): %d", e)
		}
		is(t, d, 1, "", full("p"))
		is(t, failed(t, d, 0, -1), 0, full("o"), full("p"))
		is(t, failed(t, d, 1, -1), 0, "", full("p"))
		is(t, failed(t, d, 1, 0), 0, noughts[:32]+full("o")[32:], full("p"))
	}
}

// P4.2: a sector that was written again, with fewer bytes, and with more.
func TestWriteAgain(t *testing.T) {
	d := made(t, 1)
	for i, s := range []string{full("a"), "bb", "", "c", full("d"), full("e")[:63], "f"} {
		wrote(t, d, 0, s)
		is(t, d, i+1, s)
	}
	synced(t, d)
	is(t, d, 0, "f")
	wrote(t, d, 0, "")
	is(t, d, 1, "")
}

// P4.2: each sector is its own, the first and the last too.
func TestEachSector(t *testing.T) {
	for _, n := range []int{1, 2, 3, 64, 65} {
		for at := range n {
			d := made(t, n)
			want := make([]string, n)
			want[at] = full("x")
			wrote(t, d, at, want[at])
			is(t, d, 1, want...)
			is(t, failed(t, d, 1, -1), 0, want...)
			synced(t, d)
			is(t, d, 0, want...)
		}
	}
}

// P4.2: the greatest disk, all of it written, read before and behind Sync.
func TestWholeDisk(t *testing.T) {
	d := made(t, api.MaxSectors)
	want := make([]string, api.MaxSectors)
	for at := range want {
		want[at] = string([]byte{byte(at >> 8), byte(at), 1})
		wrote(t, d, at, want[at])
	}
	is(t, d, api.MaxSectors, want...)
	is(t, failed(t, d, all, -1), 0, append(slices.Clone(want[:64]), make([]string, api.MaxSectors-64)...)...)
	synced(t, d)
	is(t, d, 0, want...)
	is(t, failed(t, d, 0, -1), 0, want...)
}

// P4.2, P4.4, R2: what may not be, answers ErrArg and nothing else, and changes nothing.
func TestWrongArguments(t *testing.T) {
	for _, n := range []int{1, 2, api.MaxSectors} {
		d := made(t, n)
		wrote(t, d, 0, "sure")
		synced(t, d)
		wrote(t, d, 0, "not sure")
		want := append([]string{"not sure"}, make([]string, n-1)...)
		for _, at := range []int{-1, -2, n, n + 1, -n, api.MaxSectors, math.MaxInt32, 1 << 32, math.MaxInt64, math.MinInt64} {
			for _, b := range [][]byte{nil, []byte("x"), make([]byte, 64), make([]byte, 65)} {
				if e := d.Write(at, b); e != api.ErrArg {
					t.Errorf("Write(%d, %d bytes) of %d sectors: %d", at, len(b), n, e)
				}
			}
			if b, e := d.Read(at); len(b) != 0 || e != api.ErrArg {
				t.Errorf("Read(%d) of %d sectors: %q %d", at, n, b, e)
			}
		}
		for _, c := range []int{65, 66, 127, 128, 16384} {
			if e := d.Write(0, bytes.Repeat([]byte("x"), c)); e != api.ErrArg {
				t.Errorf("Write(0, %d bytes): %d", c, e)
			}
		}
		for _, torn := range []int{-2, -3, -64, math.MinInt32, math.MinInt64} {
			for _, keep := range []uint64{0, 1, all} {
				if x, e := d.Fail(keep, torn); x != nil || e != api.ErrArg {
					t.Errorf("Fail(%x, %d): %v %d", keep, torn, x, e)
				}
			}
		}
		is(t, d, 1, want...)
		is(t, failed(t, d, 1, -1), 0, want...)
		want[0] = "sure"
		is(t, failed(t, d, 0, -1), 0, want...)
	}
}

// P4.3: each write waits, those of one sector and those that change nothing too; Sync makes all sure, as often as it is called.
func TestSyncWaits(t *testing.T) {
	d := made(t, 2)
	for round := range 3 {
		synced(t, d)
		synced(t, d)
		for i := range 200 {
			if d.Waits() != i {
				t.Fatalf("round %d: %d wait, want %d", round, d.Waits(), i)
			}
			wrote(t, d, 0, "same")
			d.Read(0)
			d.Fail(all, -1)
		}
		is(t, d, 200, "same", "")
		synced(t, d)
		is(t, d, 0, "same", "")
		is(t, failed(t, d, 0, -1), 0, "same", "")
	}
}

// P4.3, P4.4: behind Sync the writes count from 0 on again.
func TestNumbersAfterSync(t *testing.T) {
	d := made(t, 3)
	for range 100 {
		wrote(t, d, 0, "old")
	}
	synced(t, d)
	wrote(t, d, 1, full("x"))
	wrote(t, d, 2, full("y"))
	is(t, failed(t, d, 1, -1), 0, "old", full("x"), "")
	is(t, failed(t, d, 2, -1), 0, "old", "", full("y"))
	is(t, failed(t, d, 3, 1), 0, "old", full("x"), half(full("y"), ""))
	is(t, failed(t, d, ^uint64(3), -1), 0, "old", "", "")
}

// P4.4: of five writes, all choices of those that are kept.
func TestKeep(t *testing.T) {
	d := made(t, 3)
	wrote(t, d, 0, "sure")
	synced(t, d)
	list := []struct {
		at int
		s  string
	}{{0, full("a")}, {1, "b"}, {0, "c"}, {1, full("d")}, {2, "e"}}
	for _, w := range list {
		wrote(t, d, w.at, w.s)
	}
	for keep := range uint64(64) {
		want := []string{"sure", "", ""}
		for i, w := range list {
			if keep&(1<<i) != 0 {
				want[w.at] = w.s
			}
		}
		for _, torn := range []int{-1, 5, 6, 63, 64, math.MaxInt64} {
			is(t, failed(t, d, keep, torn), 0, want...)
			is(t, failed(t, d, keep|^uint64(31), torn), 0, want...)
		}
	}
	is(t, d, 5, "c", full("d"), "e")
}

// P4.4: of seventy writes only the first 64 can be kept, each by its own bit.
func TestMoreThanKeepNames(t *testing.T) {
	d := made(t, 70)
	want := make([]string, 70)
	for i := range 70 {
		want[i] = string([]byte{byte(i), 'w'})
		wrote(t, d, i, want[i])
	}
	is(t, d, 70, want...)
	is(t, failed(t, d, all, -1), 0, append(slices.Clone(want[:64]), make([]string, 6)...)...)
	is(t, failed(t, d, 0, -1), 0, make([]string, 70)...)
	for i := range 64 {
		one := make([]string, 70)
		one[i] = want[i]
		is(t, failed(t, d, 1<<i, -1), 0, one...)
	}
	for torn := 64; torn < 72; torn++ {
		is(t, failed(t, d, all, torn), 0, append(slices.Clone(want[:64]), make([]string, 6)...)...)
	}
	synced(t, d)
	is(t, failed(t, d, 0, -1), 0, want...)
}

// P4.4: seventy writes of one sector: the last one that is kept is what is left, and none of those behind the 64th.
func TestManyOfOneSector(t *testing.T) {
	d := made(t, 1)
	for i := range 70 {
		wrote(t, d, 0, full(string([]byte{byte(i + 1)})))
	}
	is(t, d, 70, full("\x46"))
	is(t, failed(t, d, all, -1), 0, full("\x40"))
	is(t, failed(t, d, all, 63), 0, half(full("\x40"), full("\x3f")))
	is(t, failed(t, d, 1<<63, 63), 0, half(full("\x40"), ""))
	is(t, failed(t, d, 1<<63|1, 63), 0, half(full("\x40"), full("\x01")))
	is(t, failed(t, d, all, 69), 0, full("\x40"))
	is(t, failed(t, d, all>>1, -1), 0, full("\x3f"))
}

// P4.4: torn at each write: its first 32 bytes, and behind them what was sure there.
func TestTornEach(t *testing.T) {
	d := made(t, 4)
	want := make([]string, 4)
	for at := range 4 {
		want[at] = full(string([]byte{byte('a' + at)}))
		wrote(t, d, at, full("o"))
	}
	synced(t, d)
	for at := range 4 {
		wrote(t, d, at, want[at])
	}
	for torn := -1; torn < 6; torn++ {
		left := slices.Clone(want)
		if torn >= 0 && torn < 4 {
			left[torn] = half(want[torn], full("o"))
		}
		is(t, failed(t, d, all, torn), 0, left...)
		is(t, failed(t, d, 15, torn), 0, left...)
	}
	is(t, d, 4, want...)
}

// P4.4: a write of few bytes that is torn: the noughts behind them are of the write as far as the 32nd byte.
func TestTornFewBytes(t *testing.T) {
	for n := range api.Sector + 1 {
		d := made(t, 1)
		wrote(t, d, 0, full("o"))
		synced(t, d)
		s := full("n")[:n]
		wrote(t, d, 0, s)
		is(t, failed(t, d, 1, 0), 0, half(s, full("o")))
		is(t, failed(t, d, 1, -1), 0, s)
	}
}

// P4.4: what is torn, but not kept, leaves nothing; what is kept is whole.
func TestTornNotKept(t *testing.T) {
	d := made(t, 2)
	wrote(t, d, 0, full("o"))
	synced(t, d)
	wrote(t, d, 0, full("n"))
	wrote(t, d, 1, full("m"))
	is(t, failed(t, d, 0, 0), 0, full("o"), "")
	is(t, failed(t, d, 0, 1), 0, full("o"), "")
	is(t, failed(t, d, 2, 0), 0, full("o"), full("m"))
	is(t, failed(t, d, 1, 1), 0, full("n"), "")
}

// P4.4: two writes of one sector, of which one is torn: as they were is as the kept ones ahead of it left them, and the kept ones behind it go over it.
func TestTornOfTwo(t *testing.T) {
	d := made(t, 1)
	wrote(t, d, 0, full("o"))
	synced(t, d)
	wrote(t, d, 0, full("m"))
	wrote(t, d, 0, full("n")[:60])
	for _, c := range []struct {
		keep uint64
		torn int
		want string
	}{
		{0, 0, full("o")}, {0, 1, full("o")},
		{1, 0, half(full("m"), full("o"))}, {1, 1, full("m")},
		{2, 0, full("n")[:60]}, {2, 1, half(full("n"), full("o"))},
		{3, 0, full("n")[:60]}, {3, 1, half(full("n"), full("m"))},
		{3, -1, full("n")[:60]}, {3, 2, full("n")[:60]},
	} {
		is(t, failed(t, d, c.keep, c.torn), 0, c.want)
	}
	is(t, d, 2, full("n")[:60])
}

// P4.5: whatever is kept, what is sure stays where nothing was written behind it; where nothing waits, all of it.
func TestSureStays(t *testing.T) {
	d := made(t, 4)
	for at := range 4 {
		wrote(t, d, at, full("s"))
	}
	synced(t, d)
	for _, keep := range []uint64{0, 1, 2, 5, 1 << 63, all} {
		for torn := -1; torn < 66; torn++ {
			is(t, failed(t, d, keep, torn), 0, full("s"), full("s"), full("s"), full("s"))
		}
	}
	for i := range 100 {
		wrote(t, d, i%2, full("n"))
	}
	for _, keep := range []uint64{0, 1, 2, 5, 1 << 63, all} {
		for torn := -1; torn < 66; torn++ {
			x := failed(t, d, keep, torn)
			for at := 2; at < 4; at++ {
				if b, e := x.Read(at); e != api.OK || string(b) != full("s") {
					t.Fatalf("Fail(%x, %d): sector %d is %q %d", keep, torn, at, b, e)
				}
			}
		}
	}
}

// P4.4: nothing of a disk that is left is not sure: it stays when that one fails with nothing kept.
func TestFailedIsSure(t *testing.T) {
	d := made(t, 2)
	wrote(t, d, 0, full("a"))
	wrote(t, d, 1, full("b"))
	x := failed(t, d, 3, 1)
	is(t, failed(t, x, 0, -1), 0, full("a"), half(full("b"), ""))
	is(t, failed(t, failed(t, x, all, 0), 0, 0), 0, full("a"), half(full("b"), ""))
}

// P4.4, R5: a disk that failed, used on beside the first one: neither sees what is done with the other.
func TestUsedOn(t *testing.T) {
	d := made(t, 3)
	wrote(t, d, 0, "a")
	synced(t, d)
	wrote(t, d, 1, "b")
	x := failed(t, d, 1, -1)
	y := failed(t, d, 1, -1)
	wrote(t, x, 0, "x")
	wrote(t, x, 2, "x")
	is(t, d, 1, "a", "b", "")
	is(t, y, 0, "a", "b", "")
	synced(t, x)
	is(t, x, 0, "x", "b", "x")
	is(t, d, 1, "a", "b", "")
	is(t, y, 0, "a", "b", "")
	is(t, failed(t, d, 0, -1), 0, "a", "", "")
	wrote(t, d, 0, "d")
	is(t, d, 2, "d", "b", "")
	synced(t, d)
	is(t, d, 0, "d", "b", "")
	is(t, x, 0, "x", "b", "x")
	is(t, y, 0, "a", "b", "")
	wrote(t, y, 1, "y")
	is(t, failed(t, y, 1, -1), 0, "a", "y", "")
	is(t, d, 0, "d", "b", "")
}

// R5: two disks that are new have nothing in common.
func TestTwoDisks(t *testing.T) {
	c, d := made(t, 2), made(t, 2)
	wrote(t, c, 0, "c")
	is(t, d, 0, "", "")
	wrote(t, d, 0, "d")
	synced(t, c)
	is(t, c, 0, "c", "")
	is(t, d, 1, "d", "")
	is(t, failed(t, d, 0, -1), 0, "", "")
	is(t, made(t, 2), 0, "", "")
}

// R4: what is handed in stays as it was, its spare room too, and is not kept.
func TestHandedIn(t *testing.T) {
	for n := range api.Sector + 1 {
		d := made(t, 1)
		in := append([]byte(full("n")[:n]), full("spare")...)
		was := string(in)
		if e := d.Write(0, in[:n]); e != api.OK {
			t.Fatal(n, e)
		}
		d.Fail(1, 0)
		d.Read(0)
		synced(t, d)
		wrote(t, d, 0, "x")
		if string(in) != was {
			t.Errorf("%q became %q", was, in)
		}
	}
	d := made(t, 1)
	in := []byte(full("n"))
	d.Write(0, in)
	clear(in)
	is(t, d, 1, full("n"))
	is(t, failed(t, d, 1, -1), 0, full("n"))
	synced(t, d)
	is(t, d, 0, full("n"))
}

// R4: answers are memory of their own, spare room too.
func TestAnswers(t *testing.T) {
	d := made(t, 2)
	wrote(t, d, 0, "sure")
	synced(t, d)
	wrote(t, d, 1, "not sure")
	for at, s := range []string{"sure", "not sure"} {
		b, _ := d.Read(at)
		c, _ := d.Read(at)
		b = b[:cap(b)]
		for i := range b {
			b[i] = '!'
		}
		if string(c) != filled(s) {
			t.Errorf("sector %d: one answer changed another one: %q", at, c)
		}
		is(t, d, 1, "sure", "not sure")
		is(t, failed(t, d, 1, -1), 0, "sure", "not sure")
	}
	synced(t, d)
	is(t, d, 0, "sure", "not sure")
}

// R3: a disk that is not there, or that no call made, at all arguments, the wrong ones too; it does not become one.
func TestNone(t *testing.T) {
	for what, d := range map[string]*Disk{"nil": nil, "zero": {}} {
		for range 2 {
			for _, n := range []int{-2, -1, 0, 1, 64, math.MaxInt64, math.MinInt64} {
				for _, b := range [][]byte{nil, []byte("x"), make([]byte, 65)} {
					if e := d.Write(n, b); e != api.ErrNil {
						t.Errorf("%s: Write(%d): %d", what, n, e)
					}
				}
				if b, e := d.Read(n); len(b) != 0 || e != api.ErrNil {
					t.Errorf("%s: Read(%d): %q %d", what, n, b, e)
				}
				if x, e := d.Fail(all, n); x != nil || e != api.ErrNil {
					t.Errorf("%s: Fail(%d): %v %d", what, n, x, e)
				}
			}
			if e := d.Sync(); e != api.ErrNil {
				t.Errorf("%s: Sync: %d", what, e)
			}
			if d.Size() != 0 || d.Waits() != 0 {
				t.Errorf("%s: %d sectors, %d wait", what, d.Size(), d.Waits())
			}
		}
	}
}

// words is a disk as the chapter's words have it: what is sure, and each write behind it.
type words struct {
	sure  []string
	waits []wordsWrite
}

type wordsWrite struct {
	at int
	s  string
}

func (w *words) after(kept func(i int) bool, torn int) []string {
	left := slices.Clone(w.sure)
	for i, x := range w.waits {
		if !kept(i) {
			continue
		}
		if i == torn {
			left[x.at] = half(x.s, left[x.at])
		} else {
			left[x.at] = x.s
		}
	}
	return left
}

func (w *words) seen() []string {
	return w.after(func(int) bool { return true }, -1)
}

func (w *words) fail(keep uint64, torn int) *words {
	return &words{sure: w.after(func(i int) bool { return i < 64 && keep&(1<<i) != 0 }, torn)}
}

// steps takes bytes as what is done with a disk, and with those that are left of it, and holds each against the words.
func steps(t *testing.T, b []byte) {
	next := func() int {
		if len(b) == 0 {
			return 0
		}
		x := b[0]
		b = b[1:]
		return int(x)
	}
	n := next()%5 + 1
	d := made(t, n)
	w := &words{sure: slices.Repeat([]string{noughts}, n)}
	for len(b) > 0 {
		switch next() % 8 {
		case 0:
			synced(t, d)
			w = &words{sure: w.seen()}
		case 1, 2:
			keep, torn := uint64(0), next()%80-3
			for range 8 {
				keep = keep<<8 | uint64(next())
			}
			if torn < -1 {
				if x, e := d.Fail(keep, torn); x != nil || e != api.ErrArg {
					t.Fatalf("Fail(%x, %d): %v %d", keep, torn, x, e)
				}
				break
			}
			was, left := d, w.fail(keep, torn)
			x := failed(t, d, keep, torn)
			is(t, x, 0, left.sure...)
			is(t, was, len(w.waits), w.seen()...)
			if next()%4 == 0 {
				d, w = x, left
			}
		default:
			at, s := next()%(n+2)-1, strings.Repeat(string([]byte{byte(next())}), next()%67)
			e := d.Write(at, []byte(s))
			if at < 0 || at >= n || len(s) > api.Sector {
				if e != api.ErrArg {
					t.Fatalf("Write(%d, %d bytes): %d", at, len(s), e)
				}
				break
			}
			if e != api.OK {
				t.Fatalf("Write(%d, %d bytes): %d", at, len(s), e)
			}
			w.waits = append(w.waits, wordsWrite{at, filled(s)})
		}
		is(t, d, len(w.waits), w.seen()...)
	}
}

// P4.1 to P4.5: many runs, against the chapter's words.
func TestByWords(t *testing.T) {
	r := rand.New(rand.NewSource(4))
	for range 400 {
		b := make([]byte, r.Intn(700))
		r.Read(b)
		steps(t, b)
	}
}

// R5: what is done again is answered again.
func TestAgain(t *testing.T) {
	run := func() string {
		d := made(t, 40)
		var told strings.Builder
		for i := range 500 {
			wrote(t, d, i*7%40, string([]byte{byte(i), byte(i * 3)}))
			if i%101 == 100 {
				synced(t, d)
			}
			x := failed(t, d, 0x5a5a5a5a5a5a5a5a, i%64)
			for _, y := range []*Disk{d, x} {
				b, _ := y.Read(i % 40)
				told.Write(b)
			}
		}
		return told.String()
	}
	first := run()
	for range 3 {
		if run() != first {
			t.Fatal("another answer")
		}
	}
}

// R1, P4.1 to P4.5: any run.
func FuzzDisk(f *testing.F) {
	f.Add([]byte(nil))
	f.Add([]byte{1, 3, 1, 'a', 1, 0, 3, 1, 'b', 1, 3, 2, 'c', 1, 1, 3, 0, 0, 0, 0, 0, 0, 0, 3, 0})
	f.Add(bytes.Repeat([]byte{4, 1, 'x', 64}, 80))
	f.Fuzz(func(t *testing.T, b []byte) {
		if len(b) > 4096 {
			return
		}
		steps(t, b)
	})
}
