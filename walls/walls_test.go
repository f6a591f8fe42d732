package walls

import (
	"bytes"
	"encoding/binary"
	"hash/crc32"
	"math"
	"math/rand"
	"slices"
	"strings"
	"testing"

	"concordat/api"
	"concordat/sectors"
)

const all = math.MaxUint64

// byWords is a record's frame, as chapter 5 says it; the sum is the library's CRC-32.
func byWords(record []byte) []byte {
	b := binary.BigEndian.AppendUint32(nil, uint32(len(record)))
	b = binary.BigEndian.AppendUint32(b, crc32.ChecksumIEEE(append(slices.Clone(b), record...)))
	b = append(b, record...)
	for len(b)%64 != 0 {
		b = append(b, 0)
	}
	return b
}

// framesOf are the frames of records, one right behind the other.
func framesOf(records ...[]byte) []byte {
	var b []byte
	for _, r := range records {
		b = append(b, byWords(r)...)
	}
	return b
}

// told is the chapter's sentence on a disk's records: those on these bytes, and how many bytes their frames have.
func told(b []byte) (records [][]byte, end int) {
	for {
		rest := b[end:]
		if len(rest) < 64 {
			return records, end
		}
		n := binary.BigEndian.Uint32(rest)
		if n > api.MaxRecord || int(n) > len(rest)-8 || !bytes.HasPrefix(rest, byWords(rest[8:8+n])) {
			return records, end
		}
		records = append(records, rest[8:8+n])
		end += len(byWords(rest[8 : 8+n]))
	}
}

// mixed: so many bytes, the same ones each time, none of them 0.
func mixed(n int) []byte {
	r := rand.New(rand.NewSource(int64(n)))
	b := make([]byte, n)
	for i := range b {
		b[i] = byte(1 + r.Intn(255))
	}
	return b
}

// disk is a new one.
func disk(t *testing.T, n int) *sectors.Disk {
	t.Helper()
	d, e := sectors.New(n)
	if e != api.OK {
		t.Fatalf("New(%d): %d", n, e)
	}
	return d
}

// laid is a disk of n sectors, on which these bytes stand from a sector on, and are sure.
func laid(t *testing.T, n, at int, b []byte) *sectors.Disk {
	t.Helper()
	d := disk(t, n)
	lay(t, d, at, b)
	d.Sync()
	return d
}

// lay writes bytes onto a disk from a sector on.
func lay(t *testing.T, d *sectors.Disk, at int, b []byte) {
	t.Helper()
	for s := range slices.Chunk(b, 64) {
		if e := d.Write(at, s); e != api.OK {
			t.Fatalf("Write(%d): %d", at, e)
		}
		at++
	}
}

// image is all of a disk, as it is read.
func image(d *sectors.Disk) []byte {
	var b []byte
	for at := range d.Size() {
		s, _ := d.Read(at)
		b = append(b, s...)
	}
	return b
}

// failed is what is left of a disk.
func failed(t *testing.T, d *sectors.Disk, keep uint64, torn int) *sectors.Disk {
	t.Helper()
	x, e := d.Fail(keep, torn)
	if e != api.OK {
		t.Fatalf("Fail(%x, %d): %d", keep, torn, e)
	}
	return x
}

// is holds a disk against what must stand on it; noughts may be left out at its end.
func is(t *testing.T, d *sectors.Disk, want []byte) {
	t.Helper()
	want = append(slices.Clone(want), make([]byte, d.Size()*64-len(want))...)
	got := image(d)
	for at := range d.Size() {
		if g, w := got[at*64:at*64+64], want[at*64:at*64+64]; !bytes.Equal(g, w) {
			t.Errorf("sector %d is %q, want %q", at, g, w)
		}
	}
}

// same holds records against those that must be.
func same(t *testing.T, got, want [][]byte) {
	t.Helper()
	if !slices.EqualFunc(got, want, bytes.Equal) {
		t.Fatalf("%d records %.200q, want %d: %.200q", len(got), got, len(want), want)
	}
}

// opened is a log, on a disk of which these records are told; their frames stand there, and nothing else, and all is sure.
func opened(t *testing.T, d *sectors.Disk, want ...[]byte) *Log {
	t.Helper()
	l, records, e := Open(d)
	if l == nil || e != api.OK {
		t.Fatalf("Open: %v %d", l, e)
	}
	same(t, records, want)
	if d.Waits() != 0 {
		t.Errorf("%d writes wait", d.Waits())
	}
	is(t, d, framesOf(want...))
	is(t, failed(t, d, 0, -1), framesOf(want...))
	return l
}

// added holds what Add answers.
func added(t *testing.T, l *Log, record []byte, want api.Errno) {
	t.Helper()
	if e := l.Add(record); e != want {
		t.Fatalf("Add(%d bytes): %d, want %d", len(record), e, want)
	}
}

// forced forces what may be forced.
func forced(t *testing.T, l *Log) {
	t.Helper()
	if e := l.Force(); e != api.OK {
		t.Fatalf("Force: %d", e)
	}
}

// The chapter's examples, in their order.
func TestExamples(t *testing.T) {
	d := disk(t, 4)
	l := opened(t, d)
	hundred := mixed(100)
	added(t, l, []byte("a"), api.OK)
	added(t, l, hundred, api.OK)
	if !l.Room(56) || l.Room(57) {
		t.Errorf("Room: %v %v", l.Room(56), l.Room(57))
	}
	added(t, l, make([]byte, 57), api.ErrFull)
	forced(t, l)
	added(t, l, []byte("b"), api.OK)
	opened(t, failed(t, d, 0, -1), []byte("a"), hundred)
	if l, r, e := Open(nil); l != nil || len(r) != 0 || e != api.ErrNil {
		t.Errorf("Open(none): %v %q %d", l, r, e)
	}
	added(t, l, make([]byte, 16385), api.ErrLimit)
}

// P6.1, R3: a disk that is not there, and one that no call made, as often as it is opened.
func TestOpenNone(t *testing.T) {
	zero := &sectors.Disk{}
	for _, d := range []*sectors.Disk{nil, zero, zero} {
		if l, r, e := Open(d); l != nil || len(r) != 0 || e != api.ErrNil {
			t.Errorf("Open: %v %q %d", l, r, e)
		}
	}
}

// R3: a log that is not there, or that no call made, at all arguments, the wrong ones too; it does not become one.
func TestNoLog(t *testing.T) {
	for what, l := range map[string]*Log{"nil": nil, "zero": {}} {
		for range 2 {
			for _, r := range [][]byte{nil, {}, []byte("a"), make([]byte, api.MaxRecord), make([]byte, api.MaxRecord+1)} {
				if e := l.Add(r); e != api.ErrNil {
					t.Errorf("%s: Add(%d bytes): %d", what, len(r), e)
				}
			}
			if e := l.Force(); e != api.ErrNil {
				t.Errorf("%s: Force: %d", what, e)
			}
			for _, n := range []int{-1, 0, 1, 56, 57, api.MaxRecord, api.MaxRecord + 1, math.MaxInt64, math.MinInt64} {
				if l.Room(n) {
					t.Errorf("%s: Room(%d)", what, n)
				}
			}
		}
	}
}

// P6.1: new disks, the smallest one and the greatest one among them, have no records.
func TestOpenNew(t *testing.T) {
	for _, n := range []int{1, 2, 3, 256, 257, 258, api.MaxSectors} {
		d := disk(t, n)
		opened(t, d)
		opened(t, d)
		is(t, d, nil)
	}
}

// someLists: of records; of no bytes, of noughts, of one, two and of most sectors; such as are frames themselves.
func someLists() [][][]byte {
	return [][][]byte{
		nil,
		{nil},
		{[]byte("a")},
		{mixed(56)},
		{mixed(57)},
		{nil, nil, nil},
		{make([]byte, 1), make([]byte, 56), make([]byte, 57), make([]byte, 200)},
		{mixed(56), mixed(57), mixed(120), mixed(121), nil},
		{byWords([]byte("a")), byWords(nil), framesOf(mixed(50), mixed(60))},
		{mixed(api.MaxRecord)},
		{[]byte("a"), mixed(api.MaxRecord), []byte("b"), make([]byte, api.MaxRecord), mixed(api.MaxRecord - 1)},
	}
}

// P6.1: frames by the words of chapter 5 are told, those that fill the disk too, sure or not.
func TestOpenTells(t *testing.T) {
	for _, list := range someLists() {
		b := framesOf(list...)
		for _, more := range []int{0, 1, 2, 70} {
			n := len(b)/64 + more
			if n == 0 {
				continue
			}
			opened(t, laid(t, n, 0, b), list...)
			d := disk(t, n)
			lay(t, d, 0, b)
			opened(t, d, list...)
		}
	}
}

// P6.1: the greatest disk, full of records of one sector.
func TestOpenMost(t *testing.T) {
	var list [][]byte
	for i := range api.MaxSectors {
		list = append(list, []byte{byte(i >> 8), byte(i)})
	}
	d := laid(t, api.MaxSectors, 0, framesOf(list...))
	l := opened(t, d, list...)
	added(t, l, nil, api.ErrFull)
}

// P6.1: a disk is taken as it is read: what is not sure counts over what is.
func TestOpenNotSure(t *testing.T) {
	a, b := []byte("a"), []byte("b")
	d := laid(t, 4, 0, framesOf(a, a, a))
	lay(t, d, 1, byWords(b))
	opened(t, d, a, b, a)
	lay(t, d, 1, make([]byte, 64))
	opened(t, d, a)
	lay(t, d, 0, byWords(mixed(100)))
	opened(t, d, mixed(100))
	lay(t, d, 0, mixed(64))
	opened(t, d)
}

// turned is bytes with one of them turned.
func turned(b []byte, at int) []byte {
	b = slices.Clone(b)
	b[at] ^= 1
	return b
}

// join is bytes one behind the other.
func join(l ...[]byte) []byte { return bytes.Join(l, nil) }

// someRests: what may stand behind the records that is none, of at most 8 sectors.
func someRests() map[string][]byte {
	a, two, none := byWords([]byte("a")), byWords(mixed(100)), make([]byte, 64)
	return map[string][]byte{
		"nothing":                                nil,
		"noughts":                                make([]byte, 512),
		"other bytes":                            mixed(512),
		"other bytes in the last sector":         join(make([]byte, 448), mixed(64)),
		"one byte, a sector's first":             join(none, []byte{1}, make([]byte, 63)),
		"one byte, a sector's last":              join(none, make([]byte, 63), []byte{128}),
		"one byte, the first of all":             {255},
		"a frame that is broken in its length":   turned(a, 3),
		"a frame that is broken in its sum":      turned(a, 4),
		"a frame that is broken in its record":   turned(a, 8),
		"a frame that is broken in its noughts":  turned(a, 63),
		"a frame without its first sector":       two[64:],
		"a frame without its last sector":        two[:64],
		"a frame with noughts for its last one":  join(two[:64], none),
		"a frame with noughts for its first one": join(none, two[64:]),
		"a frame that is cut by the disk's end":  byWords(mixed(505))[:512],
		"a whole frame behind noughts":           join(none, a),
		"a whole frame behind a broken one":      join(turned(a, 9), a),
		"whole frames behind broken ones":        join(turned(two, 127), a, turned(a, 0), two, none, a),
		"noughts between frames":                 join(none, a, none, none, a, none, two),
		"a frame half a sector on":               join(none[:32], a, none[:32]),
		"torn frames":                            join(two[:32], none[:32], two[64:96], none[:32], a),
	}
}

// P6.1: whatever stands behind the records is not told, and is noughts then, all of it sure; the records stay.
func TestRest(t *testing.T) {
	for _, list := range [][][]byte{nil, {nil}, {[]byte("a")}, {mixed(56), mixed(57)}, {mixed(3000), nil}} {
		b := framesOf(list...)
		for what, rest := range someRests() {
			t.Run(what, func(t *testing.T) {
				l := opened(t, laid(t, len(b)/64+8, 0, join(b, rest)), list...)
				if !l.Room(504) || l.Room(505) {
					t.Errorf("Room: %v %v", l.Room(504), l.Room(505))
				}
				d := laid(t, len(b)/64+8, 0, b)
				lay(t, d, len(b)/64, rest)
				opened(t, d, list...)
			})
		}
	}
}

// P6.1: what stood behind the records does not come back, when others are added that end where it stood.
func TestRestStaysGone(t *testing.T) {
	for what, rest := range someRests() {
		t.Run(what, func(t *testing.T) {
			d := laid(t, 9, 0, join(byWords([]byte("a")), rest))
			list := [][]byte{[]byte("a")}
			for range 8 {
				l := opened(t, d, list...)
				list = append(list, []byte("new"))
				added(t, l, []byte("new"), api.OK)
				d = failed(t, d, all, -1)
			}
			opened(t, d, list...)
		})
	}
}

// P6.1: which sectors are written, and in which order: each that has another byte than 0, no others, rising; each write is seen alone, ahead of the Sync.
func TestWipe(t *testing.T) {
	for what, rest := range someRests() {
		for next := range 3 {
			b := join(mixed(64*next), rest)
			d := laid(t, next+8, 0, b)
			b = image(d)
			var want []int
			for at := next; at < d.Size(); at++ {
				if !bytes.Equal(b[64*at:64*at+64], make([]byte, 64)) {
					want = append(want, at)
				}
			}
			(&place{disk: d, next: next}).wipe()
			if d.Waits() != len(want) {
				t.Fatalf("%s, from %d on: %d writes, want %d", what, next, d.Waits(), len(want))
			}
			for i, at := range want {
				left := slices.Clone(b)
				clear(left[64*at : 64*at+64])
				is(t, failed(t, d, 1<<i, -1), left)
			}
		}
	}
}

// P6.1: many sectors, each second one, more of them than a failure can keep.
func TestWipeMany(t *testing.T) {
	d := disk(t, api.MaxSectors)
	for at := 1; at < api.MaxSectors; at += 2 {
		d.Write(at, []byte{1})
	}
	d.Sync()
	(&place{disk: d, next: 100}).wipe()
	if d.Waits() != (api.MaxSectors-100)/2 {
		t.Errorf("%d writes", d.Waits())
	}
	for i := range 64 {
		left := image(failed(t, d, 0, -1))
		left[64*(101+2*i)] = 0
		is(t, failed(t, d, 1<<i, -1), left)
	}
	opened(t, d)
}

// P6.2: a frame is written behind the records, sector by sector, in order: each write is seen alone.
func TestAdd(t *testing.T) {
	for _, n := range []int{0, 1, 8, 55, 56, 57, 119, 120, 121, 184, 185, 1000, 4000, 4088} {
		for _, before := range [][]byte{nil, byWords([]byte("a")), framesOf(mixed(100), nil)} {
			record := mixed(n)
			frame := byWords(record)
			d := laid(t, 70, 0, before)
			records, _ := told(before)
			l := opened(t, d, records...)
			added(t, l, record, api.OK)
			if d.Waits() != len(frame)/64 {
				t.Fatalf("%d bytes: %d writes", n, d.Waits())
			}
			is(t, d, join(before, frame))
			for i := range d.Waits() {
				left := join(before, make([]byte, 64*i), frame[64*i:64*i+64])
				is(t, failed(t, d, 1<<i, -1), left)
			}
			opened(t, failed(t, d, all, -1), append(records, record)...)
		}
	}
}

// P6.2: records one behind the other, without Force between; none of those before is written again.
func TestAddMany(t *testing.T) {
	for _, list := range someLists() {
		b := framesOf(list...)
		d := disk(t, len(b)/64+1)
		l := opened(t, d)
		for i, r := range list {
			added(t, l, r, api.OK)
			so := framesOf(list[:i+1]...)
			if d.Waits() != len(so)/64 {
				t.Errorf("%d records: %d writes", i+1, d.Waits())
			}
			is(t, d, so)
		}
		is(t, failed(t, d, 0, -1), nil)
		opened(t, d, list...)
	}
}

// P6.2: a record of no bytes is one, there or not.
func TestAddNone(t *testing.T) {
	d := disk(t, 4)
	l := opened(t, d)
	for _, r := range [][]byte{nil, {}, []byte("spare")[:0]} {
		added(t, l, r, api.OK)
	}
	opened(t, d, nil, nil, nil)
}

// P6.2: a disk of one sector has room for one record of up to 56 bytes.
func TestOneSector(t *testing.T) {
	for n := range 60 {
		d := disk(t, 1)
		l := opened(t, d)
		if n > 56 {
			added(t, l, mixed(n), api.ErrFull)
			opened(t, d)
			continue
		}
		added(t, l, mixed(n), api.OK)
		added(t, l, nil, api.ErrFull)
		m := opened(t, d, mixed(n))
		added(t, m, nil, api.ErrFull)
		if l.Room(0) || m.Room(0) {
			t.Errorf("%d: there is room", n)
		}
	}
}

// P6.2: a disk that is full to its last sector, and one that is short of it.
func TestFull(t *testing.T) {
	for _, n := range []int{57, 120, 121, 1000, api.MaxRecord - 1, api.MaxRecord} {
		need := len(byWords(mixed(n))) / 64
		for _, before := range []int{0, 1, 5} {
			d := disk(t, before+need)
			l := opened(t, d)
			var list [][]byte
			for range before {
				list = append(list, []byte("b"))
				added(t, l, []byte("b"), api.OK)
			}
			forced(t, l)
			added(t, l, mixed(n), api.OK)
			added(t, l, nil, api.ErrFull)
			opened(t, d, append(slices.Clone(list), mixed(n))...)
			d = laid(t, before+need-1, 0, framesOf(list...))
			l = opened(t, d, list...)
			added(t, l, mixed(n), api.ErrFull)
			opened(t, d, list...)
		}
	}
}

// P6.2, R2: which error is first, and that nothing is changed then: neither the disk nor where the next record stands.
func TestAddErrors(t *testing.T) {
	for _, size := range []int{2, 300, 1000} {
		d := disk(t, size)
		l := opened(t, d)
		added(t, l, []byte("a"), api.OK)
		for _, n := range []int{api.MaxRecord + 1, api.MaxRecord + 2, 16441, 65536, 1 << 20} {
			added(t, l, mixed(n), api.ErrLimit)
		}
		if size == 2 {
			for _, n := range []int{57, 58, 120, api.MaxRecord - 1, api.MaxRecord} {
				added(t, l, mixed(n), api.ErrFull)
			}
		}
		if d.Waits() != 1 {
			t.Errorf("%d writes", d.Waits())
		}
		is(t, d, byWords([]byte("a")))
		added(t, l, mixed(56), api.OK)
		added(t, l, make([]byte, api.MaxRecord+1), api.ErrLimit)
		opened(t, d, []byte("a"), mixed(56))
	}
}

// P6.2: spare room of a record is none of its bytes.
func TestAddSpare(t *testing.T) {
	d := disk(t, 257)
	l := opened(t, d)
	added(t, l, make([]byte, api.MaxRecord, api.MaxRecord+1), api.OK)
	added(t, l, make([]byte, 0, 10), api.ErrFull)
	opened(t, d, make([]byte, api.MaxRecord))
}

// P6.2: Force makes all sure, what others wrote on the disk too, as often as it is called, and writes nothing.
func TestForce(t *testing.T) {
	d := disk(t, 6)
	l := opened(t, d)
	forced(t, l)
	is(t, failed(t, d, 0, -1), nil)
	added(t, l, []byte("a"), api.OK)
	added(t, l, mixed(100), api.OK)
	is(t, failed(t, d, 0, -1), nil)
	for range 2 {
		forced(t, l)
		if d.Waits() != 0 {
			t.Errorf("%d writes wait", d.Waits())
		}
		is(t, failed(t, d, 0, -1), framesOf([]byte("a"), mixed(100)))
	}
	added(t, l, []byte("b"), api.OK)
	d.Write(5, []byte("x"))
	is(t, failed(t, d, 0, -1), framesOf([]byte("a"), mixed(100)))
	forced(t, l)
	is(t, failed(t, d, 0, -1), join(framesOf([]byte("a"), mixed(100), []byte("b")), make([]byte, 64), []byte("x"), make([]byte, 63)))
}

// P6.3: with so many sectors left, each count about the ends of sectors, and the limits.
func TestRoom(t *testing.T) {
	for _, before := range []int{0, 1, 7} {
		for _, left := range []int{0, 1, 2, 3, 63, 64, 65, 255, 256, 257, 258, 1000} {
			if before+left == 0 {
				continue
			}
			d := laid(t, before+left, 0, bytes.Repeat(byWords([]byte("b")), before))
			l, _, _ := Open(d)
			most := min(64*left-8, api.MaxRecord)
			for _, n := range []int{0, 1, 55, 56, 57, 120, 121, most - 64, most - 1, most, most + 1, most + 64, api.MaxRecord - 1, api.MaxRecord, api.MaxRecord + 1} {
				if want := n >= 0 && n <= most; l.Room(n) != want {
					t.Errorf("%d left: Room(%d) is %v", left, n, !want)
				}
			}
			for _, n := range []int{-1, -2, -8, -64, -65, math.MinInt32, math.MinInt64, api.MaxRecord + 1, 1 << 16, math.MaxInt32, 1 << 32, math.MaxInt64 - 64, math.MaxInt64} {
				if l.Room(n) {
					t.Errorf("%d left: Room(%d)", left, n)
				}
			}
			is(t, d, bytes.Repeat(byWords([]byte("b")), before))
			if d.Waits() != 0 {
				t.Errorf("Room: %d writes", d.Waits())
			}
		}
	}
}

// P6.3: Room says what Add does, at each count up to some.
func TestRoomIsAdd(t *testing.T) {
	for left := range 4 {
		for n := range 64*4 + 1 {
			b := framesOf([]byte("b"))
			l := opened(t, laid(t, 1+left, 0, b), []byte("b"))
			room := l.Room(n)
			if e := l.Add(mixed(n)); room != (e == api.OK) {
				t.Errorf("%d left: Room(%d) is %v, Add says %d", left, n, room, e)
			}
		}
	}
}

// P6.3: room grows less with what is added, whether it is forced or not.
func TestRoomAfterAdd(t *testing.T) {
	d := disk(t, 10)
	l := opened(t, d)
	for left := 10; left > 0; left-- {
		if !l.Room(64*left-8) || l.Room(64*left-7) {
			t.Errorf("%d left: %v %v", left, l.Room(64*left-8), l.Room(64*left-7))
		}
		added(t, l, []byte("a"), api.OK)
		if left%3 == 0 {
			forced(t, l)
		}
	}
	if l.Room(0) {
		t.Error("there is room")
	}
}

// P6.4: each choice of what is kept, and of what is torn, of records of one to three sectors behind forced ones.
func TestFailed(t *testing.T) {
	sure := [][]byte{[]byte("sure"), mixed(57), nil}
	for _, list := range [][][]byte{
		{[]byte("a"), mixed(150), []byte("b")},
		{mixed(20), mixed(24), mixed(25), nil, mixed(56)},
		{make([]byte, 100), make([]byte, 56), make([]byte, 57)},
		{join(make([]byte, 56), byWords([]byte("inner"))), mixed(57)},
	} {
		d := disk(t, 11)
		l := opened(t, d)
		for _, r := range sure {
			added(t, l, r, api.OK)
		}
		forced(t, l)
		for _, r := range list {
			added(t, l, r, api.OK)
		}
		for keep := range uint64(1) << d.Waits() {
			for torn := -1; torn <= d.Waits(); torn++ {
				x := failed(t, d, keep, torn)
				want, end := told(image(x))
				if len(want) < len(sure) {
					t.Fatalf("%x, %d: %d records are left", keep, torn, len(want))
				}
				same(t, want[:len(sure)], sure)
				opened(t, x, want...)
				m := opened(t, x, want...)
				if end == 64*11 {
					continue
				}
				added(t, m, []byte("new"), api.OK)
				opened(t, failed(t, x, 0, -1), want...)
				opened(t, failed(t, x, 1, 0), append(slices.Clone(want), []byte("new"))...)
			}
		}
	}
}

// P6.4: records of more sectors than a failure can keep are told only when they were forced.
func TestFailedLong(t *testing.T) {
	for _, n := range []int{64*64 - 8, 64*64 - 7, api.MaxRecord} {
		d := disk(t, 300)
		l := opened(t, d)
		added(t, l, []byte("a"), api.OK)
		forced(t, l)
		added(t, l, mixed(n), api.OK)
		want := [][]byte{[]byte("a")}
		opened(t, failed(t, d, 0, -1), want...)
		opened(t, failed(t, d, all>>1, -1), want...)
		opened(t, failed(t, d, all, 5), want...)
		if n == 64*64-8 {
			opened(t, failed(t, d, all, -1), append(want, mixed(n))...)
		} else {
			opened(t, failed(t, d, all, -1), want...)
		}
		forced(t, l)
		opened(t, failed(t, d, 0, -1), append(want, mixed(n))...)
	}
}

// P6.4: opened again, whether it failed between or not, a disk tells the same; what was added, and not forced, is sure then.
func TestOpenedAgain(t *testing.T) {
	d := disk(t, 5)
	l := opened(t, d)
	added(t, l, []byte("a"), api.OK)
	for range 3 {
		opened(t, d, []byte("a"))
		opened(t, failed(t, d, 0, -1), []byte("a"))
	}
	added(t, l, mixed(57), api.OK)
	opened(t, failed(t, d, 0, -1), []byte("a"))
	opened(t, failed(t, d, 1, -1), []byte("a"))
	opened(t, failed(t, d, 3, -1), []byte("a"), mixed(57))
	opened(t, d, []byte("a"), mixed(57))
}

// P6.1, R5: two logs on one disk: each goes on behind its own records.
func TestTwoLogsOnOne(t *testing.T) {
	d := disk(t, 3)
	k, l := opened(t, d), opened(t, d)
	added(t, k, []byte("k"), api.OK)
	added(t, l, []byte("l"), api.OK)
	added(t, k, []byte("m"), api.OK)
	if !l.Room(120) || l.Room(121) || !k.Room(56) || k.Room(57) {
		t.Errorf("Room: %v %v %v %v", l.Room(120), l.Room(121), k.Room(56), k.Room(57))
	}
	opened(t, d, []byte("l"), []byte("m"))
}

// R4, R5: the disk is kept itself: the log writes there, whatever failed beside it; other disks have nothing of it.
func TestDiskIsKept(t *testing.T) {
	c, d := disk(t, 3), disk(t, 3)
	k, l := opened(t, c), opened(t, d)
	added(t, l, []byte("d"), api.OK)
	x := failed(t, d, 1, -1)
	m := opened(t, x, []byte("d"))
	added(t, m, []byte("x"), api.OK)
	added(t, l, []byte("e"), api.OK)
	added(t, k, []byte("c"), api.OK)
	is(t, c, byWords([]byte("c")))
	is(t, d, framesOf([]byte("d"), []byte("e")))
	is(t, x, framesOf([]byte("d"), []byte("x")))
	if c.Waits() != 1 || d.Waits() != 2 || x.Waits() != 1 {
		t.Errorf("%d, %d, %d wait", c.Waits(), d.Waits(), x.Waits())
	}
	forced(t, l)
	if c.Waits() != 1 || d.Waits() != 0 || x.Waits() != 1 {
		t.Errorf("%d, %d, %d wait", c.Waits(), d.Waits(), x.Waits())
	}
}

// scribble writes over all of a list, its spare room too.
func scribble(b []byte) {
	b = b[:cap(b)]
	for i := range b {
		b[i] ^= 255
	}
}

// R4: a record that is handed in stays as it was, its spare room too, and is not kept.
func TestHandedIn(t *testing.T) {
	for _, n := range []int{0, 1, 55, 56, 57, 120, 121, api.MaxRecord, api.MaxRecord + 1} {
		d := disk(t, 258)
		l := opened(t, d)
		in := join(mixed(n), mixed(70))
		was := slices.Clone(in)
		e := l.Add(in[:n])
		l.Room(n)
		if !bytes.Equal(in, was) {
			t.Errorf("%d bytes are changed", n)
		}
		scribble(in)
		var want [][]byte
		if e == api.OK {
			want = [][]byte{mixed(n)}
		}
		is(t, d, framesOf(want...))
		forced(t, l)
		scribble(in)
		opened(t, d, want...)
	}
}

// R4: the records that are told are memory of their own: neither the disk's, nor another answer's, nor each other's, their spare room neither.
func TestAnswers(t *testing.T) {
	list := [][]byte{mixed(56), nil, mixed(57), mixed(10), nil, mixed(3000), mixed(64), mixed(1)}
	d := laid(t, 70, 0, framesOf(list...))
	_, one, _ := Open(d)
	l, two, _ := Open(d)
	for i := range one {
		scribble(one[i])
		for j := range one {
			if j > i && !bytes.Equal(one[j], list[j]) {
				t.Fatalf("the record %d changed with the record %d", j, i)
			}
		}
		_ = append(one[i], 'x')
	}
	same(t, two, list)
	is(t, d, framesOf(list...))
	clear(one[:cap(one)])
	same(t, two, list)
	added(t, l, []byte("new"), api.OK)
	d.Write(0, nil)
	same(t, two, list)
	opened(t, d)
	same(t, two, list)
}

// R5: what is done again is answered again.
func TestAgain(t *testing.T) {
	run := func() string {
		d := disk(t, 40)
		l := opened(t, d)
		var seen strings.Builder
		for i := range 60 {
			seen.WriteByte(byte(l.Add(mixed(i * 7 % 130))))
			if i%4 == 3 {
				l.Force()
			}
			x := failed(t, d, 0x5a5a, i%8)
			_, records, _ := Open(x)
			seen.Write(bytes.Join(records, []byte{0}))
			seen.Write(image(x))
		}
		return seen.String()
	}
	first := run()
	for range 3 {
		if run() != first {
			t.Fatal("another answer")
		}
	}
}

// words is a log as the chapter's words have it.
type words struct {
	image   []byte // of the disk, as it is read
	records [][]byte
	end     int // how many bytes of it their frames have
	forced  int // records
}

// reopen is the chapter's sentence on Open, of what stands on a disk.
func reopen(image []byte) *words {
	records, end := told(image)
	image = slices.Clone(image)
	clear(image[end:])
	return &words{image, records, end, len(records)}
}

func (w *words) add(r []byte) api.Errno {
	if len(r) > api.MaxRecord {
		return api.ErrLimit
	}
	f := byWords(r)
	if w.end+len(f) > len(w.image) {
		return api.ErrFull
	}
	copy(w.image[w.end:], f)
	w.records = append(w.records, r)
	w.end += len(f)
	return api.OK
}

// hold holds a log and its disk against the words.
func (w *words) hold(t *testing.T, l *Log, d *sectors.Disk) {
	t.Helper()
	is(t, d, w.image)
	for _, n := range []int{-1, 0, 56, 57, len(w.image) - w.end - 8, len(w.image) - w.end - 7, api.MaxRecord, api.MaxRecord + 1} {
		if want := n >= 0 && n <= api.MaxRecord && n <= len(w.image)-w.end-8; l.Room(n) != want {
			t.Fatalf("Room(%d): %v", n, !want)
		}
	}
}

// steps takes bytes as what is done with a log, its disk, and what is left of that, and holds each against the words.
func steps(t *testing.T, b []byte) {
	next := func() int {
		if len(b) == 0 {
			return 0
		}
		x := b[0]
		b = b[1:]
		return int(x)
	}
	d := disk(t, next()%12+1)
	l := opened(t, d)
	w := reopen(image(d))
	for len(b) > 0 {
		switch next() % 8 {
		case 0:
			forced(t, l)
			if d.Waits() != 0 {
				t.Fatalf("%d writes wait", d.Waits())
			}
			w.forced = len(w.records)
		case 1, 2:
			x := failed(t, d, uint64(next())<<8|uint64(next()), next()%16-1)
			left := reopen(image(x))
			same(t, left.records[:w.forced], w.records[:w.forced])
			opened(t, x, left.records...)
			m := opened(t, x, left.records...)
			left.hold(t, m, x)
			if next()%2 == 0 {
				d, l, w = x, m, left
			}
		case 3:
			// Somebody else writes behind the records; a log that was opened ahead of that is not asked any more.
			s := byWords(mixed(next() % 50))
			at := next() % d.Size()
			if 64*at >= w.end {
				s[next()%64] ^= byte(next() % 2)
				lay(t, d, at, s)
				copy(w.image[64*at:], s)
				w = reopen(w.image)
				l = opened(t, d, w.records...)
			}
		default:
			r := mixed(next())
			if len(r) == 255 {
				r = mixed(api.MaxRecord + next()%2)
			}
			if e, want := l.Add(r), w.add(r); e != want {
				t.Fatalf("Add(%d bytes): %d, want %d", len(r), e, want)
			}
		}
		w.hold(t, l, d)
	}
	opened(t, d, w.records...)
}

// P6.1 to P6.4: many runs, against the chapter's words.
func TestByWords(t *testing.T) {
	r := rand.New(rand.NewSource(6))
	for range 400 {
		b := make([]byte, r.Intn(150))
		r.Read(b)
		steps(t, b)
	}
}

// R1, P6.1 to P6.4: any run.
func FuzzLog(f *testing.F) {
	f.Add([]byte(nil))
	f.Add([]byte{3, 4, 1, 4, 100, 0, 4, 1, 1, 0, 0, 0, 0})
	f.Add(bytes.Repeat([]byte{4, 57, 1, 0, 2, 1, 1}, 8))
	f.Add([]byte{9, 3, 5, 4, 0, 0, 4, 56, 3, 7, 2, 9, 1, 4, 255, 1, 4, 0})
	f.Fuzz(func(t *testing.T, b []byte) {
		if len(b) > 1024 {
			return
		}
		steps(t, b)
	})
}

// R1, P6.1: any bytes on a disk, and a whole frame right behind what of them is records.
func FuzzOpen(f *testing.F) {
	f.Add([]byte(nil))
	f.Add(framesOf([]byte("a"), mixed(57), nil))
	for _, rest := range someRests() {
		f.Add(join(byWords(mixed(57)), rest))
	}
	f.Fuzz(func(t *testing.T, b []byte) {
		n := (len(b)+63)/64 + 1
		if n > api.MaxSectors {
			return
		}
		b = append(slices.Clone(b), make([]byte, 64*n-len(b))...)
		want, end := told(b)
		opened(t, laid(t, n, 0, b), want...)
		if end < len(b) {
			copy(b[end:], byWords([]byte("more")))
			want, _ = told(b)
			opened(t, laid(t, n, 0, b), want...)
		}
	})
}
