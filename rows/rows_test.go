package rows

import (
	"bytes"
	"reflect"
	"slices"
	"strings"
	"testing"

	"concordat/api"
)

const top = 4294967295

// long is the longest key.
var long = strings.Repeat("k", 16)

func get(k string) api.Op           { return api.Op{Kind: api.KiGet, Key: k} }
func put(k string, v uint32) api.Op { return api.Op{Kind: api.KiPut, Key: k, Value: v} }
func del(k string) api.Op           { return api.Op{Kind: api.KiDel, Key: k} }
func scan(k, to string) api.Op      { return api.Op{Kind: api.KiScan, Key: k, To: to} }

func row(k string, v uint32) api.Row { return api.Row{Key: k, Value: v} }

func result(l ...api.Row) api.Result { return api.Result{Rows: l} }

// times: a list of so many of one thing.
func times[T any](n int, x T) []T {
	return slices.Repeat([]T{x}, n)
}

// same holds lists against each other; none and nil are the same.
func same[T any](a, b []T) bool {
	return len(a) == 0 && len(b) == 0 || reflect.DeepEqual(plain(a), plain(b))
}

// plain makes results' lists of no rows nil, so that they can be held against each other.
func plain[T any](l []T) []T {
	l = slices.Clone(l)
	for i := range l {
		if x, ok := any(&l[i]).(*api.Result); ok && len(x.Rows) == 0 {
			x.Rows = nil
		}
	}
	return l
}

// form is one of the three: what puts, what gets, and how it is told here, once more and otherwise.
type form[T any] struct {
	put   func([]T) ([]byte, api.Errno)
	get   func([]byte) ([]T, api.Errno)
	bytes func([]T) string
}

var (
	ops     = form[api.Op]{PutOps, GetOps, opBytes}
	results = form[api.Result]{PutResults, GetResults, resultBytes}
	changes = form[api.Change]{PutChanges, GetChanges, changeBytes}
)

func two(n int) string         { return string([]byte{byte(n / 256), byte(n % 256)}) }
func four(n uint32) string     { return two(int(n/65536)) + two(int(n%65536)) }
func told(s string) string     { return two(len(s))[1:] + s }
func one[T ~uint8](x T) string { return string([]byte{byte(x)}) }

func opBytes(l []api.Op) string {
	s := two(len(l))
	for _, x := range l {
		s += one(x.Kind) + told(x.Key) + told(x.To) + four(x.Value)
	}
	return s
}

func resultBytes(l []api.Result) string {
	s := two(len(l))
	for _, x := range l {
		s += two(len(x.Rows))
		for _, y := range x.Rows {
			s += told(y.Key) + four(y.Value)
		}
	}
	return s
}

func changeBytes(l []api.Change) string {
	var s strings.Builder
	s.WriteString(two(len(l)))
	for _, x := range l {
		gone := "\x00"
		if x.Gone {
			gone = "\x01"
		}
		s.WriteString(told(x.Key) + gone + four(x.Value))
	}
	return s.String()
}

// both: a list that may be, is put as these bytes, and got from them. (P2.5)
func both[T any](t *testing.T, f form[T], l []T) {
	t.Helper()
	want := f.bytes(l)
	b, e := f.put(l)
	if e != api.OK || string(b) != want {
		t.Errorf("put %v: %q %d, want %q", l, b, e, want)
	}
	m, e := f.get([]byte(want))
	if e != api.OK || !same(m, l) {
		t.Errorf("got %q: %v %d, want %v", want, m, e, l)
	}
}

// cannot: a list that may not be put.
func cannot[T any](t *testing.T, f form[T], l []T, want api.Errno) {
	t.Helper()
	if b, e := f.put(l); e != want || len(b) != 0 {
		t.Errorf("put %v: %q %d, want %d", l, b, e, want)
	}
}

// wrong: bytes that are of no list.
func wrong[T any](t *testing.T, f form[T], s string) {
	t.Helper()
	if l, e := f.get([]byte(s)); e != api.ErrForm || len(l) != 0 {
		t.Errorf("got %q: %v %d", s, l, e)
	}
}

// badKeys are texts that may be no key.
func badKeys() []string {
	return []string{"", long + "k", "A", "a-", "é", "\xff", "a\x00", strings.Repeat("k", 255), strings.Repeat("k", 256), strings.Repeat("k", 257), strings.Repeat("k", 65537)}
}

// P2.1
func TestCheck(t *testing.T) {
	good := []api.Op{
		get("a"), get("_m1"), get("0"), get(long),
		put("a", 0), put("a", 1), put("a", top), put("_", 5), put(long, top),
		del("a"), del(long),
		scan("a", "b"), scan("b", "a"), scan("a", "a"), scan(long, long), scan("_", "_m1"),
	}
	for _, x := range good {
		if !Check(x) {
			t.Errorf("%v may not be", x)
		}
		for _, k := range badKeys() {
			y := x
			y.Key = k
			if Check(y) {
				t.Errorf("%v may be", y)
			}
			y = x
			y.To = k
			if Check(y) != (k == "" && x.Kind != api.KiScan) {
				t.Errorf("Check(%v)", y)
			}
		}
		for _, v := range []uint32{1, 256, 65536, 1 << 31, top} {
			y := x
			y.Value = v
			if Check(y) != (x.Kind == api.KiPut) {
				t.Errorf("Check(%v)", y)
			}
		}
		y := x
		y.To = "b"
		if Check(y) != (x.Kind == api.KiScan) {
			t.Errorf("Check(%v)", y)
		}
	}
}

// P2.1: every kind there is, and every one there is not.
func TestCheckKinds(t *testing.T) {
	for k := range 256 {
		kind := api.Kind(k)
		for _, x := range []struct {
			op   api.Op
			want bool
		}{
			{api.Op{Kind: kind, Key: "a"}, k >= 1 && k <= 3},
			{api.Op{Kind: kind, Key: "a", Value: 5}, k == 2},
			{api.Op{Kind: kind, Key: "a", To: "b"}, k == 4},
			{api.Op{Kind: kind, Key: "a", To: "b", Value: 5}, false},
			{api.Op{Kind: kind, To: "b"}, false},
			{api.Op{Kind: kind}, false},
		} {
			if got := Check(x.op); got != x.want {
				t.Errorf("Check(%v) = %v", x.op, got)
			}
		}
	}
}

// The examples of the chapter, byte by byte.
func TestExamples(t *testing.T) {
	for _, c := range []struct {
		b    []byte
		e    api.Errno
		want []byte
	}{
		first(PutOps([]api.Op{put("a", 5), scan("a", "b")}))([]byte{0, 2, 2, 1, 'a', 0, 0, 0, 0, 5, 4, 1, 'a', 1, 'b', 0, 0, 0, 0}),
		first(PutOps(nil))([]byte{0, 0}),
		first(PutOps([]api.Op{}))([]byte{0, 0}),
		first(PutResults([]api.Result{result(row("a", 1)), {}}))([]byte{0, 2, 0, 1, 1, 'a', 0, 0, 0, 1, 0, 0}),
		first(PutResults(nil))([]byte{0, 0}),
		first(PutChanges([]api.Change{{Key: "a", Value: 7}, {Key: "b", Gone: true}}))([]byte{0, 2, 1, 'a', 0, 0, 0, 0, 7, 1, 'b', 1, 0, 0, 0, 0}),
		first(PutChanges(nil))([]byte{0, 0}),
	} {
		if c.e != api.OK || !bytes.Equal(c.b, c.want) {
			t.Errorf("%v %d, want %v", c.b, c.e, c.want)
		}
	}
	cannot(t, ops, []api.Op{get("A")}, api.ErrArg)
	wrong(t, ops, "\x00\x01")
	wrong(t, changes, "\x00\x01\x01a\x01\x00\x00\x00\x07")
}

type example = struct {
	b    []byte
	e    api.Errno
	want []byte
}

func first(b []byte, e api.Errno) func(want []byte) example {
	return func(want []byte) example { return example{b, e, want} }
}

func someOps() [][]api.Op {
	return [][]api.Op{
		nil,
		{get("a")}, {put("a", 0)}, {put(long, top)}, {put("a", 1<<24+2<<16+3<<8+4)}, {del("_m7")}, {scan("b", "a")},
		{get("a"), get("a"), put("a", 1), del("a"), scan("a", "z")},
		times(16, get(long)), times(16, scan(long, long)), times(16, put("0", top)),
	}
}

func someResults() [][]api.Result {
	return [][]api.Result{
		nil,
		{{}}, {{}, {}}, {result(row("a", 0))}, {result(row(long, top)), {}, result(row("a", 1<<24+2<<16+3<<8+4), row("a", 1))},
		{result(times(256, row("k", 9))...)}, {result(times(255, row("k", 9))...), {}},
		times(16, api.Result{}), times(16, result(times(256, row(long, top))...)),
	}
}

func someChanges() [][]api.Change {
	return [][]api.Change{
		nil,
		{{Key: "a"}}, {{Key: "a", Gone: true}}, {{Key: long, Value: top}, {Key: "_", Gone: true}}, {{Key: "a", Value: 1<<24 + 2<<16 + 3<<8 + 4}, {Key: "a", Value: 1}},
		times(255, api.Change{Key: "a"}), times(256, api.Change{Key: "a"}), times(257, api.Change{Key: "a"}),
		times(4095, api.Change{Key: "b", Gone: true}), times(4096, api.Change{Key: long, Value: top}),
	}
}

// P2.2, P2.3, P2.4, P2.5: what may be is put, and got.
func TestBothWays(t *testing.T) {
	for _, l := range someOps() {
		both(t, ops, l)
	}
	for _, l := range someResults() {
		both(t, results, l)
	}
	for _, l := range someChanges() {
		both(t, changes, l)
	}
	for n := range 17 {
		both(t, ops, times(n, del("a")))
		both(t, results, times(n, result(times(n, row("a", 1))...)))
	}
	for n := range 16 {
		k := long[:n+1]
		both(t, ops, []api.Op{get(k), scan(k, k)})
		both(t, results, []api.Result{result(row(k, uint32(n)))})
		both(t, changes, []api.Change{{Key: k, Value: uint32(n)}})
	}
	for n := range 32 {
		v := uint32(1) << n
		both(t, ops, []api.Op{put("a", v), put("a", v-1)})
		both(t, results, []api.Result{result(row("a", v), row("a", ^v))})
		both(t, changes, []api.Change{{Key: "a", Value: v}, {Key: "a", Value: ^v}})
	}
}

// P2.2, P2.3, P2.4: one more than may be.
func TestTooMany(t *testing.T) {
	for _, n := range []int{17, 18, 256, 257, 272, 65536, 65537, 65552} {
		cannot(t, ops, times(n, get("a")), api.ErrLimit)
		cannot(t, results, times(n, api.Result{}), api.ErrLimit)
	}
	for _, n := range []int{257, 258, 512, 65535, 65536, 65537} {
		cannot(t, results, []api.Result{result(times(n, row("a", 1))...)}, api.ErrLimit)
		cannot(t, results, []api.Result{{}, result(row("a", 1)), result(times(n, row("a", 1))...)}, api.ErrLimit)
	}
	for _, n := range []int{4097, 4098, 65535, 65536, 65537, 69632} {
		cannot(t, changes, times(n, api.Change{Key: "a"}), api.ErrLimit)
	}
}

// P2.2, P2.3, P2.4: one that may not be, wherever it stands, in few and in too many: ErrArg is named first.
func TestNotToBePut(t *testing.T) {
	bad := []api.Op{{}, get(""), get("A"), get(long + "k"), scan("a", ""), scan("a", "B"), {Kind: 5, Key: "a"}, {Kind: 255, Key: "a"}, {Kind: api.KiGet, Key: "a", Value: 1}, {Kind: api.KiDel, Key: "a", To: "b"}}
	for _, x := range bad {
		for _, n := range []int{1, 2, 16, 17, 18, 65537} {
			for _, at := range []int{0, n / 2, n - 1} {
				l := times(n, get("a"))
				l[at] = x
				cannot(t, ops, l, api.ErrArg)
			}
		}
	}
	for _, k := range badKeys() {
		for _, n := range []int{1, 2, 16, 17, 256, 257, 4096, 4097} {
			for _, at := range []int{0, n / 2, n - 1} {
				l := times(n, row("a", 1))
				l[at].Key = k
				cannot(t, results, []api.Result{result(l...)}, api.ErrArg)
				cannot(t, results, []api.Result{{}, result(times(257, row("a", 1))...), result(l...)}, api.ErrArg)
				cannot(t, results, append(times(17, api.Result{}), result(l...)), api.ErrArg)
				cannot(t, results, append([]api.Result{result(l...)}, times(17, api.Result{})...), api.ErrArg)
				m := times(n, api.Change{Key: "a", Value: 1})
				m[at].Key = k
				cannot(t, changes, m, api.ErrArg)
				m[at] = api.Change{Key: "a", Value: 1, Gone: true}
				cannot(t, changes, m, api.ErrArg)
			}
		}
	}
}

// shapes: what is wrong of bytes, whatever they are of.
func shapes[T any](t *testing.T, f form[T], l []T) {
	t.Helper()
	s := f.bytes(l)
	for n := range len(s) {
		wrong(t, f, s[:n])
	}
	for _, more := range []string{"\x00", "\x01", "\xff", "\x00\x00", s} {
		wrong(t, f, s+more)
	}
	for _, n := range []int{len(l) + 1, len(l) + 256, 65535} {
		wrong(t, f, two(n)+s[2:])
	}
	if len(l) > 0 {
		wrong(t, f, two(len(l)-1)+s[2:])
		wrong(t, f, two(0)+s[2:])
	}
}

// P2.2, P2.3, P2.4: cut short anywhere, more behind it, another count.
func TestCutShort(t *testing.T) {
	for _, l := range someOps() {
		shapes(t, ops, l)
	}
	for _, l := range someResults() {
		if len(resultBytes(l)) < 9999 {
			shapes(t, results, l)
		}
	}
	for _, l := range someChanges() {
		if len(l) < 999 {
			shapes(t, changes, l)
		}
	}
}

// P2.2, P2.3, P2.4: bytes of more than may be, all of which are there.
func TestTooManyToGet(t *testing.T) {
	for _, n := range []int{17, 18, 256, 257, 65535} {
		wrong(t, ops, two(n)+strings.Repeat(opBytes([]api.Op{get("a")})[2:], n))
		wrong(t, results, two(n)+strings.Repeat("\x00\x00", n))
	}
	for _, n := range []int{257, 258, 512, 65535} {
		rows := two(n) + strings.Repeat("\x01a\x00\x00\x00\x00", n)
		wrong(t, results, two(1)+rows)
		wrong(t, results, two(2)+"\x00\x00"+rows)
		wrong(t, results, two(2)+rows+"\x00\x00")
	}
	for _, n := range []int{4097, 4098, 65535} {
		wrong(t, changes, two(n)+strings.Repeat("\x01a\x00\x00\x00\x00\x00", n))
	}
}

// P2.2, P2.3, P2.4: keys, kinds, marks and numbers that may not be.
func TestNotToBeGot(t *testing.T) {
	for _, k := range badKeys()[:8] {
		wrong(t, ops, opBytes([]api.Op{get(k)}))
		wrong(t, ops, opBytes([]api.Op{get("a"), put(k, 1)}))
		wrong(t, ops, opBytes([]api.Op{scan("a", k)}))
		wrong(t, results, resultBytes([]api.Result{{}, result(row("a", 1), row(k, 1))}))
		wrong(t, changes, changeBytes([]api.Change{{Key: "a"}, {Key: k}}))
		wrong(t, changes, changeBytes([]api.Change{{Key: k, Gone: true}}))
	}
	for _, v := range []uint32{1, 256, 65536, 1 << 24, top} {
		wrong(t, ops, opBytes([]api.Op{{Kind: api.KiGet, Key: "a", Value: v}}))
		wrong(t, ops, opBytes([]api.Op{{Kind: api.KiDel, Key: "a", Value: v}}))
		wrong(t, ops, opBytes([]api.Op{{Kind: api.KiScan, Key: "a", To: "b", Value: v}}))
		wrong(t, changes, changeBytes([]api.Change{{Key: "a", Gone: true, Value: v}}))
	}
	for k := range 256 {
		if k < 1 || k > 3 {
			wrong(t, ops, opBytes([]api.Op{{Kind: api.Kind(k), Key: "a"}}))
		}
		if k != 4 {
			wrong(t, ops, opBytes([]api.Op{{Kind: api.Kind(k), Key: "a", To: "b"}}))
		}
		if k > 1 {
			wrong(t, changes, "\x00\x01\x01a"+one(byte(k))+"\x00\x00\x00\x00")
		}
	}
}

// backAgain: what is got, and put, is as it was. (P2.5)
func backAgain[T any](t *testing.T, f form[T], b []byte) bool {
	t.Helper()
	l, e := f.get(b)
	if e != api.OK {
		if e != api.ErrForm || len(l) != 0 {
			t.Errorf("got %q: %v %d", b, l, e)
		}
		return false
	}
	if c, e := f.put(l); e != api.OK || !bytes.Equal(b, c) || f.bytes(l) != string(b) {
		t.Errorf("got %q: %v, put %q %d", b, l, c, e)
	}
	return true
}

// everyByte changes each byte to each other one: counts how many still are of a list.
func everyByte[T any](t *testing.T, f form[T], l []T) int {
	b := []byte(f.bytes(l))
	n := 0
	for i, c := range b {
		for x := range 256 {
			b[i] = byte(x)
			if backAgain(t, f, b) {
				n++
			}
		}
		b[i] = c
	}
	return n
}

// P2.5, and that no more is refused than must be.
func TestEveryByte(t *testing.T) {
	const inKey, inNumber = 37, 256
	if n, want := everyByte(t, ops, []api.Op{put("a", 5), scan("bc", "d")}), 2+1+1+inKey+1+4*inNumber+1+1+2*inKey+1+inKey+4; n != want {
		t.Errorf("ops: %d, want %d", n, want)
	}
	if n, want := everyByte(t, results, []api.Result{result(row("a", 1)), {}}), 2+2+1+inKey+4*inNumber+2; n != want {
		t.Errorf("results: %d, want %d", n, want)
	}
	if n, want := everyByte(t, changes, []api.Change{{Key: "a", Value: 7}, {Key: "b", Gone: true}}), 2+1+inKey+1+4*inNumber+1+inKey+2+4; n != want {
		t.Errorf("changes: %d, want %d", n, want)
	}
}

// apart: what is handed in stays, its spare room too, and answers are memory of their own. (R4)
func apart[T any](t *testing.T, f form[T], l []T) {
	t.Helper()
	roomy := append(slices.Clone(l), l...)[:len(l)]
	was := plain(roomy[:cap(roomy)])
	b, _ := f.put(roomy)
	c, _ := f.put(roomy)
	if !same(roomy[:cap(roomy)], was) {
		t.Errorf("put changed %v", was)
	}
	clear(b[:cap(b)])
	if string(c) != f.bytes(l) {
		t.Errorf("put %v: two answers share", l)
	}
	in := append([]byte(f.bytes(l)), "spare"...)
	in = in[:len(in)-5]
	m, _ := f.get(in)
	n, _ := f.get(in)
	if string(in[:len(in)+5]) != f.bytes(l)+"spare" {
		t.Errorf("got %v: changed what it was of", l)
	}
	clear(in[:len(in)+5])
	if !same(m, l) {
		t.Errorf("got %v: %v is left", l, m)
	}
	clear(m[:cap(m)])
	if !same(n, l) {
		t.Errorf("got %v: two answers share", l)
	}
}

// R4
func TestApart(t *testing.T) {
	for _, l := range someOps() {
		apart(t, ops, l)
	}
	for _, l := range someResults() {
		apart(t, results, l)
	}
	for _, l := range someChanges() {
		apart(t, changes, l)
	}
}

// R4: the rows of two results share nothing, spare room neither, nor with what was put.
func TestRowsApart(t *testing.T) {
	for n := range 40 {
		l := times(4, result(times(n, row("a", 1))...))
		b, _ := PutResults(l)
		m, _ := GetResults(b)
		for i := range m {
			all := m[i].Rows[:cap(m[i].Rows)]
			for j := range all {
				all[j] = row("x", uint32(i))
			}
		}
		for i := range m {
			for _, x := range m[i].Rows[:cap(m[i].Rows)] {
				if x != row("x", uint32(i)) {
					t.Fatalf("%d rows: results share", n)
				}
			}
		}
		if !same(l, times(4, result(times(n, row("a", 1))...))) {
			t.Fatalf("%d rows: the answer shares with what was put", n)
		}
	}
}

// R5: a wrong one between changes nothing.
func TestAgain(t *testing.T) {
	for range 3 {
		wrong(t, ops, "\x00\x01")
		both(t, ops, []api.Op{get("a")})
		cannot(t, changes, []api.Change{{}}, api.ErrArg)
		both(t, changes, nil)
		wrong(t, results, "\x00\x01\x00\x01\x01a")
		both(t, results, []api.Result{{}})
	}
}

// R1, P2.5: any bytes.
func FuzzGet(f *testing.F) {
	f.Add([]byte(nil))
	f.Add([]byte(opBytes(someOps()[7])))
	f.Add([]byte(resultBytes(someResults()[4])))
	f.Add([]byte(changeBytes(someChanges()[3])))
	f.Fuzz(func(t *testing.T, b []byte) {
		was := bytes.Clone(b)
		backAgain(t, ops, b)
		backAgain(t, results, b)
		backAgain(t, changes, b)
		if !bytes.Equal(b, was) {
			t.Error("changed what was handed in")
		}
	})
}

// R1, P2.5: any op, row and change.
func FuzzPut(f *testing.F) {
	f.Add(uint8(1), "a", "", uint32(0), false)
	f.Add(uint8(2), long, "", uint32(top), true)
	f.Add(uint8(4), "a", "b", uint32(0), true)
	f.Fuzz(func(t *testing.T, kind uint8, k, to string, v uint32, gone bool) {
		o, r, c := api.Op{Kind: api.Kind(kind), Key: k, To: to, Value: v}, row(k, v), api.Change{Key: k, Value: v, Gone: gone}
		fuzzPut(t, ops, o, Check(o))
		key := Check(get(k))
		fuzzPut(t, results, result(r), key)
		fuzzPut(t, changes, c, key && (!gone || v == 0))
	})
}

func fuzzPut[T any](t *testing.T, f form[T], x T, may bool) {
	for n := 1; n <= 3; n++ {
		if may {
			both(t, f, times(n, x))
		} else {
			cannot(t, f, times(n, x), api.ErrArg)
		}
	}
}
