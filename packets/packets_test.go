package packets

import (
	"bytes"
	"encoding/binary"
	"fmt"
	"reflect"
	"slices"
	"strings"
	"testing"

	"concordat/api"
	"concordat/rows"
)

const top = 4294967295

// long is the longest key.
var long = strings.Repeat("k", 16)

func get(k string) api.Op           { return api.Op{Kind: api.KiGet, Key: k} }
func put(k string, v uint32) api.Op { return api.Op{Kind: api.KiPut, Key: k, Value: v} }
func del(k string) api.Op           { return api.Op{Kind: api.KiDel, Key: k} }
func scan(k, to string) api.Op      { return api.Op{Kind: api.KiScan, Key: k, To: to} }

func row(k string, v uint32) api.Row { return api.Row{Key: k, Value: v} }

func result(l ...api.Row) api.Result { return api.Result{Rows: l} }

// times: a list of so many of one thing.
func times[T any](n int, x T) []T {
	return slices.Repeat([]T{x}, n)
}

// plain is a message of the same content, with nil for each list of none and with no memory of the other one.
func plain(m api.Msg) api.Msg {
	m.Ops = append([]api.Op(nil), m.Ops...)
	m.Results = append([]api.Result(nil), m.Results...)
	for i, x := range m.Results {
		m.Results[i].Rows = append([]api.Row(nil), x.Rows...)
	}
	return m
}

// same holds messages against each other; none and nil are the same.
func same(a, b api.Msg) bool {
	return reflect.DeepEqual(plain(a), plain(b))
}

func twoBytes(n int) string     { return string(binary.BigEndian.AppendUint16(nil, uint16(n))) }
func fourBytes(n uint32) string { return string(binary.BigEndian.AppendUint32(nil, n)) }
func told(s string) string      { return string([]byte{byte(len(s))}) + s }

func opBytes(l []api.Op) string {
	s := twoBytes(len(l))
	for _, x := range l {
		s += string([]byte{byte(x.Kind)}) + told(x.Key) + told(x.To) + fourBytes(x.Value)
	}
	return s
}

func resultBytes(l []api.Result) string {
	var s strings.Builder
	s.WriteString(twoBytes(len(l)))
	for _, x := range l {
		s.WriteString(twoBytes(len(x.Rows)))
		for _, y := range x.Rows {
			s.WriteString(told(y.Key) + fourBytes(y.Value))
		}
	}
	return s.String()
}

// headBytes are those ahead of the count of the ops' bytes.
func headBytes(m api.Msg) string {
	return string([]byte{byte(m.Say), m.From, m.To}) + fourBytes(m.G)
}

// byWords: a message's bytes, as the chapter's words tell them, whether it may be or not.
func byWords(m api.Msg) string {
	ops := opBytes(m.Ops)
	return headBytes(m) + fourBytes(uint32(len(ops))) + ops + resultBytes(m.Results)
}

// short tells a message, but no more of it than a reader of a failed test can use.
func short(m api.Msg) string {
	return fmt.Sprintf("%.300s", fmt.Sprintf("%v", m))
}

// both: a message that may be, is put as these bytes, and got from them. (P7.3)
func both(t *testing.T, m api.Msg) {
	t.Helper()
	want := byWords(m)
	if b, e := Put(m); e != api.OK || string(b) != want {
		t.Errorf("put %s: %.200q %d, want %.200q", short(m), b, e, want)
	}
	if n, e := Get([]byte(want)); e != api.OK || !same(n, m) {
		t.Errorf("got %.200q: %s %d, want %s", want, short(n), e, short(m))
	}
}

// cannot: a message that may not be put.
func cannot(t *testing.T, m api.Msg, want api.Errno) {
	t.Helper()
	if b, e := Put(m); e != want || len(b) != 0 {
		t.Errorf("put %s: %.200q %d, want %d", short(m), b, e, want)
	}
}

// wrong: bytes that are of no message.
func wrong(t *testing.T, s string) {
	t.Helper()
	if m, e := Get([]byte(s)); e != api.ErrForm || !same(m, api.Msg{}) {
		t.Errorf("got %.200q: %s %d", s, short(m), e)
	}
}

// neither: a message that can't be put, nor be got from what would be its bytes.
func neither(t *testing.T, m api.Msg, want api.Errno) {
	t.Helper()
	cannot(t, m, want)
	wrong(t, byWords(m))
}

// yes is the message of the chapter's example.
func yes() api.Msg {
	return api.Msg{Say: api.SaYes, From: 2, To: 0, G: 5, Results: []api.Result{{}}}
}

// full is a message that has some of everything.
func full() api.Msg {
	return api.Msg{Say: api.SaDo, From: 1, To: 3, G: 1<<24 + 2<<16 + 3<<8 + 4,
		Ops:     []api.Op{put("a", 5), scan("bc", "d"), get("e")},
		Results: []api.Result{result(row("a", 1), row("fg", 2)), {}, result(row("h", 3))}}
}

func with(ops []api.Op, results []api.Result) api.Msg {
	return api.Msg{Say: api.SaYes, From: 1, G: 7, Ops: ops, Results: results}
}

func someOps() [][]api.Op {
	return [][]api.Op{
		nil, {},
		{get("a")}, {put("a", 0)}, {put(long, top)}, {del("_m7")}, {scan("b", "a")},
		{get("a"), get("a"), put("a", 1), del("a"), scan("a", "z")},
		times(15, get("a")), times(16, get("0")), times(16, scan(long, long)), times(16, put(long, top)),
	}
}

func someResults() [][]api.Result {
	return [][]api.Result{
		nil, {},
		{{}}, {{}, {}}, {{Rows: []api.Row{}}, result(row("a", 0))}, {result(row(long, top)), {}, result(row("a", 1<<24+2<<16+3<<8+4), row("a", 1))},
		{result(times(255, row("k", 9))...), {}}, {result(times(256, row("k", 9))...)}, {{}, result(times(256, row("_", 1))...), result(row("a", 1))},
		times(15, api.Result{}), times(16, api.Result{}), times(16, result(times(256, row(long, top))...)),
	}
}

// badKeys are texts that may be no key.
func badKeys() []string {
	return []string{"", long + "k", "A", "a-", "é", "\xff", "a\x00", strings.Repeat("k", 255), strings.Repeat("k", 256), strings.Repeat("k", 257)}
}

func badOps() []api.Op {
	l := []api.Op{{}, {Kind: 5, Key: "a"}, {Kind: 255, Key: "a"}, {Key: "a"}, {Kind: api.KiGet, Key: "a", Value: 1}, {Kind: api.KiGet, Key: "a", To: "b"}, {Kind: api.KiDel, Key: "a", Value: top}, {Kind: api.KiDel, Key: "a", To: "b"}, {Kind: api.KiPut, Key: "a", To: "b"}, {Kind: api.KiScan, Key: "a", To: "b", Value: 1}}
	for _, k := range badKeys() {
		l = append(l, get(k), put(k, 1), del(k), scan(k, "a"), scan("a", k))
	}
	return l
}

// The examples of the chapter, byte by byte.
func TestExamples(t *testing.T) {
	b, e := Put(yes())
	if want := []byte{2, 2, 0, 0, 0, 0, 5, 0, 0, 0, 2, 0, 0, 0, 1, 0, 0}; e != api.OK || !bytes.Equal(b, want) {
		t.Errorf("%v %d", b, e)
	}
	both(t, yes())
	if s := Text(yes()); s != "2 2 0 5" {
		t.Errorf("%q", s)
	}
	if s := Text(api.Msg{}); s != "0 0 0 0" {
		t.Errorf("%q", s)
	}
	cannot(t, api.Msg{}, api.ErrArg)
	cannot(t, api.Msg{Say: api.SaAsk, From: 4}, api.ErrArg)
	cannot(t, api.Msg{Say: api.SaDo, Ops: []api.Op{get("A")}}, api.ErrArg)
	wrong(t, "")
	wrong(t, "\x01\x00\x01\x00\x00\x00\x00\x00\x00\x00\x01\x00\x00\x00")
}

// P7.1: bytes written out, of a message that has some of everything.
func TestEachPart(t *testing.T) {
	m := full()
	want := "\x01\x01\x03" + "\x01\x02\x03\x04" + "\x00\x00\x00\x1c" +
		"\x00\x03" + "\x02\x01a\x00\x00\x00\x00\x05" + "\x04\x02bc\x01d\x00\x00\x00\x00" + "\x01\x01e\x00\x00\x00\x00\x00" +
		"\x00\x03" + "\x00\x02\x01a\x00\x00\x00\x01\x02fg\x00\x00\x00\x02" + "\x00\x00" + "\x00\x01\x01h\x00\x00\x00\x03"
	if b, e := Put(m); e != api.OK || string(b) != want {
		t.Errorf("%q %d", b, e)
	}
	if n, e := Get([]byte(want)); e != api.OK || !same(n, m) {
		t.Errorf("%v %d", n, e)
	}
}

// P7.1: what is said, and from whom to whom: each there is, and every one there is not.
func TestSaysAndNodes(t *testing.T) {
	for x := range 256 {
		for _, m := range []api.Msg{yes(), full()} {
			say, from, to := m, m, m
			say.Say, from.From, to.To = api.Say(x), uint8(x), uint8(x)
			for _, c := range []struct {
				m   api.Msg
				may bool
			}{{say, x >= 1 && x <= 7}, {from, x <= 3}, {to, x <= 3}} {
				if c.may {
					both(t, c.m)
				} else {
					neither(t, c.m, api.ErrArg)
				}
			}
		}
	}
	for say := api.SaDo; say <= api.SaAsk; say++ {
		for x := range 16 {
			both(t, api.Msg{Say: say, From: uint8(x / 4), To: uint8(x % 4)})
		}
	}
}

// P7.1: numbers of global transactions.
func TestNumbers(t *testing.T) {
	l := []uint32{0, 1, 255, 256, 65535, 65536, 1<<24 - 1, 1 << 24, 1<<31 - 1, 1 << 31, top - 1, top}
	for n := range 32 {
		l = append(l, 1<<n, ^uint32(1<<n))
	}
	for _, g := range l {
		for _, m := range []api.Msg{yes(), full(), {Say: api.SaCommit}} {
			m.G = g
			both(t, m)
		}
	}
}

// P7.1, P7.3: ops and results that may be, each with each.
func TestBothWays(t *testing.T) {
	for _, ops := range someOps() {
		for _, results := range someResults() {
			both(t, with(ops, results))
		}
	}
	for n := range 17 {
		both(t, with(times(n, del("a")), times(16-n, result(times(n, row("a", 1))...))))
	}
	for n := range 16 {
		k := long[:n+1]
		both(t, with([]api.Op{get(k), scan(k, k)}, []api.Result{result(row(k, uint32(n)))}))
	}
}

// P7.1: an op that may not be, wherever it stands, in few and in too many.
func TestBadOps(t *testing.T) {
	for _, x := range badOps() {
		for _, n := range []int{1, 2, 16, 17, 18, 65552} {
			for _, at := range []int{0, n / 2, n - 1} {
				l := times(n, get("a"))
				l[at] = x
				cannot(t, with(l, nil), api.ErrArg)
				cannot(t, with(l, []api.Result{result(row("a", 1))}), api.ErrArg)
			}
		}
		if len(x.Key) < 256 && len(x.To) < 256 {
			wrong(t, byWords(with([]api.Op{x}, nil)))
			wrong(t, byWords(with([]api.Op{get("a"), x}, []api.Result{{}})))
		}
	}
}

// P7.1: a row of a result that may not be, wherever it stands, in few and in too many.
func TestBadRows(t *testing.T) {
	for _, k := range badKeys() {
		for _, n := range []int{1, 2, 16, 255, 256, 257, 65792} {
			for _, at := range []int{0, n / 2, n - 1} {
				l := times(n, row("a", 1))
				l[at].Key = k
				cannot(t, with(nil, []api.Result{result(l...)}), api.ErrArg)
				cannot(t, with([]api.Op{get("a")}, []api.Result{{}, result(l...), {}}), api.ErrArg)
				cannot(t, with(nil, append(times(17, api.Result{}), result(l...))), api.ErrArg)
			}
		}
		if len(k) < 256 {
			wrong(t, byWords(with(nil, []api.Result{result(row(k, 1))})))
			wrong(t, byWords(with([]api.Op{get("a")}, []api.Result{{}, result(row("a", 1), row(k, 1))})))
		}
	}
}

// P7.1: one more than may be, and many more, with a count of two bytes that would be a small one again.
func TestTooMany(t *testing.T) {
	for _, n := range []int{17, 18, 32, 256, 272} {
		neither(t, with(times(n, get("a")), nil), api.ErrLimit)
		neither(t, with(times(n, get("a")), []api.Result{{}}), api.ErrLimit)
		neither(t, with(nil, times(n, api.Result{})), api.ErrLimit)
		neither(t, with([]api.Op{get("a")}, times(n, api.Result{})), api.ErrLimit)
	}
	for _, n := range []int{257, 258, 512, 65535} {
		neither(t, with(nil, []api.Result{result(times(n, row("a", 1))...)}), api.ErrLimit)
		neither(t, with([]api.Op{get("a")}, []api.Result{{}, result(times(n, row("a", 1))...), {}}), api.ErrLimit)
	}
	for _, n := range []int{65536, 65537, 65552} {
		cannot(t, with(times(n, get("a")), nil), api.ErrLimit)
		cannot(t, with(nil, times(n, api.Result{})), api.ErrLimit)
		cannot(t, with(nil, []api.Result{result(times(n, row("a", 1))...)}), api.ErrLimit)
	}
	neither(t, with(times(17, get("a")), times(17, api.Result{})), api.ErrLimit)
	neither(t, with(times(17, get("a")), []api.Result{result(times(257, row("a", 1))...)}), api.ErrLimit)
}

// P7.1: what may not be goes ahead of what is too much, wherever either of them is.
func TestFirstError(t *testing.T) {
	heads := []api.Msg{{Say: api.SaDo}, {}, {Say: 8}, {Say: api.SaDo, From: 4}, {Say: api.SaDo, To: 4}}
	fine, many := []api.Op{get("a")}, times(17, get("a"))
	rows := times(257, row("a", 1))
	ops := []struct {
		l []api.Op
		e api.Errno
	}{
		{nil, api.OK}, {fine, api.OK}, {[]api.Op{{}}, api.ErrArg}, {many, api.ErrLimit},
		{append(slices.Clone(many), get("A")), api.ErrArg}, {append([]api.Op{get("A")}, many...), api.ErrArg},
	}
	results := []struct {
		l []api.Result
		e api.Errno
	}{
		{nil, api.OK}, {[]api.Result{{}}, api.OK}, {[]api.Result{result(row("A", 1))}, api.ErrArg},
		{times(17, api.Result{}), api.ErrLimit}, {[]api.Result{result(rows...)}, api.ErrLimit},
		{append(times(17, api.Result{}), result(row("", 1))), api.ErrArg},
		{[]api.Result{result(rows...), result(row("", 1))}, api.ErrArg},
		{[]api.Result{result(append(slices.Clone(rows), row("", 1))...)}, api.ErrArg},
	}
	for i, m := range heads {
		for _, o := range ops {
			for _, r := range results {
				m.Ops, m.Results = o.l, r.l
				switch {
				case i > 0 || o.e == api.ErrArg || r.e == api.ErrArg:
					neither(t, m, api.ErrArg)
				case o.e != api.OK || r.e != api.OK:
					neither(t, m, api.ErrLimit)
				default:
					both(t, m)
				}
			}
		}
	}
}

// fewMessages are some whose bytes are so few that each can be looked at.
func fewMessages() []api.Msg {
	return []api.Msg{
		yes(), full(), {Say: api.SaAsk, From: 3, To: 3, G: top}, {Say: api.SaCommit, To: 1},
		with([]api.Op{get("a")}, nil), with(times(16, get("a")), []api.Result{{}, {}}), with(nil, times(16, result(row("a", 1)))),
	}
}

// P7.1: cut at each place, from either end, each byte left out, more behind it.
func TestCutShort(t *testing.T) {
	for _, m := range fewMessages() {
		s := byWords(m)
		for n := range len(s) {
			wrong(t, s[:n])
			wrong(t, s[n+1:])
			wrong(t, s[:n]+s[n+1:])
		}
		for _, more := range []string{"\x00", "\x01", "\xff", "\x00\x00", s} {
			wrong(t, s+more)
		}
		for c := range 256 {
			wrong(t, s+string([]byte{byte(c)}))
		}
	}
}

// readable is the chapter's sentence on Get, by trial: whether there is a place where the ops' bytes end.
func readable(b []byte) bool {
	if len(b) < 11 || b[0] < 1 || b[0] > 7 || b[1] > 3 || b[2] > 3 {
		return false
	}
	rest := b[11:]
	for n := range len(rest) + 1 {
		if fourBytes(uint32(n)) != string(b[7:11]) {
			continue
		}
		_, e := rows.GetOps(rest[:n])
		_, f := rows.GetResults(rest[n:])
		return e == api.OK && f == api.OK
	}
	return false
}

// backAgain: what is got, and put, is as it was, and no more is refused than must be. (P7.3)
func backAgain(t *testing.T, b []byte) bool {
	t.Helper()
	if !readable(b) {
		wrong(t, string(b))
		return false
	}
	m, e := Get(b)
	c, f := Put(m)
	if e != api.OK || f != api.OK || !bytes.Equal(b, c) || byWords(m) != string(b) {
		t.Errorf("got %.200q: %s %d, put %.200q %d", b, short(m), e, c, f)
	}
	return true
}

// everyByte changes each byte to each other one: counts how many still are of a message.
func everyByte(t *testing.T, m api.Msg) int {
	b := []byte(byWords(m))
	n := 0
	for i, c := range b {
		for x := range 256 {
			b[i] = byte(x)
			if backAgain(t, b) {
				n++
			}
		}
		b[i] = c
	}
	return n
}

// P7.1, P7.3: each byte changed; counted, so that the tests don't lean on their own words alone.
func TestEveryByte(t *testing.T) {
	const inSay, inNode, inKey, inNumber = 7, 4, 37, 256
	const head = inSay + 2*inNode + 4*inNumber
	if n, want := everyByte(t, yes()), head+4+2+2+2; n != want {
		t.Errorf("%d, want %d", n, want)
	}
	m := with([]api.Op{put("a", 5)}, []api.Result{result(row("bc", 1))})
	if n, want := everyByte(t, m), head+4+2+1+1+inKey+1+4*inNumber+2+2+1+2*inKey+4*inNumber; n != want {
		t.Errorf("%d, want %d", n, want)
	}
	for _, m := range fewMessages() {
		everyByte(t, m)
	}
}

// P7.1: counts of the ops' bytes that are too small, too great, and far too great.
func TestCounts(t *testing.T) {
	for _, m := range fewMessages() {
		ops, results := opBytes(m.Ops), resultBytes(m.Results)
		right, all := len(ops), len(ops)+len(results)
		counts := []uint32{255, 256, 65535, 65536, 1 << 24, 1<<31 - 1, 1 << 31, 1<<31 + uint32(right), top - 11, top - 10, top - 1, top}
		for n := range all + 40 {
			counts = append(counts, uint32(n))
		}
		for _, k := range []uint32{1 << 8, 1 << 16, 1 << 24} {
			counts = append(counts, uint32(right)+k, uint32(right)-k, uint32(right)*k)
		}
		for _, n := range counts {
			if n != uint32(right) {
				wrong(t, headBytes(m)+fourBytes(n)+ops+results)
			}
		}
	}
}

// P7.1: the ops' bytes end where their count says, though those of the results could go on with them.
func TestWhereOpsEnd(t *testing.T) {
	head, op := headBytes(yes()), opBytes([]api.Op{put("a", 1<<24+2<<16+3<<8+4)})
	wrong(t, head+fourBytes(0)+op+"\x00\x00")
	wrong(t, head+fourBytes(0)+"\x00\x00")
	wrong(t, head+fourBytes(2)+"\x00\x00")
	wrong(t, head+fourBytes(2)+op+"\x00\x00")
	wrong(t, head+fourBytes(4)+"\x00\x00\x00\x00\x00\x00")
	wrong(t, head+fourBytes(10)+op[:8]+"\x00\x00"+op[8:])
	wrong(t, head+op+"\x00\x00")
	wrong(t, head+fourBytes(10)+"\x00\x00"+op)
	wrong(t, head+"\x00\x00"+fourBytes(2)+"\x00\x00")
	wrong(t, head+fourBytes(2)+"\x00\x00"+fourBytes(2)+"\x00\x00")
}

// P7.2: of any message, whether it may be or not.
func TestText(t *testing.T) {
	numbers := []uint32{0, 1, 9, 10, 11, 99, 100, 101, 255, 256, 999, 1000, 65536, 1 << 31, top - 1, top}
	for x := range 256 {
		for i, g := range numbers {
			y := uint8(numbers[i%9])
			for _, m := range []api.Msg{{Say: api.Say(x), From: y, To: 2, G: g}, {Say: 3, From: uint8(x), To: y, G: g}, {Say: api.Say(y), From: 1, To: uint8(x), G: g}} {
				want := fmt.Sprintf("%d %d %d %d", m.Say, m.From, m.To, m.G)
				if s := Text(m); s != want {
					t.Errorf("%v: %q", m, s)
				}
				m.Ops, m.Results = badOps(), []api.Result{result(row("A", 1)), result(times(257, row("", 1))...)}
				if s := Text(m); s != want {
					t.Errorf("%q, want %q", s, want)
				}
			}
		}
	}
}

// spared copies a list, with other things behind it in its spare room.
func spared[T any](l []T, other T) []T {
	return append(slices.Clone(l), times(3, other)...)[:len(l)]
}

// spareMessage copies a message, with things in the spare room of each of its lists.
func spareMessage(m api.Msg) api.Msg {
	m.Ops = spared(m.Ops, put("x", 99))
	m.Results = spared(m.Results, result(row("x", 99)))
	for i := range m.Results {
		m.Results[i].Rows = spared(m.Results[i].Rows, row("x", 99))
	}
	return m
}

// room is a message with the spare room of all its lists.
func room(m api.Msg) api.Msg {
	m.Ops = m.Ops[:cap(m.Ops)]
	m.Results = slices.Clone(m.Results[:cap(m.Results)])
	for i, x := range m.Results {
		m.Results[i].Rows = x.Rows[:cap(x.Rows)]
	}
	return m
}

// scribble writes over all lists of a message, their spare room too.
func scribble(m api.Msg) {
	for _, x := range m.Results[:cap(m.Results)] {
		l := x.Rows[:cap(x.Rows)]
		for i := range l {
			l[i] = row("scribble", 77)
		}
	}
	clear(m.Ops[:cap(m.Ops)])
	clear(m.Results[:cap(m.Results)])
}

// R4: what is handed in stays, its spare room too; messages, bytes and answers are written over afterwards.
func TestApart(t *testing.T) {
	for _, m := range []api.Msg{yes(), full(), with(nil, nil), with(times(16, put(long, 3)), times(16, result(times(9, row("a", 1))...)))} {
		want := byWords(m)
		in := spareMessage(m)
		was := plain(room(in))
		b, _ := Put(in)
		c, _ := Put(in)
		Text(in)
		if !same(room(in), was) {
			t.Errorf("%v is changed", m)
		}
		clear(b[:cap(b)])
		if !same(room(in), was) || string(c) != want {
			t.Errorf("%v: the answer is shared", m)
		}
		scribble(in)
		if string(c) != want {
			t.Errorf("%v is kept", m)
		}
		getApart(t, want)
	}
}

// getApart: likewise, of bytes.
func getApart(t *testing.T, want string) {
	t.Helper()
	for _, spare := range []string{"", "spare", "\x00\x01", "\x00\x00\x00\x00"} {
		b := []byte(want + spare)
		in := b[:len(want)]
		m, e := Get(in)
		n, f := Get(in)
		if e != api.OK || f != api.OK || byWords(m) != want || string(b) != want+spare {
			t.Errorf("%q: %v %d, %q is left", want, m, e, b)
		}
		scribble(m)
		if byWords(n) != want || string(b) != want+spare {
			t.Errorf("%q: the answer is shared", want)
		}
		clear(b)
		if byWords(n) != want {
			t.Errorf("%q is kept", want)
		}
	}
}

// P7.1, R4: what stands in the spare room is none of the bytes.
func TestSpareBytes(t *testing.T) {
	for _, m := range fewMessages() {
		s := byWords(m)
		for n := range len(s) {
			if _, e := Get([]byte(s)[:n]); e != api.ErrForm {
				t.Errorf("%q, cut at %d: %d", s, n, e)
			}
		}
	}
}

// R4: no two lists of one answer share any memory, spare room neither.
func TestListsApart(t *testing.T) {
	for n := range 40 {
		m := with(times(n%17, get("a")), times(4, result(times(n, row("a", 1))...)))
		got, _ := Get([]byte(byWords(m)))
		for i, x := range got.Results {
			l := x.Rows[:cap(x.Rows)]
			for j := range l {
				l[j] = row("x", uint32(i))
			}
		}
		for i, x := range got.Results {
			for _, y := range x.Rows[:cap(x.Rows)] {
				if y != row("x", uint32(i)) {
					t.Fatalf("%d rows: results share", n)
				}
			}
		}
	}
}

// R5: what is asked again is answered again, whatever was asked between.
func TestAgain(t *testing.T) {
	for range 3 {
		both(t, full())
		wrong(t, byWords(full())[1:])
		both(t, yes())
		cannot(t, api.Msg{}, api.ErrArg)
		cannot(t, with(times(17, get("a")), nil), api.ErrLimit)
		both(t, with(nil, nil))
		both(t, with(times(16, scan(long, long)), nil))
	}
}

// P7.1, P7.3, R1: any bytes, and the same ones as the ops and results of a message, wherever the ops end.
func FuzzGet(f *testing.F) {
	for _, m := range fewMessages() {
		f.Add([]byte(byWords(m)), uint32(len(opBytes(m.Ops))))
		f.Add([]byte(opBytes(m.Ops)+resultBytes(m.Results)), uint32(len(opBytes(m.Ops))))
	}
	f.Fuzz(func(t *testing.T, b []byte, n uint32) {
		was := bytes.Clone(b)
		backAgain(t, b)
		if !bytes.Equal(b, was) {
			t.Error("changed what was handed in")
		}
		backAgain(t, []byte(headBytes(full())+fourBytes(n)+string(b)))
	})
}

// P7.1, P7.2, P7.3, R1: any message.
func FuzzPut(f *testing.F) {
	f.Add(uint8(1), uint8(0), uint8(3), uint32(0), uint8(1), "a", "", uint32(0), 1, "b", 1)
	f.Add(uint8(7), uint8(3), uint8(0), uint32(top), uint8(2), long, "", uint32(top), 16, "_", 256)
	f.Add(uint8(2), uint8(1), uint8(1), uint32(256), uint8(4), "a", "b", uint32(0), 17, "0", 257)
	f.Add(uint8(8), uint8(4), uint8(4), uint32(9), uint8(5), "A", "", uint32(0), 0, "", 0)
	f.Fuzz(func(t *testing.T, say, from, to uint8, g uint32, kind uint8, k, end string, v uint32, n int, key string, many int) {
		o, r := api.Op{Kind: api.Kind(kind), Key: k, To: end, Value: v}, row(key, v)
		m := api.Msg{Say: api.Say(say), From: from, To: to, G: g, Ops: times(int(uint(n)%20), o), Results: times(int(uint(n)%18), result(times(int(uint(many)%260), r)...))}
		if s, want := Text(m), fmt.Sprintf("%d %d %d %d", say, from, to, g); s != want {
			t.Errorf("%q, want %q", s, want)
		}
		_, e := rows.PutOps(m.Ops)
		_, f := rows.PutResults(m.Results)
		switch {
		case say < 1 || say > 7 || from > 3 || to > 3 || e == api.ErrArg || f == api.ErrArg:
			cannot(t, m, api.ErrArg)
		case e != api.OK || f != api.OK:
			neither(t, m, api.ErrLimit)
		default:
			both(t, m)
		}
	})
}
