package bags

import (
	"fmt"
	"math"
	"math/rand"
	"reflect"
	"slices"
	"strings"
	"testing"

	"concordat/api"
)

const top = 4294967295

func get(k string) api.Op             { return api.Op{Kind: api.KiGet, Key: k} }
func put(k string, v uint32) api.Op   { return api.Op{Kind: api.KiPut, Key: k, Value: v} }
func row(k string, v uint32) api.Row  { return api.Row{Key: k, Value: v} }
func result(l ...api.Row) api.Result  { return api.Result{Rows: l} }
func number(g uint32) api.Msg         { return api.Msg{G: g} }
func times[T any](n int, x T) []T     { return slices.Repeat([]T{x}, n) }
func at[T any](l []T, n int) bool     { return n >= 0 && n < len(l) }
func without[T any](l []T, n int) []T { return append(slices.Clone(l[:n]), l[n+1:]...) }

// plain is a message of the same content, with nil for each list of none and with no memory of the other one.
func plain(m api.Msg) api.Msg {
	m.Ops = append([]api.Op(nil), m.Ops...)
	m.Results = append([]api.Result(nil), m.Results...)
	for i, x := range m.Results {
		m.Results[i].Rows = append([]api.Row(nil), x.Rows...)
	}
	return m
}

// same holds messages against each other; none and nil are the same.
func same(a, b api.Msg) bool {
	return reflect.DeepEqual(plain(a), plain(b))
}

// short tells messages, but no more of them than a reader of a failed test can use.
func short(m ...api.Msg) string {
	return fmt.Sprintf("%d: %.300s", len(m), fmt.Sprintf("%+v", m))
}

// made is a bag that must be.
func made(t *testing.T, most int) *Bag {
	t.Helper()
	b, e := New(most)
	if e != api.OK || b == nil {
		t.Fatalf("New(%d): %v %d", most, b, e)
	}
	return b
}

// added puts messages that there is room for.
func added(t *testing.T, b *Bag, l ...api.Msg) {
	t.Helper()
	for _, m := range l {
		if e := b.Add(m); e != api.OK {
			t.Fatalf("Add(%s): %d", short(m), e)
		}
	}
}

// taken is the message that a place must have.
func taken(t *testing.T, b *Bag, n int) api.Msg {
	t.Helper()
	m, e := b.Take(n)
	if e != api.OK {
		t.Fatalf("Take(%d): %s %d", n, short(m), e)
	}
	return m
}

// is holds all messages against what they must be.
func is(t *testing.T, b *Bag, want ...api.Msg) {
	t.Helper()
	if l := b.List(); !slices.EqualFunc(l, want, same) {
		t.Fatalf("%s; want %s", short(l...), short(want...))
	}
}

// refuses is a Take that must be refused, and answers no message then.
func refuses(t *testing.T, b *Bag, n int, want api.Errno) {
	t.Helper()
	if m, e := b.Take(n); e != want || !reflect.DeepEqual(m, api.Msg{}) {
		t.Errorf("Take(%d): %s %d, want %d", n, short(m), e, want)
	}
}

// numbers are so many messages, each with a number of its own.
func numbers(n int) []api.Msg {
	l := make([]api.Msg, n)
	for i := range l {
		l[i] = number(uint32(i + 1))
	}
	return l
}

// filled is a bag with so many messages.
func filled(t *testing.T, most, n int) *Bag {
	t.Helper()
	b := made(t, most)
	added(t, b, numbers(n)...)
	is(t, b, numbers(n)...)
	return b
}

// full is a message that has some of everything.
func full() api.Msg {
	return api.Msg{Say: api.SaYes, From: 2, To: 0, G: 7,
		Ops:     []api.Op{get("a"), put("b", 5), {Kind: api.KiScan, Key: "c", To: "d"}},
		Results: []api.Result{result(row("a", 1), row("b", 2)), {}, result(row("c", 3))}}
}

// anyMessages are some that may be sent, and some that may not.
func anyMessages() []api.Msg {
	l := []api.Msg{
		{}, full(), {Say: api.SaDo, To: 3, G: top, Ops: []api.Op{get("a")}},
		{Say: 8}, {Say: 255}, {From: 4}, {From: 255}, {To: 4}, {To: 255}, {Say: 255, From: 255, To: 255, G: top},
		{Ops: []api.Op{}}, {Results: []api.Result{}}, {Results: []api.Result{{}}}, {Results: []api.Result{{Rows: []api.Row{}}, {}}},
		{Ops: times(17, get("a"))}, {Ops: times(1000, put("z", top))},
		{Results: times(17, result(row("a", 1)))}, {Results: []api.Result{{}, result(times(257, row("b", 2))...)}}, {Results: times(300, api.Result{})},
	}
	for _, k := range []string{"", "A", "a-", "_m7", "\xff", "\x00", strings.Repeat("k", 17), strings.Repeat("k", 70000)} {
		l = append(l, api.Msg{Ops: []api.Op{get(k), {Kind: 255, Key: k, To: k, Value: top}}, Results: []api.Result{{}, result(row(k, top), row("", 0))}})
	}
	return l
}

// wrongPlaces are places that a bag of n messages has not.
func wrongPlaces(n int) []int {
	return []int{-1, -2, -n - 1, n, n + 1, 2*n + 1, api.MaxBag, math.MaxInt32, math.MinInt32, math.MaxInt, math.MinInt, math.MinInt + n}
}

// The chapter's examples, in their order.
func TestExamples(t *testing.T) {
	b := made(t, 3)
	added(t, b, number(1), number(2))
	if e := b.Copy(0); e != api.OK {
		t.Errorf("Copy(0): %d", e)
	}
	is(t, b, number(1), number(2), number(1))
	if e := b.Copy(0); e != api.ErrFull {
		t.Errorf("Copy(0) of a full one: %d", e)
	}
	if e := b.Add(number(3)); e != api.ErrFull {
		t.Errorf("Add to a full one: %d", e)
	}
	if m := taken(t, b, 1); m.G != 2 {
		t.Errorf("Take(1): %s", short(m))
	}
	is(t, b, number(1), number(1))
	refuses(t, b, 2, api.ErrArg)
	if e := b.Copy(-1); e != api.ErrArg {
		t.Errorf("Copy(-1): %d", e)
	}
	for _, n := range []int{0, 257} {
		if x, e := New(n); x != nil || e != api.ErrArg {
			t.Errorf("New(%d): %v %d", n, x, e)
		}
	}
	is(t, b, number(1), number(1))
}

// P8.1: for how many a bag may be, and that it is for as many, and has none.
func TestNew(t *testing.T) {
	for most := 1; most <= api.MaxBag; most++ {
		b := made(t, most)
		is(t, b)
		refuses(t, b, 0, api.ErrArg)
		if e := b.Copy(0); e != api.ErrArg {
			t.Errorf("Copy(0) of a new one: %d", e)
		}
		added(t, b, numbers(most)...)
		if e := b.Add(number(0)); e != api.ErrFull {
			t.Errorf("one more than %d: %d", most, e)
		}
		is(t, b, numbers(most)...)
	}
	for _, most := range []int{0, -1, -api.MaxBag, api.MaxBag + 1, 2 * api.MaxBag, 65536, math.MaxInt32, math.MinInt32, math.MaxInt, math.MinInt} {
		if b, e := New(most); b != nil || e != api.ErrArg {
			t.Errorf("New(%d): %v %d", most, b, e)
		}
	}
}

// P8.2: each message is the last one, those ahead of it stay; where there is no room, nothing is changed, as often as it is asked.
func TestAdd(t *testing.T) {
	for _, most := range []int{1, 2, 3, 17, api.MaxBag} {
		b := made(t, most)
		want := numbers(most)
		for i, m := range want {
			added(t, b, m)
			is(t, b, want[:i+1]...)
		}
		for _, m := range append(anyMessages(), want...) {
			if e := b.Add(m); e != api.ErrFull {
				t.Errorf("Add to %d of %d: %d", most, most, e)
			}
			is(t, b, want...)
		}
		taken(t, b, most-1)
		added(t, b, full())
		is(t, b, append(want[:most-1:most-1], full())...)
	}
}

// P8.2, P8.3, P8.4: whatever a message is, it is added, copied, listed and taken, whole.
func TestAnyMessage(t *testing.T) {
	for _, m := range anyMessages() {
		b := made(t, 3)
		added(t, b, m, full())
		if e := b.Copy(0); e != api.OK {
			t.Errorf("Copy of %s: %d", short(m), e)
		}
		is(t, b, m, full(), m)
		for _, n := range []int{2, 0} {
			if x := taken(t, b, n); !same(x, m) {
				t.Errorf("Take(%d): %s, want %s", n, short(x), short(m))
			}
		}
		is(t, b, full())
	}
	b := made(t, api.MaxBag)
	added(t, b, anyMessages()...)
	is(t, b, anyMessages()...)
}

// P8.3: Take at each place, of bags that are full and that are not.
func TestTake(t *testing.T) {
	for _, n := range []int{1, 2, 3, 4, 5, 16, api.MaxBag} {
		for _, most := range []int{n, min(n+1, api.MaxBag)} {
			for place := range n {
				b := filled(t, most, n)
				if m := taken(t, b, place); !same(m, number(uint32(place+1))) {
					t.Errorf("Take(%d): %s", place, short(m))
				}
				want := without(numbers(n), place)
				is(t, b, want...)
				refuses(t, b, n-1, api.ErrArg)
				added(t, b, full())
				is(t, b, append(want, full())...)
			}
		}
	}
}

// P8.3: all messages taken, from the front, from the end, from the middle, and more added.
func TestTakeAll(t *testing.T) {
	for _, place := range []func(n int) int{func(int) int { return 0 }, func(n int) int { return n - 1 }, func(n int) int { return n / 2 }} {
		b, want := filled(t, 9, 9), numbers(9)
		for n := 9; n > 0; n-- {
			i := place(n)
			if m := taken(t, b, i); !same(m, want[i]) {
				t.Errorf("Take(%d): %s, want %s", i, short(m), short(want[i]))
			}
			want = without(want, i)
			is(t, b, want...)
		}
		refuses(t, b, 0, api.ErrArg)
		if e := b.Copy(0); e != api.ErrArg {
			t.Errorf("Copy(0) of an empty one: %d", e)
		}
		added(t, b, numbers(9)...)
		is(t, b, numbers(9)...)
	}
}

// P8.3: Copy at each place, once and till there is no room.
func TestCopy(t *testing.T) {
	for _, n := range []int{1, 2, 3, 4, 5, 16, api.MaxBag - 1} {
		for place := range n {
			b, want := filled(t, n+1, n), numbers(n)
			if e := b.Copy(place); e != api.OK {
				t.Errorf("Copy(%d) of %d: %d", place, n, e)
			}
			want = append(want, want[place])
			is(t, b, want...)
			for other := range n + 1 {
				if e := b.Copy(other); e != api.ErrFull {
					t.Errorf("Copy(%d) of a full one: %d", other, e)
				}
			}
			is(t, b, want...)
		}
	}
	b := made(t, api.MaxBag)
	added(t, b, full())
	for n := range api.MaxBag - 1 {
		if e := b.Copy(n); e != api.OK {
			t.Errorf("Copy(%d): %d", n, e)
		}
	}
	is(t, b, times(api.MaxBag, full())...)
}

// P8.3, R2: places that are not there, of bags of any count, ErrArg also where there is no room; nothing is changed.
func TestWrongPlaces(t *testing.T) {
	for _, most := range []int{1, 2, 3, 17, api.MaxBag} {
		for _, n := range []int{0, 1, most / 2, most - 1, most} {
			b := filled(t, most, n)
			for _, place := range wrongPlaces(n) {
				if at(numbers(n), place) {
					t.Fatalf("%d is a place of %d", place, n)
				}
				refuses(t, b, place, api.ErrArg)
				if e := b.Copy(place); e != api.ErrArg {
					t.Errorf("Copy(%d) of %d of %d: %d", place, n, most, e)
				}
			}
			is(t, b, numbers(n)...)
			added(t, b, numbers(most-n)...)
			is(t, b, append(numbers(n), numbers(most-n)...)...)
		}
	}
}

// R3: a bag that is not there, or that no call made, whatever it is asked, as often as it is.
func TestNotThere(t *testing.T) {
	var none *Bag
	for _, b := range []*Bag{none, {}, new(Bag)} {
		for range 3 {
			for _, m := range []api.Msg{{}, full()} {
				if e := b.Add(m); e != api.ErrNil {
					t.Errorf("Add: %d", e)
				}
			}
			for _, place := range append(wrongPlaces(0), 0, 1) {
				refuses(t, b, place, api.ErrNil)
				if e := b.Copy(place); e != api.ErrNil {
					t.Errorf("Copy(%d): %d", place, e)
				}
			}
			if l := b.List(); len(l) != 0 {
				t.Errorf("List: %s", short(l...))
			}
		}
	}
}

// words is a bag by the chapter's words.
type words struct {
	most int
	all  []api.Msg
}

func (w *words) add(m api.Msg) api.Errno {
	if len(w.all) >= w.most {
		return api.ErrFull
	}
	w.all = append(slices.Clone(w.all), m)
	return api.OK
}

func (w *words) take(n int) (api.Msg, api.Errno) {
	if !at(w.all, n) {
		return api.Msg{}, api.ErrArg
	}
	m := w.all[n]
	w.all = without(w.all, n)
	return m, api.OK
}

func (w *words) copy(n int) api.Errno {
	if !at(w.all, n) {
		return api.ErrArg
	}
	return w.add(w.all[n])
}

// pair is a bag, and what it must be.
type pair struct {
	is   *Bag
	must words
	// How many of each number were added and copied, less those that were taken. (P8.5)
	left map[uint32]int
}

func paired(t *testing.T, most int) *pair {
	t.Helper()
	return &pair{made(t, most), words{most: most}, map[uint32]int{}}
}

// act does one thing with both: 0 adds a message, 1 takes one, 2 copies one.
func (p *pair) act(t *testing.T, what, n int, m api.Msg) {
	t.Helper()
	switch what {
	case 0:
		e, want := p.is.Add(m), p.must.add(m)
		if e != want {
			t.Fatalf("Add: %d, want %d", e, want)
		}
		if e == api.OK {
			p.left[m.G]++
		}
	case 1:
		x, e := p.is.Take(n)
		y, want := p.must.take(n)
		if e != want || !same(x, y) {
			t.Fatalf("Take(%d): %s %d, want %s %d", n, short(x), e, short(y), want)
		}
		if e == api.OK {
			p.left[x.G]--
		}
	default:
		e, want := p.is.Copy(n), p.must.copy(n)
		if e != want {
			t.Fatalf("Copy(%d): %d, want %d", n, e, want)
		}
		if e == api.OK {
			p.left[p.must.all[n].G]++
		}
	}
}

// check holds the bag against what it must be, and counts.
func (p *pair) check(t *testing.T) {
	t.Helper()
	is(t, p.is, p.must.all...)
	all, count := 0, map[uint32]int{}
	for _, m := range p.is.List() {
		count[m.G]++
	}
	for g, n := range p.left {
		if count[g] != n {
			t.Fatalf("%d of the number %d, want %d", count[g], g, n)
		}
		all += n
	}
	if n := len(p.is.List()); n != all {
		t.Fatalf("%d messages, want %d", n, all)
	}
}

// P8.2 to P8.5: each run of four acts behind an Add, at each place and one beside, of bags for one to four.
func TestAllRuns(t *testing.T) {
	type act struct{ what, n int }
	for most := 1; most <= 4; most++ {
		acts := []act{{0, 0}}
		for n := -1; n <= most; n++ {
			acts = append(acts, act{1, n}, act{2, n})
		}
		many := len(acts)
		for run := range many * many * many * many {
			p := paired(t, most)
			p.act(t, 0, 0, number(100))
			for i := range 4 {
				x := acts[run%many]
				run /= many
				p.act(t, x.what, x.n, number(uint32(i)))
			}
			p.check(t)
		}
	}
}

// P8.2 to P8.5: many acts, with messages that have some of everything, of bags that are full now and then, and empty.
func TestManyActs(t *testing.T) {
	r := rand.New(rand.NewSource(8))
	for _, most := range []int{1, 2, 3, 8, 100, api.MaxBag} {
		p := paired(t, most)
		for i := range 4000 {
			// More is added than taken for a while, then the other way round.
			what := r.Intn(3)
			if i/(4*most)%2 == 1 && r.Intn(2) == 0 {
				what = 1
			}
			m := full()
			m.G, m.Ops[1].Value, m.Results[0].Rows[0].Value = uint32(i), uint32(2*i), uint32(3*i)
			p.act(t, what, r.Intn(len(p.must.all)+2)-r.Intn(2), m)
			if i%16 == 0 {
				p.check(t)
			}
		}
		p.check(t)
	}
}

// spare is a list of the same things, with others behind them, in its spare room.
func spare[T any](l []T, x T) []T {
	all := append(slices.Clone(l), x, x, x)
	return all[:len(l):len(all)]
}

// spareMessage is a message each of whose lists has spare room.
func spareMessage(m api.Msg) api.Msg {
	m = plain(m)
	for i, x := range m.Results {
		m.Results[i].Rows = spare(x.Rows, row("spare", 9))
	}
	m.Ops, m.Results = spare(m.Ops, get("spare")), spare(m.Results, result(row("spare", 9)))
	return m
}

// whole is a message with the spare rooms of its lists.
func whole(m api.Msg) api.Msg {
	m.Ops = m.Ops[:cap(m.Ops)]
	m.Results = slices.Clone(m.Results[:cap(m.Results)])
	for i, x := range m.Results {
		m.Results[i].Rows = x.Rows[:cap(x.Rows)]
	}
	return m
}

// scribble writes over all lists of messages, their spare room too.
func scribble(l ...api.Msg) {
	for _, m := range l {
		for _, x := range m.Results[:cap(m.Results)] {
			rows := x.Rows[:cap(x.Rows)]
			for i := range rows {
				rows[i] = row("scribble", 77)
			}
		}
		ops := m.Ops[:cap(m.Ops)]
		for i := range ops {
			ops[i] = put("scribble", 77)
		}
		results := m.Results[:cap(m.Results)]
		for i := range results {
			results[i] = result(row("scribble", 77))
		}
	}
	all := l[:cap(l)]
	for i := range all {
		all[i] = number(77)
	}
}

// R4: what is handed in stays, its spare room too, and is not kept.
func TestHandedIn(t *testing.T) {
	for _, m := range anyMessages() {
		b := made(t, 2)
		in := spareMessage(m)
		was := plain(whole(in))
		added(t, b, in)
		b.Copy(0)
		b.Add(in)
		b.List()
		scribble(taken(t, b, 1))
		if !same(whole(in), was) {
			t.Errorf("%s is changed", short(m))
		}
		scribble(in)
		is(t, b, m)
		scribble(taken(t, b, 0))
	}
}

// R4: one message that is handed in again and again, and written over each time.
func TestHandedInAgain(t *testing.T) {
	b := made(t, 9)
	m := full()
	var want []api.Msg
	for i := range 9 {
		m.Ops[0].Key, m.Results[0].Rows[1].Value, m.Results[2].Rows = strings.Repeat("k", i), uint32(i), m.Results[0].Rows
		want = append(want, plain(m))
		added(t, b, m)
	}
	is(t, b, want...)
	for i := range want {
		if x := taken(t, b, 0); !same(x, want[i]) {
			t.Errorf("%s, want %s", short(x), short(want[i]))
		}
	}
}

// R4: what is listed and taken is written over, and all else is as it was.
func TestAnswersWrittenOver(t *testing.T) {
	for _, m := range anyMessages() {
		b := made(t, 4)
		added(t, b, m, full(), m)
		b.Copy(0)
		one, two := b.List(), b.List()
		scribble(one...)
		is(t, b, m, full(), m, m)
		x := taken(t, b, 0)
		scribble(x)
		is(t, b, full(), m, m)
		y := taken(t, b, 2)
		if !slices.EqualFunc(two, []api.Msg{m, full(), m, m}, same) {
			t.Errorf("two lists share: %s", short(two...))
		}
		scribble(two...)
		if !same(y, m) {
			t.Errorf("what was taken is shared: %s", short(y))
		}
		scribble(y)
		is(t, b, full(), m)
	}
}

// R4: a copy, and what it is a copy of, share nothing, whichever is taken.
func TestCopyApart(t *testing.T) {
	for _, m := range anyMessages() {
		for place := range 3 {
			b := made(t, 3)
			added(t, b, m)
			b.Copy(0)
			b.Copy(1)
			scribble(taken(t, b, place))
			is(t, b, m, m)
			scribble(taken(t, b, 0))
			is(t, b, m)
		}
	}
}

// apartLists tells whether no two lists have memory in common, spare room too: each is written over with a number of its own.
func apartLists[T any](lists [][]T, with func(n int) T, of func(x T) int) bool {
	for n, l := range lists {
		l = l[:cap(l)]
		for i := range l {
			l[i] = with(n)
		}
	}
	for n, l := range lists {
		if slices.ContainsFunc(l[:cap(l)], func(x T) bool { return of(x) != n }) {
			return false
		}
	}
	return true
}

// allApart tells it of all lists of messages, which are written over.
func allApart(l []api.Msg) bool {
	var ops [][]api.Op
	var results [][]api.Result
	var rows [][]api.Row
	for _, m := range l {
		ops, results = append(ops, m.Ops), append(results, m.Results)
		for _, x := range m.Results {
			rows = append(rows, x.Rows)
		}
	}
	return apartLists(rows, func(n int) api.Row { return row("", uint32(n)) }, func(x api.Row) int { return int(x.Value) }) &&
		apartLists(ops, func(n int) api.Op { return put("", uint32(n)) }, func(x api.Op) int { return int(x.Value) }) &&
		apartLists(results, func(n int) api.Result { return result(make([]api.Row, n)...) }, func(x api.Result) int { return len(x.Rows) })
}

// R4: no two lists of answers share any memory, though those that were handed in do.
func TestListsApart(t *testing.T) {
	for n := range 12 {
		rows := times(n, row("a", 1))
		ops := times(n, get("a"))
		m := api.Msg{Ops: ops, Results: times(4, result(rows...))}
		m.Results[1].Rows = rows[n/2:]
		piece := api.Msg{Ops: ops[n/2:], Results: m.Results[:2]}
		was := plain(m)
		b := made(t, 9)
		added(t, b, m, piece, m)
		b.Copy(1)
		b.Copy(0)
		answers := append(b.List(), b.List()...)
		for range 5 {
			answers = append(answers, taken(t, b, 0))
		}
		if len(answers) != 15 || !allApart(answers) {
			t.Errorf("%d rows: lists of answers share", n)
		}
		if !same(m, was) {
			t.Errorf("%d rows: what was handed in is changed", n)
		}
	}
}

// R4: the lists that List answers have no memory in common, spare room neither.
func TestListSpare(t *testing.T) {
	for n := range 40 {
		b := filled(t, api.MaxBag, n)
		lists := [][]api.Msg{b.List(), b.List(), b.List()}
		if !apartLists(lists, func(n int) api.Msg { return number(uint32(n)) }, func(m api.Msg) int { return int(m.G) }) {
			t.Errorf("lists of %d share", n)
		}
		is(t, b, numbers(n)...)
	}
}

// R5: two bags share nothing, and the same acts have the same answers, whatever is done between.
func TestTwoBags(t *testing.T) {
	a, b := paired(t, 3), paired(t, 5)
	for i := range 60 {
		m := full()
		m.G = uint32(i)
		a.act(t, i*7%3, i%4, m)
		b.act(t, i*5%3, i%3, m)
		c := paired(t, 2)
		c.act(t, 0, 0, m)
		c.act(t, 2, 0, m)
		a.check(t)
		b.check(t)
		c.check(t)
	}
}

// P8.1 to P8.5, R1: any acts, each of two bytes, what and where (8 more than the place), with any message.
func FuzzBag(f *testing.F) {
	f.Add(3, []byte("\x00\x08\x00\x08\x02\x08\x01\x09"), uint8(1), uint8(0), uint8(3), uint32(5), "a", "b", uint32(6), 2)
	f.Add(256, []byte(strings.Repeat("\x00\x08\x02\x08\x02\x09\x01\x0a", 90)), uint8(255), uint8(4), uint8(9), uint32(top), "", "", uint32(0), 0)
	f.Add(0, []byte{}, uint8(0), uint8(0), uint8(0), uint32(0), "", "", uint32(0), 0)
	f.Fuzz(func(t *testing.T, most int, acts []byte, say, from, to uint8, g uint32, key, end string, v uint32, n int) {
		if most < 1 || most > api.MaxBag {
			if b, e := New(most); b != nil || e != api.ErrArg {
				t.Fatalf("New(%d): %v %d", most, b, e)
			}
			return
		}
		n = int(uint(n) % 20)
		ops := times(n, api.Op{Kind: api.Kind(say), Key: key, To: end, Value: v})
		p := paired(t, most)
		for i := 0; i+1 < len(acts) && i < 2000; i += 2 {
			m := api.Msg{Say: api.Say(say), From: from, To: to, G: g + uint32(i), Ops: ops, Results: times(n/3, result(times(n/2, row(key, v))...))}
			p.act(t, int(acts[i]%3), int(acts[i+1])-8, m)
		}
		p.check(t)
		scribble(p.is.List()...)
		p.check(t)
	})
}
