package clocks

import (
	"maps"
	"math"
	"math/rand"
	"slices"
	"testing"

	"concordat/api"
)

const top = 4294967295

// someIDs are ids from the least one to the greatest one.
func someIDs() []uint32 {
	return []uint32{0, 1, 2, 7, 255, 256, 65535, 65536, math.MaxInt32, math.MaxInt32 + 1, top - 1, top}
}

// wrongTicks are numbers in which nobody may be set.
func wrongTicks() []int {
	return []int{0, -1, -2, -api.MaxTicks, -api.MaxTicks - 1, api.MaxTicks + 1, api.MaxTicks + 2, 2 * api.MaxTicks, math.MaxInt32, math.MinInt32, math.MaxInt, math.MinInt, math.MaxInt - api.MaxTicks, math.MinInt + 1}
}

// set sets somebody in so many ticks, as must be.
func set(t *testing.T, c *Clock, id uint32, ticks int) {
	t.Helper()
	if e := c.Set(id, ticks); e != api.OK {
		t.Fatalf("Set(%d, %d): %d", id, ticks, e)
	}
}

// clears holds what Clear answers against what it must.
func clears(t *testing.T, c *Clock, id uint32, want api.Errno) {
	t.Helper()
	if e := c.Clear(id); e != want {
		t.Fatalf("Clear(%d): %d, want %d", id, e, want)
	}
}

// told holds those that a tick tells against those that it must.
func told(t *testing.T, c *Clock, want ...uint32) {
	t.Helper()
	if l := c.Tick(); !slices.Equal(l, want) {
		t.Fatalf("Tick: %v, want %v", l, want)
	}
}

// quiet lets ticks go by at which nobody is told.
func quiet(t *testing.T, c *Clock, ticks int) {
	t.Helper()
	for range ticks {
		told(t, c)
	}
}

// left is of somebody who must be set.
func left(t *testing.T, c *Clock, id uint32, want int) {
	t.Helper()
	if n, ok := c.Left(id); n != want || !ok {
		t.Fatalf("Left(%d): %d %v, want %d true", id, n, ok, want)
	}
}

// unset is of somebody who must not be.
func unset(t *testing.T, c *Clock, ids ...uint32) {
	t.Helper()
	for _, id := range ids {
		if n, ok := c.Left(id); n != 0 || ok {
			t.Fatalf("Left(%d): %d %v, want 0 false", id, n, ok)
		}
	}
}

// The chapter's examples, in their order.
func TestExamples(t *testing.T) {
	c := New()
	set(t, c, 7, 2)
	set(t, c, 5, 2)
	set(t, c, 6, 1)
	told(t, c, 6)
	left(t, c, 7, 1)
	told(t, c, 5, 7)
	unset(t, c, 7)

	c = New()
	set(t, c, 1, 3)
	set(t, c, 1, 1)
	told(t, c, 1)
	clears(t, c, 1, api.ErrNone)
	for _, n := range []int{0, 1073741825} {
		if e := c.Set(1, n); e != api.ErrArg {
			t.Errorf("Set(1, %d): %d", n, e)
		}
	}
	quiet(t, c, 3)
}

// P9.1: nobody is set on a new clock, and nobody told by it.
func TestNew(t *testing.T) {
	if New() == nil {
		t.Fatal("none")
	}
	for _, ticks := range []int{0, 1, 2, 100} {
		c := New()
		quiet(t, c, ticks)
		for _, id := range someIDs() {
			unset(t, c, id)
			clears(t, c, id, api.ErrNone)
		}
		quiet(t, c, 10)
	}
}

// P9.2, P9.4: the least and the greatest ticks, and some between, each with the least and the greatest id, and some between.
func TestSet(t *testing.T) {
	for _, id := range someIDs() {
		for _, ticks := range []int{1, 2, 3, api.Patience, 1000, 65536, api.MaxTicks - 1, api.MaxTicks} {
			c := New()
			set(t, c, id, ticks)
			left(t, c, id, ticks)
			for n := 1; n < min(ticks, 100); n++ {
				told(t, c)
				left(t, c, id, ticks-n)
			}
			if ticks > 100 {
				continue
			}
			told(t, c, id)
			unset(t, c, id)
			quiet(t, c, 3*ticks)
		}
	}
}

// P9.2, R2: ticks that may not be, of one that is not set, and of one that is, which stays as it was.
func TestWrongTicks(t *testing.T) {
	for _, n := range wrongTicks() {
		c := New()
		set(t, c, 2, 2)
		for range 3 {
			for id := range uint32(3) {
				if e := c.Set(id, n); e != api.ErrArg {
					t.Errorf("Set(%d, %d): %d", id, n, e)
				}
			}
		}
		unset(t, c, 0, 1)
		clears(t, c, 1, api.ErrNone)
		left(t, c, 2, 2)
		told(t, c)
		if e := c.Set(2, n); e != api.ErrArg {
			t.Errorf("Set(2, %d): %d", n, e)
		}
		left(t, c, 2, 1)
		told(t, c, 2)
		quiet(t, c, 5)
	}
}

// P9.2, P9.5: one that is set anew, sooner, later and to the same tick, some ticks on, alone and beside others.
func TestSetAnew(t *testing.T) {
	for first := 1; first <= 6; first++ {
		for gone := range first {
			for again := 1; again <= 8; again++ {
				for others := range 3 {
					c := New()
					// The others are told at the tick of the first Set, or at that of the second one.
					when := []int{0, first, gone + again}[others]
					if others > 0 {
						set(t, c, 9, when)
						set(t, c, 3, when)
					}
					set(t, c, 5, first)
					for n := 1; n <= 20; n++ {
						if n == gone+1 {
							left(t, c, 5, first-gone)
							set(t, c, 5, again)
							left(t, c, 5, again)
						}
						var want []uint32
						if n == when {
							want = append(want, 3, 9)
						}
						if n == gone+again {
							want = append(want, 5)
						}
						slices.Sort(want)
						told(t, c, want...)
					}
					unset(t, c, 3, 5, 9)
				}
			}
		}
	}
}

// P9.2, P9.5: one that is set again and again is told once, by the last one.
func TestSetOften(t *testing.T) {
	c := New()
	for ticks := 1; ticks <= 50; ticks++ {
		set(t, c, 4, ticks)
		left(t, c, 4, ticks)
	}
	for ticks := 50; ticks >= 7; ticks-- {
		set(t, c, 4, ticks)
		set(t, c, 4, ticks)
	}
	quiet(t, c, 6)
	told(t, c, 4)
	quiet(t, c, 60)
	// Who is set at each tick anew is never told.
	for range 50 {
		set(t, c, 4, 2)
		told(t, c)
	}
	told(t, c, 4)
}

// P9.2: Clear of one that was never set, that is, that was cleared, that was told, and that is set again.
func TestClear(t *testing.T) {
	for _, id := range someIDs() {
		c := New()
		clears(t, c, id, api.ErrNone)
		set(t, c, id, 2)
		clears(t, c, id, api.OK)
		unset(t, c, id)
		clears(t, c, id, api.ErrNone)
		quiet(t, c, 5)
		set(t, c, id, 2)
		told(t, c)
		clears(t, c, id, api.OK)
		clears(t, c, id, api.ErrNone)
		quiet(t, c, 5)
		set(t, c, id, 1)
		told(t, c, id)
		clears(t, c, id, api.ErrNone)
		set(t, c, id, api.MaxTicks)
		set(t, c, id, 3)
		clears(t, c, id, api.OK)
		clears(t, c, id, api.ErrNone)
		unset(t, c, id)
		quiet(t, c, 5)
		set(t, c, id, 2)
		clears(t, c, id, api.OK)
		set(t, c, id, 3)
		quiet(t, c, 2)
		told(t, c, id)
	}
}

// P9.2, P9.3: each one of several of one tick is cleared, or set to another one, and the others are told.
func TestSomeLess(t *testing.T) {
	ids := someIDs()
	for _, id := range ids {
		for _, ticks := range []int{0, 1, 3} {
			c := New()
			for _, x := range ids {
				set(t, c, x, 2)
			}
			if ticks == 0 {
				clears(t, c, id, api.OK)
			} else {
				set(t, c, id, ticks)
			}
			rest := slices.DeleteFunc(someIDs(), func(x uint32) bool { return x == id })
			for n := 1; n <= 4; n++ {
				switch n {
				case 2:
					told(t, c, rest...)
				case ticks:
					told(t, c, id)
				default:
					told(t, c)
				}
			}
			unset(t, c, ids...)
		}
	}
}

// orders tells every order of so many numbers.
func orders(n int) [][]int {
	if n == 0 {
		return [][]int{nil}
	}
	var all [][]int
	for _, l := range orders(n - 1) {
		for i := 0; i <= len(l); i++ {
			all = append(all, slices.Insert(slices.Clone(l), i, n-1))
		}
	}
	return all
}

// P9.3: those of one tick are told rising, in whatever order they were set, at one tick and at different ones.
func TestRising(t *testing.T) {
	ids := []uint32{0, 1, 256, 65535, math.MaxInt32 + 1, top}
	for _, order := range orders(len(ids)) {
		c, late := New(), New()
		for n, i := range order {
			set(t, c, ids[i], 2)
			set(t, late, ids[i], len(ids)-n)
			if n < len(ids)-1 {
				told(t, late)
			}
		}
		told(t, late, ids...)
		told(t, c)
		told(t, c, ids...)
		unset(t, c, ids...)
		quiet(t, c, 3)
		quiet(t, late, 3)
	}
}

// P9.3: many at one tick, and many at ticks of their own.
func TestMany(t *testing.T) {
	const many = 20000
	r := rand.New(rand.NewSource(9))
	c, apart := New(), New()
	var want []uint32
	for i, n := range r.Perm(many) {
		id := uint32(n) * 214748
		want = append(want, id)
		set(t, c, id, i%3+1)
		set(t, c, id, 3)
		set(t, apart, id, n+1)
	}
	slices.Sort(want)
	quiet(t, c, 2)
	told(t, c, want...)
	quiet(t, c, 3)
	for n, id := range want {
		left(t, apart, want[many-1], many-n)
		told(t, apart, id)
	}
	quiet(t, apart, 3)
}

// P9.3, P9.4: what is left, of some that are set at different ticks, ahead of and behind each tick, none of whom is told ahead of time.
func TestLeft(t *testing.T) {
	c := New()
	for n := range 20 {
		for id := range uint32(30) {
			// It was set at the tick id, in id%7+1 ticks.
			at := int(id) + int(id%7) + 1
			if int(id) < n && n < at {
				left(t, c, id, at-n)
			} else {
				unset(t, c, id)
			}
		}
		set(t, c, uint32(n), n%7+1)
		left(t, c, uint32(n), n%7+1)
		left(t, c, uint32(n), n%7+1)
		var want []uint32
		for id := range n + 1 {
			if id+id%7+1 == n+1 {
				want = append(want, uint32(id))
			}
		}
		told(t, c, want...)
	}
}

// P9.2 to P9.5: long after the beginning all is as at the beginning, with the most ticks too.
func TestLate(t *testing.T) {
	c := New()
	quiet(t, c, 1000000)
	set(t, c, top, api.MaxTicks)
	set(t, c, 3, 2)
	set(t, c, 2, 2)
	set(t, c, 1, 1)
	told(t, c, 1)
	told(t, c, 2, 3)
	quiet(t, c, 100000)
	left(t, c, top, api.MaxTicks-100002)
	set(t, c, 5, api.MaxTicks)
	left(t, c, 5, api.MaxTicks)
	clears(t, c, top, api.OK)
	set(t, c, 5, 1)
	told(t, c, 5)
	clears(t, c, top, api.ErrNone)
}

// R3: a clock that is not there, or that no call made, whatever it is asked, as often as it is.
func TestNotThere(t *testing.T) {
	var none *Clock
	for _, c := range []*Clock{none, {}, new(Clock)} {
		for range 3 {
			for _, id := range someIDs() {
				for _, n := range append(wrongTicks(), 1, 2, api.MaxTicks) {
					if e := c.Set(id, n); e != api.ErrNil {
						t.Errorf("Set(%d, %d): %d", id, n, e)
					}
				}
				unset(t, c, id)
				clears(t, c, id, api.ErrNil)
			}
			told(t, c)
		}
	}
}

// words is a clock by the chapter's words: how many ticks are left of each one that is set.
type words map[uint32]int

func (w words) set(id uint32, ticks int) api.Errno {
	if ticks < 1 || ticks > 1073741824 {
		return api.ErrArg
	}
	w[id] = ticks
	return api.OK
}

func (w words) clear(id uint32) api.Errno {
	if _, ok := w[id]; !ok {
		return api.ErrNone
	}
	delete(w, id)
	return api.OK
}

func (w words) tick() []uint32 {
	var l []uint32
	for _, id := range slices.Sorted(maps.Keys(w)) {
		w[id]--
		if w[id] == 0 {
			delete(w, id)
			l = append(l, id)
		}
	}
	return l
}

// pair is a clock, and what it must be.
type pair struct {
	is   *Clock
	must words
}

func paired() pair {
	return pair{New(), words{}}
}

// act does one thing with both: 0 lets a tick go by, 1 clears, 2 sets.
func (p pair) act(t *testing.T, what int, id uint32, ticks int) {
	t.Helper()
	switch what {
	case 0:
		told(t, p.is, p.must.tick()...)
	case 1:
		clears(t, p.is, id, p.must.clear(id))
	default:
		if e, want := p.is.Set(id, ticks), p.must.set(id, ticks); e != want {
			t.Fatalf("Set(%d, %d): %d, want %d", id, ticks, e, want)
		}
	}
	n, ok := p.is.Left(id)
	if want, is := p.must[id]; n != want || ok != is {
		t.Fatalf("Left(%d): %d %v, want %d %v", id, n, ok, want, is)
	}
}

// check holds all that are left against what they must be.
func (p pair) check(t *testing.T, ids ...uint32) {
	t.Helper()
	for id, n := range p.must {
		left(t, p.is, id, n)
	}
	for _, id := range ids {
		if _, ok := p.must[id]; !ok {
			unset(t, p.is, id)
		}
	}
}

// end lets ticks go by till the last one is told, if that is soon.
func (p pair) end(t *testing.T, most int) {
	t.Helper()
	for range most {
		p.act(t, 0, 0, 0)
	}
	p.check(t)
}

// P9.2 to P9.5: each run of five acts, with two ids and up to three ticks.
func TestAllRuns(t *testing.T) {
	type act struct {
		what  int
		id    uint32
		ticks int
	}
	acts := []act{{0, 0, 0}}
	for _, id := range []uint32{0, 5} {
		acts = append(acts, act{1, id, 0})
		for ticks := range 4 {
			acts = append(acts, act{2, id, ticks})
		}
	}
	many := len(acts)
	for run := range many * many * many * many * many {
		p := paired()
		for range 5 {
			x := acts[run%many]
			run /= many
			p.act(t, x.what, x.id, x.ticks)
		}
		p.check(t, 0, 5)
		p.end(t, 4)
	}
}

// P9.2 to P9.5: many acts, with few ids and with many, with few ticks and with many.
func TestManyActs(t *testing.T) {
	r := rand.New(rand.NewSource(90))
	for _, ids := range []int{1, 2, 5, 60, 1000} {
		for _, ticks := range []int{1, 2, 10, 200} {
			p := paired()
			for i := range 6000 {
				// More are set than ticks go by, for a while, then the other way round.
				what := r.Intn(8)
				if i/500%2 == 1 && what > 3 {
					what = 0
				}
				id, n := uint32(r.Intn(ids))*4294967, r.Intn(ticks)+1
				if r.Intn(20) == 0 {
					n = wrongTicks()[r.Intn(len(wrongTicks()))]
				}
				p.act(t, what, id, n)
				if i%100 == 0 {
					p.check(t, id, id+1, 0, top)
				}
			}
			p.end(t, ticks)
			if len(p.must) > 0 {
				t.Fatalf("%d are left", len(p.must))
			}
		}
	}
}

// P9.5: who is set is told at that tick from then on, and once, whatever else is done with others.
func TestOnce(t *testing.T) {
	r := rand.New(rand.NewSource(95))
	for ticks := 1; ticks <= 40; ticks++ {
		c := New()
		quiet(t, c, ticks%5)
		set(t, c, 77, ticks)
		for n := 1; n <= 2*ticks+10; n++ {
			for range 5 {
				if id := uint32(r.Intn(70)); r.Intn(2) == 0 {
					c.Set(id, r.Intn(5)+ticks/2)
				} else {
					c.Clear(id)
				}
			}
			if is := slices.Contains(c.Tick(), 77); is != (n == ticks) {
				t.Fatalf("in %d ticks: told at the tick %d: %v", ticks, n, is)
			}
		}
	}
}

// scribble writes over lists, their spare room too.
func scribble(lists ...[]uint32) {
	for n, l := range lists {
		l = l[:cap(l)]
		for i := range l {
			l[i] = uint32(n + 1000)
		}
	}
}

// R4: what Tick told is written over, spare room too, and all else is as it was.
func TestToldWrittenOver(t *testing.T) {
	for many := range uint32(40) {
		c := New()
		var lists [][]uint32
		for id := range many {
			set(t, c, id, 1)
			set(t, c, id+1000, 2)
			set(t, c, id+2000, 9)
		}
		for range 3 {
			l := c.Tick()
			lists = append(lists, l)
			scribble(l)
			for id := range many {
				c.Set(id, 1)
			}
		}
		scribble(lists...)
		for n, l := range lists {
			if slices.ContainsFunc(l[:cap(l)], func(x uint32) bool { return x != uint32(n+1000) }) {
				t.Fatalf("%d: the lists of two ticks share", many)
			}
		}
		quietBut(t, c, many, 4)
		for id := range many {
			left(t, c, id+2000, 2)
		}
	}
}

// quietBut lets ticks go by, at the first of which the first ids are told, so many.
func quietBut(t *testing.T, c *Clock, many uint32, ticks int) {
	t.Helper()
	var want []uint32
	for id := range many {
		want = append(want, id)
	}
	told(t, c, want...)
	quiet(t, c, ticks-1)
}

// R5: two clocks have nothing in common, and the same acts have the same answers, whatever is done between.
func TestTwoClocks(t *testing.T) {
	a, b := paired(), paired()
	for i := range 300 {
		a.act(t, i*7%3, uint32(i%4), i%6)
		b.act(t, i*5%3, uint32(i%3), i%4)
		c := paired()
		c.act(t, 2, uint32(i), 2)
		c.act(t, 0, 0, 0)
		a.check(t, 0, 1, 2, 3)
		b.check(t, 0, 1, 2, 3)
		c.check(t, 0, 1, 2, 3)
	}
}

// P9.2, P9.3: nobody is kept who is not set, and no tick at which nobody is told.
func TestNothingKept(t *testing.T) {
	c := New()
	for i := range 500 {
		set(t, c, uint32(i%50), i%9+1)
		set(t, c, uint32(i%7), api.MaxTicks-i)
		if i%3 == 0 {
			c.Clear(uint32(i % 11))
		}
		c.Tick()
	}
	for id := range uint32(50) {
		c.Clear(id)
	}
	if len(c.due) != 0 || len(c.when) != 0 {
		t.Errorf("kept: %v %v", c.due, c.when)
	}
}

// P9.1 to P9.5, R1: any acts, each of three bytes: what, whom, in how many ticks; the last ones with any number.
func FuzzClock(f *testing.F) {
	f.Add([]byte("\x02\x07\x02\x02\x05\x02\x02\x06\x01\x00\x00\x00\x00\x00\x00"), uint32(7), 2)
	f.Add([]byte("\x02\x01\x03\x02\x01\x01\x00\x00\x00\x01\x01\x00"), uint32(1), api.MaxTicks)
	f.Add([]byte{}, uint32(top), api.MaxTicks+1)
	f.Add([]byte("\x02\xff\xff\x01\xff\x00\x02\xff\x00"), uint32(0), math.MinInt)
	f.Fuzz(func(t *testing.T, acts []byte, id uint32, ticks int) {
		p := paired()
		for i := 0; i+2 < len(acts) && i < 3000; i += 3 {
			p.act(t, int(acts[i]%3), id+uint32(acts[i+1]), int(acts[i+2]))
		}
		p.act(t, 2, id, ticks)
		p.check(t, id, 0, top)
		p.end(t, 256)
	})
}
