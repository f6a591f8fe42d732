package spans

import (
	"bytes"
	"fmt"
	"math/rand"
	"slices"
	"strings"
	"testing"

	"concordat/api"
)

const long = 1 << 20

// span is from one text to another one.
func span(from, to string) api.Span { return api.Span{From: from, To: to} }

// list is of spans whose texts stand one behind the other: from, to, from, to.
func list(texts ...string) []api.Span {
	var l []api.Span
	for i := 0; i+1 < len(texts); i += 2 {
		l = append(l, span(texts[i], texts[i+1]))
	}
	return l
}

// someTexts are texts that may be keys and that may not, rising by bytes: the empty one, some that begin with others, some with bytes above 127.
func someTexts() []string {
	l := []string{
		"", "\x00", "\x00\x00", "\x00a", " ", "-", "0", "09", "9", "A", "Z", "_", "_m0", "_m10", "_m9", "__",
		"a", "a\x00", "a\x00\x00", "a\x01", "a\x7f", "a\xff", "a0", "a_", "aa", "aaa", "ab", "a\x80", "b", "b\x00", "ba", "c", "z", "zz",
		"\x7f", "\x80", "\x80\x00", "\xc3", "\xc3\xa4", "é", "\xfe\xff", "\xff", "\xff\x00", "\xff\xff", "語", "\U0001F600",
		strings.Repeat("a", 16), strings.Repeat("a", 17), strings.Repeat("z", 16), strings.Repeat("z", 17),
	}
	slices.SortFunc(l, byBytes)
	return slices.Compact(l)
}

// byBytes holds texts against each other byte by byte, by other means than the code does.
func byBytes(a, b string) int {
	return bytes.Compare([]byte(a), []byte(b))
}

// in is the chapter's word: a span has a text.
func in(k string, s api.Span) bool {
	return byBytes(s.From, k) <= 0 && byBytes(k, s.To) <= 0
}

// something tells whether a span has one; From itself, if any.
func something(s api.Span) bool {
	return in(s.From, s)
}

// both tells whether one of some texts is in two spans.
func both(a, b api.Span, texts ...string) bool {
	return slices.ContainsFunc(texts, func(k string) bool {
		return in(k, a) && in(k, b)
	})
}

// all tells every span between some texts, those that have nothing too.
func all(texts []string) []api.Span {
	var l []api.Span
	for _, from := range texts {
		for _, to := range texts {
			l = append(l, span(from, to))
		}
	}
	return l
}

// meets holds Meet, and Any of just that one, against what they must tell, both ways round.
func meets(t *testing.T, a, b api.Span, want bool) {
	t.Helper()
	if Meet(a, b) != want || Meet(b, a) != want {
		t.Fatalf("Meet(%q, %q): %v, the other way round %v, want %v", a, b, Meet(a, b), Meet(b, a), want)
	}
	if Any(a, []api.Span{b}) != want || Any(b, []api.Span{a}) != want {
		t.Fatalf("Any(%q, %q): want %v", a, b, want)
	}
}

// joins holds what Join tells against what it must, and Join of that too.
func joins(t *testing.T, l []api.Span, want []api.Span) {
	t.Helper()
	got := Join(l)
	if !slices.Equal(got, want) {
		t.Fatalf("Join(%q): %q, want %q", l, got, want)
	}
	if again := Join(got); !slices.Equal(again, want) {
		t.Fatalf("Join of Join(%q): %q, want %q", l, again, want)
	}
}

// words tells Join by the chapter's words: while two meet they are joined, and no others.
func words(l []api.Span) []api.Span {
	l = slices.DeleteFunc(slices.Clone(l), func(s api.Span) bool { return !something(s) })
	for i, j, ok := two(l); ok; i, j, ok = two(l) {
		if byBytes(l[j].From, l[i].From) < 0 {
			l[i].From = l[j].From
		}
		if byBytes(l[j].To, l[i].To) > 0 {
			l[i].To = l[j].To
		}
		l = slices.Delete(l, j, j+1)
	}
	slices.SortFunc(l, func(a, b api.Span) int { return byBytes(a.From, b.From) })
	return l
}

// two tells the first two that meet, if any: both of them have the place where one of them begins.
func two(l []api.Span) (int, int, bool) {
	for i, a := range l {
		for j := i + 1; j < len(l); j++ {
			if both(a, l[j], a.From, l[j].From) {
				return i, j, true
			}
		}
	}
	return 0, 0, false
}

// checkJoin holds the answer of Join against the promise's parts, one by one, by some texts.
func checkJoin(t *testing.T, l []api.Span, texts []string) {
	t.Helper()
	joined := Join(l)
	for i, s := range joined {
		if !something(s) {
			t.Fatalf("Join(%q): %q: one has nothing", l, joined)
		}
		if i > 0 && byBytes(joined[i-1].From, s.From) >= 0 {
			t.Fatalf("Join(%q): %q: they do not rise", l, joined)
		}
		for _, o := range joined[i+1:] {
			if both(s, o, texts...) {
				t.Fatalf("Join(%q): %q: two meet", l, joined)
			}
		}
	}
	for _, k := range texts {
		has := func(s api.Span) bool { return in(k, s) }
		if slices.ContainsFunc(l, has) != slices.ContainsFunc(joined, has) {
			t.Fatalf("Join(%q): %q: not the same: %q", l, joined, k)
		}
	}
}

// checkSame holds the other promise against some spans: who meets one of a list meets one of its Join, and the other way about.
func checkSame(t *testing.T, l, others []api.Span) {
	t.Helper()
	joined := Join(l)
	for _, s := range others {
		want := slices.ContainsFunc(l, func(o api.Span) bool { return both(s, o, s.From, o.From) })
		if Any(s, l) != want || Any(s, joined) != want {
			t.Fatalf("%q meets one of %q: %v, of %q: %v, want %v", s, l, Any(s, l), joined, Any(s, joined), want)
		}
	}
}

// The chapter's examples, in their order.
func TestExamples(t *testing.T) {
	scan := api.Op{Kind: api.KiScan, Key: "a", To: "c"}
	put := api.Op{Kind: api.KiPut, Key: "b", Value: 5}
	if s := Of(scan); s != span("a", "c") {
		t.Errorf("Of a scan: %q", s)
	}
	if s := Of(put); s != span("b", "b") {
		t.Errorf("Of a put: %q", s)
	}
	if !Writes(put) || Writes(scan) {
		t.Error("Writes")
	}
	meets(t, span("a", "c"), span("c", "d"), true)
	meets(t, span("a", "b"), span("c", "d"), false)
	meets(t, span("c", "a"), span("a", "c"), false)
	if !Any(span("b", "b"), list("a", "a", "b", "c")) {
		t.Error("Any")
	}
	joins(t, list("c", "e", "a", "b", "b", "d", "f", "f", "z", "y"), list("a", "e", "f", "f"))
}

// P10.1: each kind that there is, and each one that there is not, with keys and ends that may be and that may not.
func TestOfAndWrites(t *testing.T) {
	for kind := range 256 {
		for _, k := range someTexts() {
			for _, to := range someTexts() {
				x := api.Op{Kind: api.Kind(kind), Key: k, To: to, Value: uint32(len(to)) * 1000003}
				want := span(k, k)
				if kind == 4 {
					want = span(k, to)
				}
				if s := Of(x); s != want {
					t.Fatalf("Of(%d %q %q): %q", kind, k, to, s)
				}
				if Writes(x) != (kind == 2 || kind == 3) {
					t.Fatalf("Writes(%d %q %q): %v", kind, k, to, Writes(x))
				}
			}
		}
	}
}

// P10.1: the kinds by their names, and an op of nothing.
func TestKinds(t *testing.T) {
	for _, c := range []struct {
		kind   api.Kind
		to     string
		writes bool
	}{
		{api.KiNone, "b", false},
		{api.KiGet, "b", false},
		{api.KiPut, "b", true},
		{api.KiDel, "b", true},
		{api.KiScan, "a", false},
		{api.KiScan + 1, "b", false},
		{255, "b", false},
	} {
		x := api.Op{Kind: c.kind, Key: "b", To: "a", Value: 9}
		if s := Of(x); s != span("b", c.to) || Writes(x) != c.writes {
			t.Errorf("%d: %q %v", c.kind, s, Writes(x))
		}
	}
	if (Of(api.Op{}) != api.Span{}) || Writes(api.Op{}) {
		t.Error("an op of nothing")
	}
}

// P10.2: spans that touch, that lie apart, one in the other, that are the same, that have nothing.
func TestMeet(t *testing.T) {
	for _, c := range []struct {
		a, b api.Span
		want bool
	}{
		{span("a", "b"), span("b", "c"), true},
		{span("a", "b"), span("b\x00", "c"), false},
		{span("a", "b\x00"), span("b", "c"), true},
		{span("a", "a"), span("a", "a"), true},
		{span("a", "a"), span("b", "b"), false},
		{span("a", "z"), span("c", "d"), true},
		{span("a", "z"), span("a", "b"), true},
		{span("a", "z"), span("y", "z"), true},
		{span("a", "z"), span("a", "z"), true},
		{span("a", "z"), span("z", "z"), true},
		{span("a", "z"), span("a", "a"), true},
		{span("a", "z"), span("d", "c"), false},
		{span("d", "c"), span("d", "c"), false},
		{span("d", "c"), span("c", "d"), false},
		{span("d", "c"), span("c", "c"), false},
		{span("d", "c"), span("d", "d"), false},
		{span("", ""), span("", ""), true},
		{span("", ""), span("", "\xff"), true},
		{span("", ""), span("\x00", "\xff"), false},
		{span("a", ""), span("", "a"), false},
		{span("a", "a"), span("aa", "ab"), false},
		{span("a", "b"), span("aa", "ab"), true},
		{span("a", "ab"), span("aa", "aaa"), true},
		{span("aa", "aa"), span("a", "a"), false},
		{span("a", "aa"), span("aaa", "b"), false},
		{span("9", "Z"), span("a", "z"), false},
		{span("A", "a"), span("_", "_"), true},
		{span("z", "\xff"), span("\x80", "\x80"), true},
		{span("\x7f", "\x7f"), span("\x80", "\xff"), false},
		{span("é", "é"), span("\xc3", "\xc3"), false},
		{span("\xc3", "\xc4"), span("é", "é"), true},
	} {
		meets(t, c.a, c.b, c.want)
	}
}

// P10.2: each span of some texts with each one, by whether one of all those texts is in both.
func TestAllMeet(t *testing.T) {
	texts := someTexts()
	for i, a := range all(texts) {
		for j, b := range all(texts) {
			if i%7 == 0 || j%11 == 0 || a.From == b.To || a.To == b.To {
				meets(t, a, b, both(a, b, a.From, b.From, a.To, b.To))
			}
		}
	}
	few := []string{"", "a", "a\x00", "ab", "b", "\xff"}
	between := append(someTexts(), few...)
	for _, a := range all(few) {
		for _, b := range all(few) {
			meets(t, a, b, both(a, b, between...))
		}
	}
}

// P10.2: of none; of one, at each place, among others that it does not meet; of some that all have nothing.
func TestAny(t *testing.T) {
	for _, s := range all(someTexts()) {
		if Any(s, nil) || Any(s, []api.Span{}) || Any(s, list("z", "a", "b", "a", "\xff", "")) {
			t.Fatalf("Any(%q)", s)
		}
	}
	for n := 1; n <= 40; n++ {
		for at := range n {
			l := slices.Repeat(list("d", "e"), n)
			for i := range l {
				l[i].To += strings.Repeat("e", i)
			}
			l[at] = span("b", "c")
			if !Any(span("c", "c"), l) || !Any(span("a", "b"), l) || Any(span("a", "a"), l) || Any(span("c", "b"), l) {
				t.Fatalf("one of %d, at %d", n, at)
			}
		}
	}
	if !Any(span("b", "c"), list("x", "y", "a", "b", "c", "d")) {
		t.Error("one that meets two")
	}
}

// P10.3: none, one, some that have nothing, that are the same, that touch, that lie in each other, that lie apart.
func TestJoin(t *testing.T) {
	for _, c := range []struct {
		l, want []api.Span
	}{
		{nil, nil},
		{[]api.Span{}, nil},
		{list("a", "b"), list("a", "b")},
		{list("a", "a"), list("a", "a")},
		{list("", ""), list("", "")},
		{[]api.Span{{}, {}}, []api.Span{{}}},
		{list("b", "a"), nil},
		{list("b", "a", "c", "b", "z", "", "aa", "a", "a\x00", "a"), nil},
		{list("b", "a", "c", "c", "e", "d"), list("c", "c")},
		{list("d", "b", "a", "e", "f", "a"), list("a", "e")},
		{list("a", "a", "a", "a"), list("a", "a")},
		{list("a", "c", "a", "c", "a", "c"), list("a", "c")},
		{list("a", "c", "a", "b", "a", "a"), list("a", "c")},
		{list("a", "a", "a", "c", "a", "b"), list("a", "c")},
		{list("a", "c", "c", "c", "b", "c"), list("a", "c")},
		{list("a", "b", "b", "c"), list("a", "c")},
		{list("b", "c", "a", "b"), list("a", "c")},
		{list("a", "b", "c", "d"), list("a", "b", "c", "d")},
		{list("c", "d", "a", "b"), list("a", "b", "c", "d")},
		{list("a", "z", "c", "d", "y", "zz"), list("a", "zz")},
		{list("a", "z", "b", "c", "d", "e"), list("a", "z")},
		{list("a", "f", "b", "c", "e", "e"), list("a", "f")},
		{list("a", "c", "b", "b", "c", "d"), list("a", "d")},
		{list("a", "c", "e", "g", "b", "f"), list("a", "g")},
		{list("a", "c", "e", "g", "c", "e"), list("a", "g")},
		{list("a", "c", "e", "g", "d", "d"), list("a", "c", "d", "d", "e", "g")},
		{list("a", "c", "e", "g", "d", "e"), list("a", "c", "d", "g")},
		{list("a", "a", "b", "b", "a", "b"), list("a", "b")},
		{list("z", "z", "", "", "m", "m"), list("", "", "m", "m", "z", "z")},
	} {
		joins(t, c.l, c.want)
		back := slices.Clone(c.l)
		slices.Reverse(back)
		joins(t, back, c.want)
		joins(t, slices.Concat(c.l, back), c.want)
	}
}

// P10.3: two that do not meet stay two, even if no key, or no text at all, is between them.
func TestJoinNear(t *testing.T) {
	joins(t, list("a", "b", "b\x00", "c"), list("a", "b", "b\x00", "c"))
	joins(t, list("", "", "\x00", "\x00"), list("", "", "\x00", "\x00"))
	joins(t, list("a", "z", "{", "}"), list("a", "z", "{", "}"))
	joins(t, list("0", "9", "_", "_", "a", "z"), list("0", "9", "_", "_", "a", "z"))
	joins(t, list("b", "b", "a", "a"), list("a", "a", "b", "b"))
	joins(t, list("a", "a", "aa", "aa", "aaa", "aaa"), list("a", "a", "aa", "aa", "aaa", "aaa"))
	joins(t, list("a", "aa", "aaa", "b", "aa", "aa"), list("a", "aa", "aaa", "b"))
	key := strings.Repeat("a", 16)
	joins(t, list(key, key, key+"_", key+"a"), list(key, key, key+"_", key+"a"))
	joins(t, list("\x7f", "\x7f", "\x80", "\x80"), list("\x7f", "\x7f", "\x80", "\x80"))
	joins(t, list("\xff", "\xff\xff", "z", "\xfe\xff\xff"), list("z", "\xfe\xff\xff", "\xff", "\xff\xff"))
}

// P10.3: they rise by bytes, not by letters, by lengths or by runes.
func TestJoinRises(t *testing.T) {
	texts := someTexts()
	var want []api.Span
	for _, k := range texts {
		want = append(want, span(k, k))
	}
	r := rand.New(rand.NewSource(10))
	for range 100 {
		l := slices.Clone(want)
		r.Shuffle(len(l), func(i, j int) { l[i], l[j] = l[j], l[i] })
		joins(t, l, want)
	}
	joins(t, list("aa", "aa", "b", "b", "a", "a"), list("a", "a", "aa", "aa", "b", "b"))
	joins(t, list("B", "B", "a", "a", "A", "A"), list("A", "A", "B", "B", "a", "a"))
	joins(t, list("10", "10", "9", "9"), list("10", "10", "9", "9"))
	joins(t, list("\xff", "\xff", "語", "語", "z", "z"), list("z", "z", "語", "語", "\xff", "\xff"))
}

// P10.3, P10.4: every list of up to three spans of a few texts; the texts between them tell what a span has.
func TestAllLists(t *testing.T) {
	few := []string{"", "a", "a\x00", "ab", "b"}
	between := append(someTexts(), few...)
	some := all(few)
	check := func(l ...api.Span) {
		t.Helper()
		joins(t, l, words(l))
		checkJoin(t, l, between)
		checkSame(t, l, some)
	}
	check()
	for _, a := range some {
		check(a)
		for _, b := range some {
			check(a, b)
			for _, c := range some {
				l := []api.Span{a, b, c}
				joins(t, l, words(l))
				checkJoin(t, l, few)
			}
		}
	}
}

// P10.3: every list of four spans that have something, of four texts.
func TestAllFours(t *testing.T) {
	some := slices.DeleteFunc(all([]string{"a", "b", "c", "d"}), func(s api.Span) bool { return !something(s) })
	for _, a := range some {
		for _, b := range some {
			for _, c := range some {
				for _, d := range some {
					l := []api.Span{a, b, c, d}
					joins(t, l, words(l))
				}
			}
		}
	}
}

// orders tells every order of some spans.
func orders(l []api.Span) [][]api.Span {
	if len(l) == 0 {
		return [][]api.Span{nil}
	}
	var every [][]api.Span
	for _, o := range orders(l[1:]) {
		for i := 0; i <= len(o); i++ {
			every = append(every, slices.Insert(slices.Clone(o), i, l[0]))
		}
	}
	return every
}

// P10.3: a list in each order is joined to the same.
func TestOrders(t *testing.T) {
	for _, c := range []struct {
		l, want []api.Span
	}{
		{list("c", "e", "a", "b", "b", "d", "f", "f", "z", "y", "f", "fa", "h", "i"), list("a", "e", "f", "fa", "h", "i")},
		{list("a", "b", "b", "c", "c", "d", "d", "e", "e", "f", "f", "g"), list("a", "g")},
		{list("a", "g", "b", "c", "d", "e", "e", "f", "g", "h", "b", "b"), list("a", "h")},
		{list("a", "a", "a", "b", "a", "c", "a", "d", "a", "", "e", "e"), list("a", "d", "e", "e")},
	} {
		for _, l := range orders(c.l) {
			joins(t, l, c.want)
		}
	}
}

// P10.3, P10.4: lists of many, of texts that lie near each other and far from each other.
func TestManyLists(t *testing.T) {
	r := rand.New(rand.NewSource(103))
	texts := someTexts()
	for i := range 3000 {
		var l []api.Span
		for range r.Intn(30) {
			from := r.Intn(len(texts))
			to := min(from+r.Intn(1+i%9), len(texts)-1)
			if r.Intn(5) == 0 {
				from, to = to, from
			}
			l = append(l, span(texts[from], texts[to]))
		}
		joins(t, l, words(l))
		checkJoin(t, l, texts)
		others := list(texts[r.Intn(len(texts))], texts[r.Intn(len(texts))], texts[i%len(texts)], texts[i%len(texts)])
		checkSame(t, l, append(others, l...))
	}
}

// number is a text that stands among others of its length as the number does.
func number(n int) string {
	return fmt.Sprintf("k%07d", n)
}

// P10.3, R1: very many: a chain that becomes one, as many that stay apart, one over all of them; it must not take long.
func TestVeryMany(t *testing.T) {
	const many = 100000
	var chain, apart []api.Span
	for n := range many {
		chain = append(chain, span(number(n), number(n+1)))
		apart = append(apart, span(number(2*n), number(2*n+1)))
	}
	mixed := func(l []api.Span) []api.Span {
		l = slices.Clone(l)
		rand.New(rand.NewSource(int64(len(l)))).Shuffle(len(l), func(i, j int) { l[i], l[j] = l[j], l[i] })
		return l
	}
	for _, order := range []func([]api.Span) []api.Span{slices.Clone[[]api.Span], mixed} {
		joins(t, order(chain), []api.Span{span(number(0), number(many))})
		joins(t, order(apart), apart)
		joins(t, order(append(slices.Clone(apart), span(number(1), number(2*many)))), []api.Span{span(number(0), number(2*many))})
		joins(t, order(slices.Repeat(list("a", "b"), many)), list("a", "b"))
		joins(t, order(slices.Repeat(list("b", "a"), many)), nil)
		// Without one of its spans a chain falls in two.
		torn := slices.Delete(slices.Clone(chain), many/3, many/3+1)
		joins(t, order(torn), []api.Span{span(number(0), number(many/3)), span(number(many/3+1), number(many))})
	}
	if !Any(span(number(many), "z"), chain) || Any(span("a", "k"), chain) {
		t.Error("Any of many")
	}
}

// R1: texts of many bytes, that differ at their ends.
func TestLongTexts(t *testing.T) {
	k := strings.Repeat("k", long)
	if s := Of(api.Op{Kind: api.KiScan, Key: k, To: k + "b"}); s != span(k, k+"b") {
		t.Error("Of")
	}
	meets(t, span(k, k+"b"), span(k+"b", k+"c"), true)
	meets(t, span(k, k+"b"), span(k+"c", k+"d"), false)
	joins(t, list(k+"c", k+"d", k, k+"b", k+"b", k+"ba"), list(k, k+"ba", k+"c", k+"d"))
}

// withRoom is a list of the same spans whose spare room has something too.
func withRoom(l []api.Span, room int) []api.Span {
	w := slices.Clone(l)
	for n := range room {
		w = append(w, span("b", number(n)))
	}
	return w[:len(l)]
}

// scribble writes over a list, its spare room too.
func scribble(l []api.Span, text string) {
	l = l[:cap(l)]
	for i := range l {
		l[i] = span(text, text)
	}
}

// R4: what is handed in stays as it was, its spare room too, whatever the order in which it stands.
func TestHandedIn(t *testing.T) {
	for _, l := range orders(list("c", "e", "a", "b", "b", "d", "f", "f", "z", "y")) {
		for _, room := range []int{0, 1, 5} {
			w := withRoom(l, room)
			was := slices.Clone(w[:cap(w)])
			Join(w)
			Any(span("b", "c"), w)
			Any(span("y", "z"), w)
			if !slices.Equal(w[:cap(w)], was) {
				t.Fatalf("%q is %q", was, w[:cap(w)])
			}
		}
	}
}

// R4: an answer is memory of its own: what Join told is written over, and what was handed in, and all else is as it was.
func TestToldWrittenOver(t *testing.T) {
	for many := range 40 {
		var l []api.Span
		for n := range many {
			l = append(l, span(number(3*n), number(3*n+n%5)))
		}
		was, want := slices.Clone(l), words(l)
		first, second := Join(l), Join(l)
		alone := Join(first)
		scribble(first, "first")
		if !slices.Equal(l, was) || !slices.Equal(second, want) || !slices.Equal(alone, want) {
			t.Fatalf("%d: what Join told is not its own", many)
		}
		scribble(second, "second")
		scribble(l, "handed in")
		if !slices.Equal(alone, want) {
			t.Fatalf("%d: what Join told hangs on what was handed in", many)
		}
		if slices.ContainsFunc(first[:cap(first)], func(s api.Span) bool { return s.From != "first" }) {
			t.Fatalf("%d: two answers share", many)
		}
		scribble(alone, "alone")
		joins(t, was, want)
	}
}

// R5: the same calls have the same answers, whatever is called between.
func TestSameAgain(t *testing.T) {
	r := rand.New(rand.NewSource(105))
	texts := someTexts()
	type call struct {
		l, told []api.Span
		any     bool
	}
	var calls []call
	for range 200 {
		var l []api.Span
		for range r.Intn(12) {
			l = append(l, span(texts[r.Intn(len(texts))], texts[r.Intn(len(texts))]))
		}
		calls = append(calls, call{l, Join(l), Any(span("a", "b"), l)})
	}
	for _, i := range r.Perm(len(calls)) {
		if c := calls[i]; !slices.Equal(Join(c.l), c.told) || Any(span("a", "b"), c.l) != c.any {
			t.Fatalf("%q", c.l)
		}
	}
}

// P10.1 to P10.4, R1: any texts, cut at a byte, two by two; the op's kind and what is in the way are any too.
func FuzzSpans(f *testing.F) {
	f.Add("c,e,a,b,b,d,f,f,z,y", byte(','), byte(4), "a", "c")
	f.Add("", byte(0), byte(2), "", "")
	f.Add("a\x00a\x00\x00\x00\xff\x00\xff\xff", byte(0), byte(0), "\xff", "")
	f.Add("aa a aaa aa a aaa", byte(' '), byte(9), "aa", "aa")
	f.Fuzz(func(t *testing.T, texts string, cut, kind byte, from, to string) {
		parts := strings.SplitN(texts, string([]byte{cut}), 200)
		l := list(parts...)
		x := span(from, to)
		joins(t, l, words(l))
		checkJoin(t, l, append(parts, from, to))
		checkSame(t, l, append(slices.Clone(l), x))
		for _, s := range l {
			meets(t, x, s, both(x, s, from, s.From))
		}
		op := api.Op{Kind: api.Kind(kind), Key: from, To: to}
		if kind == 4 && Of(op) != x || kind != 4 && Of(op) != span(from, from) {
			t.Fatalf("Of(%q): %q", op.Key, Of(op))
		}
		if Writes(op) != (kind == 2 || kind == 3) {
			t.Fatalf("Writes: %d", kind)
		}
	})
}
