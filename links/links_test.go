package links_test

import (
	"math"
	"slices"
	"testing"

	"shackle/api"
	"shackle/links"
)

// changed returns K with the sight S, with something changed.
func changed(change func(c *api.Chain)) api.Chain {
	c := example(0, sightS())
	change(&c)
	return c
}

// P2.1
func TestCheckValid(t *testing.T) {
	l := edges()
	good := func(change func(c *api.Chain)) { l = append(l, changed(change)) }
	good(func(c *api.Chain) { c.Deeds = append(c.Deeds, slices.Repeat([]api.Deed{prove()}, 6)...) })
	good(func(c *api.Chain) { c.Deeds[0] = weld(0, 2, 0, 0) })
	good(func(c *api.Chain) { c.Deeds[0] = weld(0, 1, 99, 99) })
	good(func(c *api.Chain) { c.Deeds[2] = weld(2, 2, 6, 1) })
	good(func(c *api.Chain) { c.Deeds[4] = cut(2, 0) })
	good(func(c *api.Chain) { c.Deeds[4] = cut(2, 2) })
	good(func(c *api.Chain) { c.Deeds[3] = turn() })
	good(func(c *api.Chain) { c.Sights = slices.Repeat(c.Sights, 8) })
	good(func(c *api.Chain) { c.Sights[0] = sight(1, 0, 1, 0, 0) })
	good(func(c *api.Chain) { c.Sights[0] = sight(4, 2, 1, 99, 99) })
	good(func(c *api.Chain) { c.Sights[0] = sight(5, 1, 0, -1, -1) })
	good(func(c *api.Chain) { c.Wrong = 8 })
	for i, c := range l {
		if e := links.Check(c); e != api.OK {
			t.Errorf("%d: Check(%+v) = %d", i, c, e)
		}
	}
}

// badDeeds returns chains of which one deed is not valid.
func badDeeds() []api.Chain {
	var l []api.Chain
	bad := func(i int, d api.Deed) {
		c := example(0)
		c.Deeds[i] = d
		l = append(l, c)
	}
	for _, n := range []int{math.MinInt, -1, 0, 5, math.MaxInt} {
		bad(3, api.Deed{What: n})
		bad(5, api.Deed{What: n, Bar: 7, Smith: 2})
	}
	// 2 links before the deeds 2 and 5, 3 before the deeds 3 and 4.
	for _, n := range []int{math.MinInt, -1, 3, math.MaxInt} {
		bad(2, weld(n, 0, 6, 1))
		bad(2, weld(n, 1, 6, 1))
		bad(5, weld(n, 2, 7, 2))
		bad(4, cut(n, 0))
		bad(4, cut(n, 1))
		bad(4, cut(n, 2))
		bad(2, weld(0, n, 6, 1))
		bad(4, cut(0, n))
	}
	for _, n := range []int{math.MinInt, -1, 100, math.MaxInt} {
		bad(0, weld(0, 0, n, 1))
		bad(5, weld(0, 1, 7, n))
	}
	for _, n := range []int{math.MinInt, -1, 1, 2, math.MaxInt} {
		bad(0, weld(n, 0, 5, 1))
		bad(4, api.Deed{What: api.Cut, Bar: n})
		bad(4, api.Deed{What: api.Cut, Smith: n})
		for _, what := range []int{api.Turn, api.Prove} {
			bad(3, api.Deed{What: what, At: n})
			bad(3, api.Deed{What: what, From: n})
			bad(3, api.Deed{What: what, Bar: n})
			bad(3, api.Deed{What: what, Smith: n})
		}
	}
	return append(l,
		api.Chain{Deeds: []api.Deed{cut(0, 0)}},
		api.Chain{Deeds: []api.Deed{weld(0, 0, 1, 1), cut(0, 2), cut(0, 2)}},
		api.Chain{Deeds: slices.Repeat([]api.Deed{weld(0, 0, 1, 1)}, 13)},
		api.Chain{Deeds: slices.Repeat([]api.Deed{prove()}, 13)})
}

// badSights returns chains of which one sight is not valid.
func badSights() []api.Chain {
	var l []api.Chain
	bad := func(s api.Sight) {
		l = append(l, example(0, s), example(8, sightS(), s), example(0, s, sightS()))
	}
	for _, n := range []int{math.MinInt, -1, 0, 7, math.MaxInt} {
		bad(sight(n, 0, 0, 5, 1))
	}
	for _, n := range []int{math.MinInt, -1, 3, math.MaxInt} {
		bad(sight(6, n, 0, 6, -1))
		bad(sight(6, n, 1, 6, -1))
	}
	bad(sight(1, 1, 0, 5, 1))
	bad(sight(2, 2, 1, 5, 1))
	bad(sight(5, 2, 0, -1, -1))
	for _, n := range []int{math.MinInt, -1, 2, math.MaxInt} {
		bad(sight(6, 0, n, 6, -1))
	}
	for _, n := range []int{math.MinInt, -2, 100, math.MaxInt} {
		bad(sight(6, 0, 0, n, -1))
		bad(sight(6, 0, 0, -1, n))
	}
	return append(l,
		api.Chain{Sights: []api.Sight{sight(0, 0, 0, -1, -1)}},
		api.Chain{Deeds: []api.Deed{weld(0, 0, 1, 1), cut(0, 0)}, Sights: []api.Sight{sight(2, 0, 0, 1, 1)}},
		example(0, slices.Repeat([]api.Sight{sightS()}, 9)...))
}

// badChains returns chains that differ from a valid one in one thing.
func badChains() []api.Chain {
	l := slices.Concat(badDeeds(), badSights())
	for _, n := range []int{math.MinInt, -1, 9, math.MaxInt} {
		l = append(l, api.Chain{Wrong: n}, example(n), example(n, sightS()))
	}
	return l
}

// answer is what any of the functions returns, for tests of errors.
type answer struct {
	name  string
	e     api.Errno
	empty bool
}

// ofChain returns what the functions without places and links say.
func ofChain(c api.Chain) []answer {
	var l []answer
	add := func(name string, n int, e api.Errno) { l = append(l, answer{name, e, n == 0}) }
	n, e := links.Length(c)
	add("Length", n, e)
	n, e = links.Fewest(c)
	add("Fewest", n, e)
	n, e = links.First(c)
	add("First", n, e)
	n, e = links.Many(c)
	add("Many", n, e)
	n, e = links.Next(c)
	add("Next", n, e)
	return l
}

// ofPlace returns what the functions with a place say.
func ofPlace(c api.Chain, at, other int) []answer {
	var l []answer
	add := func(name string, list []int, e api.Errno) { l = append(l, answer{name, e, len(list) == 0}) }
	list, e := links.Who(c, at)
	add("Who", list, e)
	list, e = links.Bars(c, at)
	add("Bars", list, e)
	list, e = links.Smiths(c, at)
	add("Smiths", list, e)
	n, e := links.Alike(c, at, other)
	m, f := links.Alike(c, other, at)
	return append(l, answer{"Alike", e, n == 0}, answer{"Alike turned", f, m == 0})
}

// ofLink returns what the functions with a link say.
func ofLink(c api.Chain, link int) []answer {
	where, e := links.Where(c, link)
	times, f := links.Proofs(c, link)
	last, g := links.Last(c, link)
	return []answer{{"Where", e, len(where) == 0}, {"Proofs", f, times == api.Span{}}, {"Last", g, len(last) == 0}}
}

func mustAll(t *testing.T, c api.Chain, l []answer, want api.Errno) {
	t.Helper()
	for _, a := range l {
		if a.e != want || !a.empty {
			t.Errorf("%+v: %+v, not %d", c, a, want)
		}
	}
}

// P2.1, R1, R2, R5, R8: ErrChain comes first, whatever the other arguments are.
func TestErrChain(t *testing.T) {
	for _, c := range badChains() {
		if e := links.Check(c); e != api.ErrChain {
			t.Errorf("Check(%+v) = %d", c, e)
		}
		mustAll(t, c, ofChain(c), api.ErrChain)
		for _, n := range []int{-1, 0, 99} {
			mustAll(t, c, ofPlace(c, n, n), api.ErrChain)
			mustAll(t, c, ofLink(c, n), api.ErrChain)
		}
	}
}

// R1, R2: ErrArg comes before ErrNone, and whether there is a truth or not.
func TestErrArg(t *testing.T) {
	for _, c := range edges() {
		length, _ := links.Length(c)
		for _, n := range []int{math.MinInt, -1, length, 12, math.MaxInt} {
			mustAll(t, c, ofPlace(c, n, n), api.ErrArg)
			if length > 0 {
				mustAll(t, c, ofPlace(c, n, 0)[3:], api.ErrArg)
			}
		}
		for _, n := range []int{math.MinInt, -1, len(modelLinks(c)), 12, math.MaxInt} {
			mustAll(t, c, ofLink(c, n), api.ErrArg)
		}
	}
}

// R2: without a truth there is nothing but ErrNone. Check, Length, Fewest and First need no truth.
func TestErrNone(t *testing.T) {
	c := example(0, sightS(), sightT())
	if e := links.Check(c); e != api.OK {
		t.Errorf("Check = %d", e)
	}
	all := ofChain(c)
	for _, a := range all[:3] {
		if a.e != api.OK || a.empty {
			t.Errorf("%+v", a)
		}
	}
	mustAll(t, c, all[3:], api.ErrNone)
	for at := range 3 {
		mustAll(t, c, ofPlace(c, at, 0), api.ErrNone)
	}
	for link := range 4 {
		mustAll(t, c, ofLink(c, link), api.ErrNone)
	}
	c.Wrong = 1
	for _, a := range slices.Concat(ofChain(c)[:4], ofPlace(c, 0, 1), ofLink(c, 0)) {
		if a.e != api.OK || a.empty {
			t.Errorf("with one wrong: %+v", a)
		}
	}
}

// P2.2, P2.4, P2.11: no deeds are one truth, in which there is no place.
func TestNoLinks(t *testing.T) {
	for i, c := range edges()[:6] {
		if n, e := links.Length(c); n != 0 || e != api.OK {
			t.Errorf("%d: Length = %d, %d", i, n, e)
		}
		if n, e := links.Next(c); n != 0 || e != api.ErrNone {
			t.Errorf("%d: Next = %d, %d", i, n, e)
		}
		mustAll(t, c, ofPlace(c, 0, 0), api.ErrArg)
	}
	for i, want := range []int{1, 1, 1, 1, 4, 0} {
		n, e := links.Many(edges()[i])
		if n != want || want > 0 && e != api.OK || want == 0 && e != api.ErrNone {
			t.Errorf("%d: Many = %d, %d", i, n, e)
		}
	}
}

// The chapter's examples, and example 2 of the document.
func TestExamples(t *testing.T) {
	number := func(name string, n int, e api.Errno, want int) {
		t.Helper()
		if n != want || e != api.OK {
			t.Errorf("%s = %d, %d, not %d", name, n, e, want)
		}
	}
	list := func(name string, l []int, e api.Errno, want ...int) {
		t.Helper()
		if !slices.Equal(l, want) || e != api.OK {
			t.Errorf("%s = %v, %d, not %v", name, l, e, want)
		}
	}
	k, s, both := example(0), example(0, sightS()), example(0, sightS(), sightT())
	for _, x := range []struct {
		name   string
		f      func(c api.Chain) (int, api.Errno)
		k, s   int
		onBoth bool
	}{{"Length", links.Length, 3, 3, true}, {"Many", links.Many, 2, 1, false}, {"Fewest", links.Fewest, 0, 0, true}} {
		n, e := x.f(k)
		number(x.name, n, e, x.k)
		n, e = x.f(s)
		number(x.name, n, e, x.s)
		if _, e := x.f(both); (e == api.OK) != x.onBoth {
			t.Errorf("%s of both: %d", x.name, e)
		}
	}
	for at, want := range [][]int{{0, 1}, {1, 2}, {3}} {
		l, e := links.Who(k, at)
		list("Who", l, e, want...)
	}
	for at, want := range []int{1, 2} {
		l, e := links.Who(s, at)
		list("Who with S", l, e, want)
	}
	for at, want := range [][]int{{5}, {5, 6}} {
		l, e := links.Bars(k, at)
		list("Bars", l, e, want...)
	}
	l, e := links.Smiths(k, 0)
	list("Smiths", l, e, 1, 2)
	for link, want := range [][]int{{-1, 0}, {0, 1}, {-1, 1}, {2}} {
		l, e := links.Where(k, link)
		list("Where", l, e, want...)
	}
	for link, want := range map[int]api.Span{0: span(1, 1), 3: span(0, 0)} {
		if r, e := links.Proofs(k, link); r != want || e != api.OK {
			t.Errorf("Proofs = %v, %d, not %v", r, e, want)
		}
	}
	for link, want := range map[int]int{1: 3, 3: -1} {
		l, e := links.Last(k, link)
		list("Last", l, e, want)
	}
	for _, x := range [][3]int{{0, 1, api.Perhaps}, {0, 2, api.Never}, {1, 1, api.Surely}} {
		n, e := links.Alike(k, x[0], x[1])
		number("Alike", n, e, x[2])
	}
	n, e := links.First(both)
	number("First", n, e, 1)
	n, e = links.Fewest(both)
	number("Fewest", n, e, 1)
	n, e = links.Next(k)
	number("Next", n, e, 0)
	if n, e := links.First(s); n != 0 || e != api.ErrNone {
		t.Errorf("First with S = %d, %d", n, e)
	}
}

// P2.1 to P2.11: each function says what the model says.
func TestModel(t *testing.T) {
	chains(func(c api.Chain, d *dice) { ask(t, c) })
	d := &dice{7}
	for range 10 {
		ask(t, d.chain(api.MaxDeeds, api.MaxMarks))
	}
}

// A place is counted from the head or the tail, for each deed and each sight.
func TestEnds(t *testing.T) {
	three := []api.Deed{weld(0, 0, 0, 0), weld(1, 0, 1, 1), weld(2, 0, 2, 2)}
	for _, x := range []struct {
		d    api.Deed
		want []int
	}{
		{weld(0, 0, 3, 3), []int{3, 0, 1, 2}},
		{weld(1, 0, 3, 3), []int{0, 3, 1, 2}},
		{weld(3, 0, 3, 3), []int{0, 1, 2, 3}},
		{weld(0, 1, 3, 3), []int{0, 1, 2, 3}},
		{weld(1, 1, 3, 3), []int{0, 1, 3, 2}},
		{weld(3, 1, 3, 3), []int{3, 0, 1, 2}},
		{cut(0, 0), []int{1, 2}},
		{cut(2, 0), []int{0, 1}},
		{cut(0, 1), []int{0, 1}},
		{cut(2, 1), []int{1, 2}},
		{cut(1, 2), []int{0, 2}},
		{turn(), []int{2, 1, 0}},
		{prove(), []int{0, 1, 2}},
	} {
		c := api.Chain{Deeds: append(slices.Clone(three), x.d)}
		for at, want := range x.want {
			if l, e := links.Who(c, at); !slices.Equal(l, []int{want}) || e != api.OK {
				t.Errorf("%+v: Who(%d) = %v, %d, not %d", x.d, at, l, e, want)
			}
			c.Sights = append(c.Sights, sight(4, at, 0, want, want), sight(4, len(x.want)-1-at, 1, want, want))
		}
		if n, e := links.Many(c); n == 0 || e != api.OK {
			t.Errorf("%+v: Many = %d, %d", x.d, n, e)
		}
	}
}

// P2.3, P2.4: Wrong counts for Many, from 0 to MaxMarks, and does not for Fewest and First.
func TestWrong(t *testing.T) {
	for bad := range api.MaxMarks + 1 {
		c := api.Chain{Deeds: []api.Deed{weld(0, 0, 1, 1), weld(0, 2, 2, 2)}}
		for n := range api.MaxMarks {
			s := sight(1, 0, 0, 1, 1)
			if n < bad {
				s.Smith = 2
			}
			c.Sights = append(c.Sights, s)
		}
		for c.Wrong = range api.MaxMarks + 1 {
			want := 0
			if bad <= c.Wrong {
				want = 2
			}
			if n, e := links.Many(c); n != want || (e == api.OK) != (want > 0) {
				t.Errorf("%d of %d: Many = %d, %d", bad, c.Wrong, n, e)
			}
			if n, e := links.Fewest(c); n != bad || e != api.OK {
				t.Errorf("%d of %d: Fewest = %d, %d", bad, c.Wrong, n, e)
			}
			if n, e := links.First(c); n != 0 || (e == api.OK) != (bad > 0) {
				t.Errorf("%d of %d: First = %d, %d", bad, c.Wrong, n, e)
			}
		}
	}
}

// P2.10: a sight contradicts along with all before it, also if it would not alone.
func TestFirst(t *testing.T) {
	unread := sight(6, 2, 0, -1, -1)
	for i, x := range []struct {
		sights []api.Sight
		want   int // -1: there is none
	}{
		{nil, -1},
		{[]api.Sight{unread, unread}, -1},
		{[]api.Sight{unread, sightS(), unread}, -1},
		{[]api.Sight{unread, sightS(), unread, sightT()}, 3},
		{[]api.Sight{sightT(), unread, sightS(), sightT()}, 2},
		{[]api.Sight{sight(6, 2, 0, 6, -1), sightS(), sightT()}, 0},
		{[]api.Sight{sightS(), sight(6, 2, 0, -1, 1), sightT()}, 1},
		{[]api.Sight{unread, unread, unread, unread, unread, unread, unread, sight(6, 2, 0, 0, 0)}, 7},
	} {
		for _, wrong := range []int{0, 1, 8} {
			n, e := links.First(example(wrong, x.sights...))
			if x.want >= 0 && (n != x.want || e != api.OK) || x.want < 0 && (n != 0 || e != api.ErrNone) {
				t.Errorf("%d: First = %d, %d, not %d", i, n, e, x.want)
			}
		}
	}
}

// P2.11: bar and smith count together, truths are counted and not links, and of equal places it is the first one.
func TestNext(t *testing.T) {
	for i, x := range []struct {
		deeds []api.Deed
		want  int
	}{
		{[]api.Deed{weld(0, 0, 1, 1)}, 0},
		{[]api.Deed{weld(0, 0, 1, 1), weld(1, 0, 2, 2)}, 0},                                     // all are known
		{[]api.Deed{weld(0, 0, 1, 1), weld(0, 0, 2, 2), weld(0, 2, 3, 3)}, 0},                   // the middle one has 2 marks, but so have all
		{[]api.Deed{weld(0, 0, 1, 1), weld(0, 0, 1, 1), weld(0, 0, 1, 1), weld(1, 2, 2, 2)}, 1}, // the ends are known
		{[]api.Deed{weld(0, 0, 1, 1), weld(0, 0, 1, 1), weld(0, 0, 1, 1), weld(1, 2, 1, 2)}, 1}, // only the smith differs
		{[]api.Deed{weld(0, 0, 1, 1), weld(0, 0, 1, 1), weld(0, 0, 1, 1), weld(1, 2, 2, 1)}, 1}, // only the bar differs
		{[]api.Deed{weld(0, 0, 1, 1), weld(0, 0, 1, 1), weld(0, 0, 1, 1), weld(1, 2, 1, 1)}, 0}, // no mark differs
		{[]api.Deed{weld(0, 0, 1, 1), weld(1, 0, 2, 2), weld(2, 0, 3, 3), cut(0, 2), cut(0, 2)}, 0},
		{[]api.Deed{weld(0, 0, 1, 1), weld(1, 0, 2, 2), weld(2, 0, 3, 3), weld(0, 0, 4, 4), cut(1, 2)}, 1},
		{[]api.Deed{weld(0, 0, 1, 1), weld(0, 0, 1, 1), weld(0, 0, 1, 1), weld(0, 0, 1, 1), weld(1, 2, 2, 2)}, 1}, // the place 3 is equal
	} {
		if n, e := links.Next(api.Chain{Deeds: x.deeds}); n != x.want || e != api.OK {
			t.Errorf("%d: Next = %d, %d, not %d", i, n, e, x.want)
		}
	}
}

// P2.6 to P2.8: a link that is cut out, or perhaps; what came before it was there does not prove it.
func TestCutOut(t *testing.T) {
	c := api.Chain{Deeds: []api.Deed{prove(), weld(0, 0, 1, 1), prove(), weld(1, 0, 2, 2), prove(), cut(0, 2), prove(), turn(), weld(0, 0, 3, 3), cut(1, 0), prove()}}
	for link, x := range []struct {
		where  []int
		proofs api.Span
		last   []int
	}{
		{[]int{-1}, span(2, 3), []int{4, 6}},
		{[]int{-1}, span(1, 2), []int{4, 6}},
		{[]int{0}, span(1, 1), []int{10}},
	} {
		where, e := links.Where(c, link)
		proofs, f := links.Proofs(c, link)
		last, g := links.Last(c, link)
		if !slices.Equal(where, x.where) || e != api.OK || proofs != x.proofs || f != api.OK || !slices.Equal(last, x.last) || g != api.OK {
			t.Errorf("%d: Where = %v, %d; Proofs = %v, %d; Last = %v, %d", link, where, e, proofs, f, last, g)
		}
	}
}

// P1: each function ends, and soon, for the greatest chains.
func TestGreatest(t *testing.T) {
	c := api.Chain{Deeds: slices.Repeat([]api.Deed{weld(0, 2, 99, 99)}, 12), Wrong: 8}
	c.Sights = slices.Repeat([]api.Sight{sight(12, 11, 1, 0, 0)}, 8)
	for i := range c.Deeds {
		c.Deeds[i].Bar = i
	}
	if n, e := links.Many(c); n != 4096 || e != api.OK {
		t.Errorf("Many = %d, %d", n, e)
	}
	if l, e := links.Who(c, 0); len(l) != 12 || e != api.OK {
		t.Errorf("Who = %v, %d", l, e)
	}
	if l, e := links.Where(c, 0); len(l) != 12 || e != api.OK {
		t.Errorf("Where = %v, %d", l, e)
	}
	for _, a := range slices.Concat(ofChain(c), ofPlace(c, 11, 0), ofLink(c, 11)) {
		if a.e != api.OK {
			t.Errorf("%+v", a)
		}
	}
	// No sight is right, and one more is not than can be.
	c.Wrong = 7
	mustAll(t, c, slices.Concat(ofChain(c)[3:], ofPlace(c, 11, 0), ofLink(c, 11)), api.ErrNone)
}

// P1: no argument makes a function panic.
func TestAnyArguments(t *testing.T) {
	wild := slices.Concat(badChains(), edges())
	wild = append(wild, api.Chain{Deeds: make([]api.Deed, 1000), Sights: make([]api.Sight, 1000), Wrong: math.MaxInt})
	for _, c := range wild {
		links.Check(c)
		ofChain(c)
		for _, n := range []int{math.MinInt, -1, 0, 1, 2, 3, 11, 12, 999, math.MaxInt} {
			ofPlace(c, n, n)
			ofPlace(c, n, 0)
			ofLink(c, n)
		}
	}
}

// R3: a list that is nil and one that is empty are the same.
func TestNilAndEmpty(t *testing.T) {
	for i, c := range []api.Chain{{}, {Deeds: []api.Deed{}}, {Sights: []api.Sight{}}, {Deeds: []api.Deed{}, Sights: []api.Sight{}}} {
		if n, e := links.Many(c); n != 1 || e != api.OK {
			t.Errorf("%d: Many = %d, %d", i, n, e)
		}
		if n, e := links.Fewest(c); n != 0 || e != api.OK {
			t.Errorf("%d: Fewest = %d, %d", i, n, e)
		}
		mustAll(t, c, ofPlace(c, 0, 0), api.ErrArg)
		mustAll(t, c, ofLink(c, 0), api.ErrArg)
	}
	c := example(0)
	c.Sights = []api.Sight{}
	ask(t, c)
}

// R4: no argument is changed, and a list that is returned is new.
func TestMemory(t *testing.T) {
	for _, c := range edges() {
		// Room behind each list shows what is written there.
		c.Deeds = append(slices.Clone(c.Deeds), turn(), prove())[:len(c.Deeds)]
		c.Sights = append(slices.Clone(c.Sights), sightS(), sightT())[:len(c.Sights)]
		before := api.Chain{Deeds: slices.Clone(c.Deeds[:len(c.Deeds)+2]), Sights: slices.Clone(c.Sights[:len(c.Sights)+2]), Wrong: c.Wrong}
		links.Check(c)
		ofChain(c)
		ofPlace(c, 0, 1)
		ofLink(c, 0)
		c.Deeds = c.Deeds[:len(c.Deeds)+2]
		c.Sights = c.Sights[:len(c.Sights)+2]
		if !equal(c, before) {
			t.Errorf("%+v became %+v", before, c)
		}
	}
	c := example(1, sightS(), sightT())
	for name, f := range map[string]func(api.Chain, int) ([]int, api.Errno){"Who": links.Who, "Bars": links.Bars, "Smiths": links.Smiths, "Where": links.Where, "Last": links.Last} {
		a, e := f(c, 0)
		b, g := f(c, 0)
		for i := range a {
			a[i] = 77
		}
		if e != api.OK || g != api.OK || len(a) == 0 || slices.Contains(b, 77) || !equal(c, example(1, sightS(), sightT())) {
			t.Errorf("%s = %v, %d and %v, %d of %+v", name, a, e, b, g, c)
		}
	}
}
