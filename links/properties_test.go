package links_test

import (
	"slices"
	"testing"

	"shackle/api"
	"shackle/links"
)

// facts is all that the functions say of a chain that has a truth.
type facts struct {
	length, fewest, first, many, next int // first and next are -1 if there is none
	who, bars, smiths                 [][]int
	alike                             [][]int
	where, last                       [][]int
	proofs                            []api.Span
}

// learn returns the facts of a chain, and whether there is a truth.
func learn(t *testing.T, c api.Chain) (facts, bool) {
	t.Helper()
	var f facts
	must := func(e api.Errno) {
		t.Helper()
		if e != api.OK {
			t.Fatalf("%+v: %d", c, e)
		}
	}
	var e api.Errno
	f.length, e = links.Length(c)
	must(e)
	f.fewest, e = links.Fewest(c)
	must(e)
	f.many, e = links.Many(c)
	if e == api.ErrNone {
		return facts{fewest: f.fewest}, false
	}
	must(e)
	f.first, f.next = orNone(t, links.First, c), orNone(t, links.Next, c)
	for at := range f.length {
		f.learnPlace(c, at, must)
	}
	for link := range modelLinks(c) {
		where, e := links.Where(c, link)
		must(e)
		last, e := links.Last(c, link)
		must(e)
		proofs, e := links.Proofs(c, link)
		must(e)
		f.where, f.last, f.proofs = append(f.where, where), append(f.last, last), append(f.proofs, proofs)
	}
	return f, true
}

func (f *facts) learnPlace(c api.Chain, at int, must func(e api.Errno)) {
	who, e := links.Who(c, at)
	must(e)
	bars, e := links.Bars(c, at)
	must(e)
	smiths, e := links.Smiths(c, at)
	must(e)
	var alike []int
	for other := range f.length {
		n, e := links.Alike(c, at, other)
		must(e)
		alike = append(alike, n)
	}
	f.who, f.bars, f.smiths, f.alike = append(f.who, who), append(f.bars, bars), append(f.smiths, smiths), append(f.alike, alike)
}

// orNone returns -1 for ErrNone.
func orNone(t *testing.T, f func(api.Chain) (int, api.Errno), c api.Chain) int {
	t.Helper()
	n, e := f(c)
	if e == api.ErrNone && n == 0 {
		return -1
	}
	if e != api.OK {
		t.Fatalf("%+v: %d, %d", c, n, e)
	}
	return n
}

// P2.12
func TestEachTruth(t *testing.T) {
	chains(func(c api.Chain, d *dice) {
		truths := modelTruths(c)
		f, ok := learn(t, c)
		if ok != (len(truths) > 0) || f.many != len(truths) {
			t.Fatalf("%+v: %t, %d", c, ok, f.many)
		}
		for _, p := range truths {
			eachPlace(t, c, f, p)
			for link := range modelLinks(c) {
				eachLink(t, c, f, p, link)
			}
		}
	})
}

func eachPlace(t *testing.T, c api.Chain, f facts, p modelPast) {
	t.Helper()
	welded := modelLinks(c)
	for at, link := range p.last() {
		if !slices.Contains(f.who[at], link) || !slices.Contains(f.bars[at], welded[link].Bar) || !slices.Contains(f.smiths[at], welded[link].Smith) || !slices.Contains(f.where[link], at) {
			t.Errorf("%+v: %d is at %d: %+v", c, link, at, f)
		}
		for other, second := range p.last() {
			same := welded[link].Bar == welded[second].Bar
			if n := f.alike[at][other]; n == api.Surely && !same || n == api.Never && same || at == other && n != api.Surely {
				t.Errorf("%+v: Alike of %d and %d: %d", c, at, other, n)
			}
		}
	}
}

func eachLink(t *testing.T, c api.Chain, f facts, p modelPast, link int) {
	t.Helper()
	at, times, last := modelPlace(p, link), modelTimes(p, link), modelLast(p, link)
	if !slices.Contains(f.where[link], at) || times < f.proofs[link].Low || times > f.proofs[link].High || !slices.Contains(f.last[link], last) {
		t.Errorf("%+v: %d at %d, proved %d times, at last %d: %+v", c, link, at, times, last, f)
	}
	here := 0
	for _, n := range p.last() {
		if n == link {
			here++
		}
	}
	if here > 1 || (here == 1) != (at >= 0) {
		t.Errorf("%+v: %d is at %d places", c, link, here)
	}
}

// P2.13
func TestOneMoreSight(t *testing.T) {
	fewer := 0
	chains(func(c api.Chain, d *dice) {
		s, ok := d.sight(c)
		if !ok || len(c.Sights) == api.MaxMarks {
			return
		}
		more := clone(c)
		more.Sights = append(more.Sights, s)
		before, was := learn(t, c)
		after, is := learn(t, more)
		if was != (before.fewest <= c.Wrong) || is != (after.fewest <= c.Wrong) || is && !was {
			t.Errorf("%+v: %t, %d; %+v: %t, %d", c, was, before.fewest, more, is, after.fewest)
		}
		if after.fewest < before.fewest || after.fewest > before.fewest+1 {
			t.Errorf("%+v: Fewest was %d, is %d", more, before.fewest, after.fewest)
		}
		if !is || !was {
			return
		}
		if after.many > before.many {
			t.Errorf("%+v: Many was %d, is %d", more, before.many, after.many)
		}
		if after.many < before.many {
			fewer++
		}
		nothingNew(t, more, "Who", before.who, after.who)
		nothingNew(t, more, "Where", before.where, after.where)
	})
	if fewer < 50 {
		t.Errorf("only %d sights left fewer truths", fewer)
	}
}

func nothingNew(t *testing.T, c api.Chain, name string, before, after [][]int) {
	t.Helper()
	for i, l := range after {
		for _, n := range l {
			if !slices.Contains(before[i], n) {
				t.Errorf("%+v: %s(%d) was %v, is %v", c, name, i, before[i], l)
			}
		}
	}
}

// P2.13: there is a truth just if Fewest is at most Wrong.
func TestFewestOrWrong(t *testing.T) {
	chains(func(c api.Chain, d *dice) {
		fewest, e := links.Fewest(c)
		for c.Wrong = range api.MaxMarks + 1 {
			n, f := links.Many(c)
			if e != api.OK || (n > 0) != (fewest <= c.Wrong) || (f == api.OK) != (n > 0) {
				t.Errorf("%+v: Fewest = %d, %d; Many = %d, %d", c, fewest, e, n, f)
			}
		}
	})
}

// P2.14
func TestFirstContradiction(t *testing.T) {
	found := 0
	chains(func(c api.Chain, d *dice) {
		fewest := func(sights []api.Sight) int {
			u := clone(c)
			u.Sights = sights
			n, e := links.Fewest(u)
			if e != api.OK {
				t.Fatalf("%+v: Fewest = %d", u, e)
			}
			return n
		}
		first := orNone(t, links.First, c)
		if (first >= 0) != (fewest(c.Sights) > 0) {
			t.Errorf("%+v: First = %d, Fewest = %d", c, first, fewest(c.Sights))
		}
		if first < 0 {
			return
		}
		found++
		if a, b := fewest(c.Sights[:first]), fewest(c.Sights[:first+1]); a != 0 || b != 1 {
			t.Errorf("%+v: First = %d; Fewest without it is %d, with it %d", c, first, a, b)
		}
	})
	if found < 50 {
		t.Errorf("only %d contradictions", found)
	}
}

// turnedAround returns a chain with the other end in each From of 0 or 1. Deeds without a place have no end.
func turnedAround(c api.Chain) api.Chain {
	u := clone(c)
	for i, d := range u.Deeds {
		if d.What != api.Turn && d.What != api.Prove && d.From != 2 {
			u.Deeds[i].From = 1 - d.From
		}
	}
	for i := range u.Sights {
		u.Sights[i].From = 1 - u.Sights[i].From
	}
	return u
}

// P2.15
func TestTurnedAround(t *testing.T) {
	chains(func(c api.Chain, d *dice) {
		u := turnedAround(c)
		f, ok := learn(t, c)
		g, is := learn(t, u)
		if ok != is || f.fewest != g.fewest {
			t.Fatalf("%+v: %t, %d, but %+v: %t, %d", c, ok, f.fewest, u, is, g.fewest)
		}
		if !ok {
			return
		}
		if f.length != g.length || f.many != g.many || f.first != g.first || !slices.Equal(f.proofs, g.proofs) || !slices.EqualFunc(f.last, g.last, slices.Equal) {
			t.Errorf("%+v: %+v, turned around %+v", c, f, g)
		}
		for at := range f.length {
			back := f.length - 1 - at
			slices.Reverse(g.alike[back])
			if !slices.Equal(f.who[at], g.who[back]) || !slices.Equal(f.bars[at], g.bars[back]) || !slices.Equal(f.smiths[at], g.smiths[back]) || !slices.Equal(f.alike[at], g.alike[back]) {
				t.Errorf("%+v: %+v, turned around %+v", c, f, g)
			}
		}
		for link, l := range f.where {
			if !slices.Equal(l, fromTail(g.where[link], f.length)) {
				t.Errorf("%+v: Where(%d) = %v, turned around %v", c, link, l, g.where[link])
			}
		}
		sameNext(t, c, u, f, g)
	})
}

// fromTail returns places, counted from the other end, ascending.
func fromTail(places []int, length int) []int {
	var l []int
	for _, at := range places {
		if at >= 0 {
			at = length - 1 - at
		}
		l = append(l, at)
	}
	slices.Sort(l)
	return l
}

// sameNext holds Next against the cable turned around: it can be another one of equal places, but no worse one.
func sameNext(t *testing.T, c, u api.Chain, f, g facts) {
	t.Helper()
	if f.next < 0 || g.next < 0 {
		if f.next != g.next {
			t.Errorf("%+v: Next = %d, turned around %d", c, f.next, g.next)
		}
		return
	}
	if a, b := modelWorst(c, modelTruths(c), f.next), modelWorst(u, modelTruths(u), g.next); a != b {
		t.Errorf("%+v: Next = %d with %d, turned around %d with %d", c, f.next, a, g.next, b)
	}
}

// P2.16
func TestLastDeed(t *testing.T) {
	chains(func(c api.Chain, d *dice) {
		f, ok := learn(t, c)
		if !ok || len(c.Deeds)+2 > api.MaxDeeds {
			return
		}
		n := len(f.where)
		more := clone(c)
		more.Deeds = append(more.Deeds, weld(0, 0, 9, 9))
		g, _ := learn(t, more)
		for link, l := range f.where {
			if !slices.Equal(g.where[link], nextPlaces(l)) {
				t.Errorf("%+v: Where(%d) was %v, is %v", more, link, l, g.where[link])
			}
		}
		if !slices.Equal(g.where[n], []int{0}) || g.length != f.length+1 || g.many != f.many {
			t.Errorf("%+v: %+v became %+v", more, f, g)
		}
		more.Deeds = append(more.Deeds, cut(0, 0))
		h, _ := learn(t, more)
		if !slices.EqualFunc(f.where, h.where[:n], slices.Equal) || !slices.EqualFunc(f.who, h.who, slices.Equal) || !slices.Equal(h.where[n], []int{-1}) || h.many != f.many {
			t.Errorf("%+v: %+v became %+v", more, f, h)
		}
		proveOnce(t, c, f)
	})
}

// nextPlaces returns the place behind each one; a link that is cut out stays so.
func nextPlaces(places []int) []int {
	var l []int
	for _, at := range places {
		if at >= 0 {
			at++
		}
		l = append(l, at)
	}
	return l
}

func proveOnce(t *testing.T, c api.Chain, f facts) {
	t.Helper()
	more := clone(c)
	more.Deeds = append(more.Deeds, prove())
	g, _ := learn(t, more)
	for link, where := range f.where {
		was, is := f.proofs[link], g.proofs[link]
		switch {
		case !slices.Contains(where, -1):
			if is != span(was.Low+1, was.High+1) || !slices.Equal(g.last[link], []int{len(c.Deeds)}) {
				t.Errorf("%+v: Proofs(%d) was %v, is %v; Last is %v", more, link, was, is, g.last[link])
			}
		case len(where) == 1:
			if is != was || !slices.Equal(g.last[link], f.last[link]) {
				t.Errorf("%+v: Proofs(%d) was %v, is %v", more, link, was, is)
			}
		}
	}
}

// P2.17
func TestKnownEnds(t *testing.T) {
	chains(func(c api.Chain, d *dice) {
		c = clone(c)
		for i := range c.Deeds {
			if c.Deeds[i].From == 2 {
				c.Deeds[i].From = d.upTo(2)
			}
		}
		f, ok := learn(t, c)
		if !ok {
			return
		}
		if f.many != 1 {
			t.Errorf("%+v: Many = %d", c, f.many)
		}
		there := make([]int, len(f.where))
		for at, l := range f.who {
			if len(l) != 1 {
				t.Fatalf("%+v: Who(%d) = %v", c, at, l)
			}
			there[l[0]]++
		}
		out := 0
		for _, x := range c.Deeds {
			if x.What == api.Cut {
				out++
			}
		}
		for link, l := range f.where {
			if there[link] == 0 && !slices.Equal(l, []int{-1}) || there[link] == 1 && (len(l) != 1 || f.who[l[0]][0] != link) || there[link] > 1 {
				t.Errorf("%+v: %d is at %d places, Where = %v", c, link, there[link], l)
			}
			out -= 1 - there[link]
		}
		if out != 0 {
			t.Errorf("%+v: %d more links were cut out than there are not", c, out)
		}
	})
}
