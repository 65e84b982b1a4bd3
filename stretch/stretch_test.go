package stretch_test

import (
	"math"
	"slices"
	"testing"

	"shackle/api"
	"shackle/stretch"
)

// full returns a pull that is as great as one can be.
func full() api.Pull {
	return api.Pull{
		Iron:     50,
		Guess:    span(1, 99999),
		Rods:     slices.Repeat([]api.Rod{rod(9999, 9, 50)}, 4),
		Readings: slices.Repeat([]api.Reading{reading(2, 3, 99, 9999, 99, -50, 50)}, 8),
		Wrong:    8,
	}
}

// P4.1
func TestCheckValid(t *testing.T) {
	l := append(edges(), full(), example(0), example(8, warm(), odd()))
	good := func(change func(p *api.Pull)) {
		p := example(0, warm())
		change(&p)
		l = append(l, p)
	}
	good(func(p *api.Pull) { p.Iron = 0 })
	good(func(p *api.Pull) { p.Iron = 50 })
	good(func(p *api.Pull) { p.Guess = span(1, 1) })
	good(func(p *api.Pull) { p.Guess = span(1, 99999) })
	good(func(p *api.Pull) { p.Guess = span(99999, 99999) })
	good(func(p *api.Pull) { p.Wrong = 8 })
	good(func(p *api.Pull) { p.Rods = slices.Repeat(p.Rods, 2) })
	good(func(p *api.Pull) { p.Rods[1] = rod(1, 0, 0) })
	good(func(p *api.Pull) { p.Rods[1] = rod(9999, 9, 50) })
	good(func(p *api.Pull) { p.Rods[1] = rod(10, 9, 0) })
	good(func(p *api.Pull) { p.Rods[1] = rod(2, 1, 0) })
	good(func(p *api.Pull) { p.Readings = nil })
	good(func(p *api.Pull) { p.Rods, p.Readings = nil, nil })
	good(func(p *api.Pull) { p.Readings = slices.Repeat(p.Readings[:1], 8) })
	good(func(p *api.Pull) { p.Readings[0] = reading(1, 0, 0, 0, 0, -50, -50) })
	good(func(p *api.Pull) { p.Readings[2] = reading(2, 1, 99, 9999, 99, 50, 50) })
	for i, p := range l {
		if e := stretch.Check(p); e != api.OK {
			t.Errorf("%d: Check(%+v) = %d", i, p, e)
		}
	}
}

// badPulls returns pulls that differ from a valid one in one thing.
func badPulls() []api.Pull {
	var l []api.Pull
	bad := func(change func(p *api.Pull)) {
		p := example(0, warm())
		change(&p)
		l = append(l, p)
		p = full()
		change(&p)
		l = append(l, p)
	}
	outside := func(low, high int, set func(p *api.Pull, n int)) {
		for _, n := range []int{math.MinInt, low - 1, high + 1, math.MaxInt} {
			bad(func(p *api.Pull) { set(p, n) })
		}
	}
	outside(0, 50, func(p *api.Pull, n int) { p.Iron = n })
	outside(0, 8, func(p *api.Pull, n int) { p.Wrong = n })
	for _, s := range []api.Span{span(0, 1), span(0, 0), span(-1, 9), span(10, 9), span(9, 100000), span(100000, 100000), span(math.MinInt, 9), span(9, math.MaxInt), span(math.MaxInt, math.MinInt)} {
		bad(func(p *api.Pull) { p.Guess = s })
	}
	for i := range 2 {
		outside(1, 9999, func(p *api.Pull, n int) { p.Rods[i].Long = n })
		outside(0, 9, func(p *api.Pull, n int) { p.Rods[i].Wear = n })
		outside(0, 50, func(p *api.Pull, n int) { p.Rods[i].Grow = n })
		for n := range 9 {
			bad(func(p *api.Pull) { p.Rods[i] = rod(n+1, n+1, 0) })
			bad(func(p *api.Pull) { p.Rods[i] = rod(n+1, 9, 0) })
		}
	}
	for i := range 3 {
		outside(1, 2, func(p *api.Pull, n int) { p.Readings[i].When = n })
		outside(0, 99, func(p *api.Pull, n int) { p.Readings[i].Count = n })
		outside(0, 9999, func(p *api.Pull, n int) { p.Readings[i].Rest = n })
		outside(0, 99, func(p *api.Pull, n int) { p.Readings[i].Off = n })
		for _, n := range []int{math.MinInt, -1, 4, math.MaxInt} {
			bad(func(p *api.Pull) { p.Readings[i].Rod = n })
			bad(func(p *api.Pull) { p.Readings[i].Rod = len(p.Rods) })
		}
		for _, s := range []api.Span{span(1, 0), span(-50, -51), span(-51, 0), span(0, 51), span(51, 51), span(-51, -51), span(51, 50), span(math.MinInt, 0), span(0, math.MaxInt), span(math.MaxInt, math.MinInt)} {
			bad(func(p *api.Pull) { p.Readings[i].Warm = s })
		}
	}
	bad(func(p *api.Pull) { p.Rods = slices.Repeat(p.Rods[:1], 5) })
	bad(func(p *api.Pull) { p.Rods = append(p.Rods[:1], api.Rod{}) })
	bad(func(p *api.Pull) { p.Rods = nil })
	bad(func(p *api.Pull) { p.Rods = p.Rods[:1]; p.Readings[2].Rod = 1 })
	bad(func(p *api.Pull) { p.Readings = slices.Repeat(p.Readings[:1], 9) })
	bad(func(p *api.Pull) { p.Readings = make([]api.Reading, 1) })
	return append(l, api.Pull{})
}

// answer is what any of the functions returns, for tests of errors.
type answer struct {
	name  string
	e     api.Errno
	empty bool
}

// ofPull returns what the functions say that take nothing but a pull, Fewest first.
func ofPull(p api.Pull) []answer {
	fewest, e := stretch.Fewest(p)
	many, f := stretch.Many(p)
	strange, g := stretch.Strange(p)
	s, h := stretch.Stretch(p)
	best, i := stretch.Best(p)
	next, j := stretch.Next(p)
	return []answer{{"Fewest", e, fewest == 0}, {"Many", f, many == 0}, {"Strange", g, len(strange) == 0}, {"Stretch", h, s == api.Span{}}, {"Best", i, best == 0}, {"Next", j, next == 0}}
}

func ofWhen(p api.Pull, when int) []answer {
	l, e := stretch.Lengths(p, when)
	return []answer{{"Lengths", e, len(l) == 0}}
}

func ofRod(p api.Pull, rod int) []answer {
	l, e := stretch.Rods(p, rod)
	return []answer{{"Rods", e, len(l) == 0}}
}

func ofPart(p api.Pull, part int) []answer {
	n, e := stretch.Holds(p, part)
	return []answer{{"Holds", e, n == 0}}
}

func mustAll(t *testing.T, p api.Pull, l []answer, want api.Errno) {
	t.Helper()
	for _, a := range l {
		if a.e != want || !a.empty {
			t.Errorf("%+v: %+v, not %d", p, a, want)
		}
	}
}

// P4.1, R1, R2, R5, R8: ErrPull comes first, whatever the other arguments are.
func TestErrPull(t *testing.T) {
	for _, p := range badPulls() {
		if e := stretch.Check(p); e != api.ErrPull {
			t.Errorf("Check(%+v) = %d", p, e)
		}
		mustAll(t, p, ofPull(p), api.ErrPull)
		for _, n := range []int{-1, 0, 1, 2, 99999} {
			mustAll(t, p, slices.Concat(ofWhen(p, n), ofRod(p, n), ofPart(p, n)), api.ErrPull)
		}
	}
}

// R1, R2, R8: ErrArg comes before ErrNone, and whether there is a truth or not.
func TestErrArg(t *testing.T) {
	for _, p := range append(edges(), example(0), example(0, odd())) {
		for _, n := range []int{math.MinInt, -1, 0, 3, math.MaxInt} {
			mustAll(t, p, ofWhen(p, n), api.ErrArg)
		}
		for _, n := range []int{math.MinInt, -1, len(p.Rods), 4, math.MaxInt} {
			mustAll(t, p, ofRod(p, n), api.ErrArg)
		}
		for _, n := range []int{math.MinInt, -1, 1001, math.MaxInt} {
			mustAll(t, p, ofPart(p, n), api.ErrArg)
		}
	}
}

// R1: the greatest and the least of what is allowed is no ErrArg.
func TestArguments(t *testing.T) {
	p := example(0)
	for _, a := range slices.Concat(ofWhen(p, 1), ofWhen(p, 2), ofRod(p, 0), ofRod(p, 1), ofPart(p, 0), ofPart(p, 1000)) {
		if a.e != api.OK || a.empty {
			t.Errorf("%+v", a)
		}
	}
}

// R2: without a truth there is nothing but ErrNone. Check and Fewest need no truth.
func TestErrNone(t *testing.T) {
	p := example(0, odd())
	if e := stretch.Check(p); e != api.OK {
		t.Errorf("Check = %d", e)
	}
	all := ofPull(p)
	if all[0] != (answer{"Fewest", api.OK, false}) {
		t.Errorf("%+v", all[0])
	}
	mustAll(t, p, slices.Concat(all[1:], ofWhen(p, 1), ofWhen(p, 2), ofRod(p, 0), ofRod(p, 1), ofPart(p, 0), ofPart(p, 1000)), api.ErrNone)
	p.Wrong = 1
	for _, a := range slices.Concat(ofPull(p), ofWhen(p, 1), ofWhen(p, 2), ofRod(p, 0), ofRod(p, 1), ofPart(p, 0), ofPart(p, 1000)) {
		if a.e != api.OK || a.empty != (a.name == "Next") {
			t.Errorf("with one wrong: %+v", a)
		}
	}
}

func numbers(spans ...api.Span) []int {
	var l []int
	for _, s := range spans {
		for n := s.Low; n <= s.High; n++ {
			l = append(l, n)
		}
	}
	return l
}

// The chapter's examples, and example 4 of the document.
func TestExamples(t *testing.T) {
	number := func(name string, n int, e api.Errno, want int) {
		t.Helper()
		if n != want || e != api.OK {
			t.Errorf("%s = %d, %d, not %d", name, n, e, want)
		}
	}
	list := func(name string, l []int, e api.Errno, want ...int) {
		t.Helper()
		if !slices.Equal(l, want) || e != api.OK {
			t.Errorf("%s = %v, %d, not %v", name, l, e, want)
		}
	}
	p, q := example(0), example(0, warm())
	n, e := stretch.Many(p)
	number("Many of P", n, e, 50)
	n, e = stretch.Many(q)
	number("Many of Q", n, e, 10)
	l, e := stretch.Lengths(p, api.Before)
	list("Lengths of P", l, e, numbers(span(9988, 9992), span(9998, 10002))...)
	l, e = stretch.Lengths(q, api.Before)
	list("Lengths of Q", l, e, 10001, 10002)
	l, e = stretch.Lengths(q, api.After)
	list("Lengths of Q", l, e, numbers(span(10028, 10032))...)
	l, e = stretch.Rods(p, 0)
	list("Rods of P", l, e, 999, 1000)
	l, e = stretch.Rods(q, 0)
	list("Rods of Q", l, e, 1000)
	if s, e := stretch.Stretch(p); s != span(26, 34) || e != api.OK {
		t.Errorf("Stretch of P = %v, %d", s, e)
	}
	if s, e := stretch.Stretch(q); s != span(26, 31) || e != api.OK {
		t.Errorf("Stretch of Q = %v, %d", s, e)
	}
	for part, want := range map[int]int{2: api.Never, 3: api.Perhaps, 4: api.Surely} {
		n, e = stretch.Holds(p, part)
		number("Holds of P", n, e, want)
	}
	n, e = stretch.Best(p)
	number("Best of P", n, e, 4)
	n, e = stretch.Next(p)
	number("Next of P", n, e, 0)
	if n, e := stretch.Next(q); n != 0 || e != api.ErrNone {
		t.Errorf("Next of Q = %d, %d", n, e)
	}
	n, e = stretch.Fewest(example(0, odd()))
	number("Fewest", n, e, 1)
}

// P4.1 to P4.10: each function says what the model says.
func TestModel(t *testing.T) {
	pulls(func(p api.Pull, d *dice) { ask(t, p) })
}

// P4.2, P4.3: Wrong counts for Many, from 0 to MaxReadings, and does not for Fewest.
func TestWrong(t *testing.T) {
	for bad := range api.MaxReadings + 1 {
		p := plain(4, 6, []api.Rod{rod(5, 0, 0)})
		for n := range api.MaxReadings {
			r := reading(1+n%2, 0, 1, 0, 1, 0, 0)
			if n < bad {
				r.Count = 0
			}
			p.Readings = append(p.Readings, r)
		}
		for p.Wrong = range api.MaxReadings + 1 {
			want := 0
			if bad <= p.Wrong {
				want = 9
			}
			if n, e := stretch.Many(p); n != want || (e == api.OK) != (want > 0) {
				t.Errorf("%d of %d: Many = %d, %d", bad, p.Wrong, n, e)
			}
			if n, e := stretch.Fewest(p); n != bad || e != api.OK {
				t.Errorf("%d of %d: Fewest = %d, %d", bad, p.Wrong, n, e)
			}
		}
	}
}

// A reading is right if there is a whole temperature at which the length, and what it says, differ by at most Off, above or below.
func TestRight(t *testing.T) {
	brass := []api.Rod{rod(1000, 0, 50), rod(500, 0, 0)} // the iron has 10
	for _, x := range []struct {
		length int
		r      api.Reading
		want   int
	}{
		{2000, reading(1, 0, 2, 0, 0, 0, 0), 0}, {2001, reading(1, 0, 2, 0, 0, 0, 0), 1}, {2001, reading(1, 0, 2, 1, 0, 0, 0), 0},
		{2001, reading(1, 0, 2, 0, 1, 0, 0), 0}, {1999, reading(1, 0, 2, 0, 1, 0, 0), 0}, {2002, reading(1, 0, 2, 0, 1, 0, 0), 1}, {1998, reading(1, 0, 2, 0, 1, 0, 0), 1},
		{7, reading(1, 0, 0, 7, 0, 0, 0), 0}, {7, reading(1, 1, 0, 6, 1, 0, 0), 0}, {7, reading(1, 1, 0, 5, 1, 0, 0), 1}, {7, reading(2, 1, 0, 7, 0, 0, 0), 0},
		{10000, reading(1, 0, 10, 0, 0, -50, 50), 0}, {10000, reading(1, 0, 10, 0, 0, 1, 50), 1}, {10000, reading(1, 0, 10, 0, 0, -50, -1), 1},
		// At 10 degrees, 2500 of brass are 2501.25, and 2501 and 2502 of iron 2501.2501 and 2502.2502.
		{2501, reading(2, 0, 2, 500, 0, 10, 10), 1}, {2501, reading(2, 0, 2, 500, 1, 10, 10), 0}, {2502, reading(2, 0, 2, 500, 1, 10, 10), 1},
		{2502, reading(2, 0, 2, 500, 1, 11, 11), 0}, {2502, reading(2, 0, 2, 500, 1, 0, 11), 0}, {2502, reading(2, 0, 2, 500, 1, 0, 10), 1}, {2502, reading(2, 0, 2, 500, 1, -50, 50), 0},
		// At -10 degrees they are 2498.75, and 2498 of iron 2497.7502; at -9 degrees 2498.875 and 2497.77518.
		{2498, reading(2, 0, 2, 500, 1, -10, -10), 0}, {2498, reading(2, 0, 2, 500, 1, -9, -9), 1}, {2498, reading(2, 0, 2, 500, 1, -9, 50), 1}, {2498, reading(2, 0, 2, 500, 1, -10, 50), 0},
		// At 1 degree, 50000 of brass are 50002.5, and 50001, 50002 and 50003 of iron 50001.50001, 50002.50002 and 50003.50003.
		{50001, reading(1, 0, 50, 0, 0, 1, 1), 1}, {50001, reading(1, 0, 50, 0, 1, 1, 1), 0}, {50002, reading(1, 0, 50, 0, 0, 1, 1), 1}, {50002, reading(1, 0, 50, 0, 1, 1, 1), 0}, {50003, reading(1, 0, 50, 0, 1, 1, 1), 1},
		// At 25 degrees, 99900 of brass are 100024.875, and 99999 of iron 100023.99975.
		{99999, reading(1, 0, 99, 900, 0, 25, 25), 1}, {99999, reading(1, 0, 99, 900, 1, 25, 25), 0}, {99999, reading(1, 0, 99, 900, 1, 24, 24), 1}, {99999, reading(1, 0, 99, 900, 99, 0, 0), 0}, {99999, reading(1, 0, 99, 899, 99, 0, 0), 1},
		// A length can be less than what is off.
		{1, reading(1, 1, 0, 0, 0, 0, 0), 1}, {1, reading(1, 1, 0, 0, 1, 0, 0), 0}, {1, reading(1, 1, 0, 100, 99, 0, 0), 0}, {1, reading(1, 1, 0, 101, 99, 0, 0), 1}, {99, reading(1, 1, 0, 0, 99, 0, 0), 0}, {100, reading(1, 1, 0, 0, 99, 0, 0), 1},
	} {
		p := api.Pull{Iron: 10, Guess: span(x.length, x.length), Rods: brass, Readings: []api.Reading{x.r}}
		if n, e := stretch.Fewest(p); n != x.want || e != api.OK {
			t.Errorf("%d, %+v: Fewest = %d, %d, not %d", x.length, x.r, n, e, x.want)
		}
	}
}

// P4.4, P4.5: what a length can be depends on the others.
func TestLengths(t *testing.T) {
	many := plain(1, 99999, []api.Rod{rod(9, 0, 0)}, reading(2, 0, 0, 500, 99, 0, 0))
	for i, x := range []struct {
		p             api.Pull
		before, after []int
		rods          [][]int
	}{
		{plain(3, 4, nil), []int{3, 4}, []int{3, 4}, nil},
		{many, numbers(span(1, 99999)), numbers(span(401, 599)), [][]int{{9}}},
		{two(), []int{198, 200}, []int{196, 200}, [][]int{{99, 100}, {49, 50}}},
		{two(reading(2, 0, 2, 0, 0, 0, 0)), []int{200}, []int{200}, [][]int{{100}, {50}}},
		{two(reading(1, 0, 0, 198, 0, 0, 0)), []int{198}, []int{196, 200}, [][]int{{99}, {49, 50}}},
		{plain(3, 9, []api.Rod{rod(9, 8, 0)}), numbers(span(3, 9)), numbers(span(3, 9)), [][]int{numbers(span(1, 9))}},
		{brass(0, 20, 0), []int{2000, 2001, 2002}, numbers(span(1996, 2003)), [][]int{{1000}}},
		{brass(1, 20, 0), []int{2001, 2002}, numbers(span(1996, 2003)), [][]int{{1000}}},
		{brass(-20, 19, 0), []int{1998, 1999, 2000, 2001}, numbers(span(1996, 2003)), [][]int{{1000}}},
		{brass(10, 10, 1), []int{2000, 2001, 2002}, numbers(span(1996, 2003)), [][]int{{1000}}},
		{brass(10, 10, 99), numbers(span(1996, 2003)), numbers(span(1996, 2003)), [][]int{{1000}}},
	} {
		k, e := stretch.Lengths(x.p, api.Before)
		l, f := stretch.Lengths(x.p, api.After)
		if !slices.Equal(k, x.before) || e != api.OK || !slices.Equal(l, x.after) || f != api.OK {
			t.Errorf("%d: Lengths = %v, %d and %v, %d", i, k, e, l, f)
		}
		for rod, want := range x.rods {
			if l, e := stretch.Rods(x.p, rod); !slices.Equal(l, want) || e != api.OK {
				t.Errorf("%d: Rods(%d) = %v, %d, not %v", i, rod, l, e, want)
			}
		}
	}
}

// P4.6: readings that some truth leaves, and those that none does.
func TestStrange(t *testing.T) {
	says := func(when, long int) api.Reading { return reading(when, 0, 0, long, 0, 0, 0) }
	for i, x := range []struct {
		wrong    int
		readings []api.Reading
		strange  []int
		e        api.Errno
	}{
		{0, nil, nil, api.OK},
		{0, []api.Reading{says(1, 4), says(2, 5)}, nil, api.OK},
		{0, []api.Reading{says(1, 4), says(1, 5)}, nil, api.ErrNone},
		{1, []api.Reading{says(1, 4), says(1, 5)}, nil, api.OK},
		{1, []api.Reading{says(1, 4), says(1, 5), says(1, 4)}, []int{1}, api.OK},
		{1, []api.Reading{says(2, 5), says(1, 4), says(1, 9)}, []int{2}, api.OK},
		{1, []api.Reading{says(2, 5), says(1, 4)}, nil, api.OK},
		{2, []api.Reading{says(1, 9), says(2, 5), says(2, 9)}, []int{0, 2}, api.OK},
		{3, []api.Reading{says(1, 9), says(2, 5), says(2, 9)}, []int{0, 2}, api.OK},
		{2, []api.Reading{says(1, 4), says(1, 5), says(2, 4), says(2, 5), says(2, 5)}, []int{2}, api.OK},
		{3, []api.Reading{says(1, 4), says(1, 5), says(2, 4), says(2, 5), says(2, 5)}, nil, api.OK},
		{8, slices.Repeat([]api.Reading{says(2, 9)}, 8), []int{0, 1, 2, 3, 4, 5, 6, 7}, api.OK},
		{7, slices.Repeat([]api.Reading{says(2, 9)}, 8), nil, api.ErrNone},
	} {
		p := plain(3, 7, []api.Rod{rod(1, 0, 0)}, x.readings...)
		p.Wrong = x.wrong
		if l, e := stretch.Strange(p); !slices.Equal(l, x.strange) || e != x.e {
			t.Errorf("%d: Strange = %v, %d", i, l, e)
		}
	}
}

// measured is a pull with one length before, and some lengths after.
func measured(before, after, off int) api.Pull {
	return plain(1, 9999, []api.Rod{rod(1, 0, 0)}, reading(1, 0, 0, before, 0, 0, 0), reading(2, 0, 0, after, off, 0, 0))
}

// P4.7 to P4.9: the stretch, and its parts, also below 0 and at their edges.
func TestStretchAndParts(t *testing.T) {
	for i, x := range []struct {
		p    api.Pull
		want api.Span
		best int         // -1: there is none
		part map[int]int // Holds of parts
	}{
		{measured(1000, 1000, 0), span(0, 0), 0, map[int]int{0: api.Surely, 1000: api.Surely}},
		{measured(1000, 1001, 0), span(1, 1), 1, map[int]int{0: api.Never, 1: api.Surely}},
		{measured(999, 1000, 0), span(1, 1), 2, map[int]int{1: api.Never, 2: api.Surely}},
		{measured(1000, 1003, 2), span(1, 5), 5, map[int]int{0: api.Never, 1: api.Perhaps, 4: api.Perhaps, 5: api.Surely}},
		{measured(1000, 1000, 1), span(-1, 1), 1, map[int]int{0: api.Perhaps, 1: api.Surely}},
		{measured(1000, 400, 5), span(-605, -595), 0, map[int]int{0: api.Surely, 1000: api.Surely}},
		{measured(1000, 2000, 0), span(1000, 1000), 1000, map[int]int{999: api.Never, 1000: api.Surely}},
		{measured(1000, 2000, 1), span(999, 1001), -1, map[int]int{998: api.Never, 999: api.Perhaps, 1000: api.Perhaps}},
		{measured(1000, 2001, 0), span(1001, 1001), -1, map[int]int{1000: api.Never}},
		{plain(1, 2, nil), span(-1, 1), 1000, map[int]int{0: api.Perhaps, 999: api.Perhaps, 1000: api.Surely}},
		{plain(1, 3, nil), span(-2, 2), -1, map[int]int{0: api.Perhaps, 1000: api.Perhaps}},
		{plain(1, 99999, nil), span(-99998, 99998), -1, map[int]int{1000: api.Perhaps}},
		{plain(500, 510, nil), span(-10, 10), 20, map[int]int{19: api.Perhaps, 20: api.Surely}},
		{plain(501, 511, nil), span(-10, 10), 20, map[int]int{19: api.Perhaps, 20: api.Surely}},
		{plain(499, 509, nil), span(-10, 10), 21, map[int]int{20: api.Perhaps, 21: api.Surely}},
	} {
		if s, e := stretch.Stretch(x.p); s != x.want || e != api.OK {
			t.Errorf("%d: Stretch = %v, %d, not %v", i, s, e, x.want)
		}
		n, e := stretch.Best(x.p)
		if x.best < 0 && (n != 0 || e != api.ErrNone) || x.best >= 0 && (n != x.best || e != api.OK) {
			t.Errorf("%d: Best = %d, %d, not %d", i, n, e, x.best)
		}
		for part, want := range x.part {
			if n, e := stretch.Holds(x.p, part); n != want || e != api.OK {
				t.Errorf("%d: Holds(%d) = %d, %d, not %d", i, part, n, e, want)
			}
		}
	}
}

// P4.10: the rod is chosen by the worst of its lengths; one with one length is not.
func TestNext(t *testing.T) {
	worn := []api.Rod{rod(50, 2, 0), rod(50, 1, 0), rod(50, 0, 0)}
	for i, x := range []struct {
		p    api.Pull
		want int // -1: there is none
	}{
		{plain(9, 9, nil), -1},
		{plain(9, 9, worn[2:]), -1},
		{plain(9, 9, worn), 0},                                      // of equal rods the first one
		{plain(9, 9, []api.Rod{worn[2], worn[1], worn[0]}), 1},      // the first one has one length
		{plain(90, 110, worn, reading(1, 0, 2, 0, 0, 0, 0)), 0},     // with a length of rod 0 stretches differ by 20, with one of rod 1 by 24
		{plain(90, 110, worn, reading(1, 1, 2, 0, 0, 0, 0)), 1},     // the other way round
		{plain(90, 110, worn[:2], reading(2, 1, 2, 0, 0, 0, 0)), 1}, // also after
		{plain(90, 110, worn, reading(1, 0, 2, 0, 0, 0, 0), reading(2, 1, 2, 0, 0, 0, 0)), 0},
		{plain(90, 110, worn, reading(1, 0, 1, 50, 0, 0, 0), reading(2, 1, 2, 0, 0, 0, 0)), 0}, // by 2 with one of either
		{plain(90, 110, worn, reading(1, 0, 1, 50, 1, 0, 0), reading(2, 1, 2, 0, 0, 0, 0)), 0},
		{plain(90, 160, worn, reading(1, 0, 1, 50, 0, 0, 0), reading(2, 1, 3, 0, 0, 0, 0)), 1}, // they differ by 2 with one of it, by 3 with one of the other
		{plain(90, 110, worn, reading(1, 0, 2, 0, 0, 0, 0), reading(2, 0, 2, 0, 0, 0, 0)), 0},
		{plain(90, 110, worn, reading(1, 0, 2, 0, 0, 0, 0), reading(1, 0, 2, 0, 0, 0, 0), reading(1, 0, 0, 98, 0, 0, 0), reading(1, 0, 0, 97, 0, 0, 0)), -1}, // no truth
	} {
		n, e := stretch.Next(x.p)
		if x.want < 0 && (n != 0 || e != api.ErrNone) || x.want >= 0 && (n != x.want || e != api.OK) {
			t.Errorf("%d: Next = %d, %d, not %d", i, n, e, x.want)
		}
	}
}

// P1: no argument makes a function panic.
func TestAnyArguments(t *testing.T) {
	wild := slices.Concat(badPulls(), edges())
	wild = append(wild, full(), greatest(1, 4), api.Pull{Rods: make([]api.Rod, 1000), Readings: make([]api.Reading, 1000), Wrong: math.MaxInt})
	for _, p := range wild {
		stretch.Check(p)
		ofPull(p)
		for _, n := range []int{math.MinInt, -1, 0, 1, 2, 3, 4, 1000, 1001, 99999, math.MaxInt} {
			ofWhen(p, n)
			ofRod(p, n)
			ofPart(p, n)
		}
	}
}

// R3: a list that is nil and one that is empty are the same.
func TestNilAndEmpty(t *testing.T) {
	g := span(5, 7)
	for i, p := range []api.Pull{{Guess: g}, {Guess: g, Rods: []api.Rod{}}, {Guess: g, Readings: []api.Reading{}}, {Guess: g, Rods: []api.Rod{}, Readings: []api.Reading{}}} {
		if n, e := stretch.Many(p); n != 9 || e != api.OK {
			t.Errorf("%d: Many = %d, %d", i, n, e)
		}
		if n, e := stretch.Fewest(p); n != 0 || e != api.OK {
			t.Errorf("%d: Fewest = %d, %d", i, n, e)
		}
		if l, e := stretch.Strange(p); len(l) != 0 || e != api.OK {
			t.Errorf("%d: Strange = %v, %d", i, l, e)
		}
		if s, e := stretch.Stretch(p); s != span(-2, 2) || e != api.OK {
			t.Errorf("%d: Stretch = %v, %d", i, s, e)
		}
		mustAll(t, p, ofRod(p, 0), api.ErrArg)
		if n, e := stretch.Next(p); n != 0 || e != api.ErrNone {
			t.Errorf("%d: Next = %d, %d", i, n, e)
		}
	}
}

// R4: no argument is changed, and a list that is returned is new.
func TestMemory(t *testing.T) {
	for _, p := range append(edges(), example(0, warm()), example(0, odd())) {
		// Room behind each list shows what is written there.
		p.Rods = append(slices.Clone(p.Rods), rod(7, 7, 7), rod(8, 8, 8))[:len(p.Rods)]
		p.Readings = append(slices.Clone(p.Readings), odd(), warm())[:len(p.Readings)]
		before := clone(p)
		before.Rods = slices.Clone(p.Rods[:len(p.Rods)+2])
		before.Readings = slices.Clone(p.Readings[:len(p.Readings)+2])
		stretch.Check(p)
		ofPull(p)
		ofWhen(p, 1)
		ofRod(p, 0)
		ofPart(p, 3)
		p.Rods = p.Rods[:len(p.Rods)+2]
		p.Readings = p.Readings[:len(p.Readings)+2]
		if !equal(p, before) {
			t.Errorf("%+v became %+v", before, p)
		}
	}
	p := example(1, odd())
	for name, f := range map[string]func(api.Pull) ([]int, api.Errno){
		"Lengths": func(p api.Pull) ([]int, api.Errno) { return stretch.Lengths(p, 2) },
		"Rods":    func(p api.Pull) ([]int, api.Errno) { return stretch.Rods(p, 0) },
		"Strange": stretch.Strange,
	} {
		a, e := f(p)
		b, g := f(p)
		for i := range a {
			a[i] = 77
		}
		if e != api.OK || g != api.OK || len(a) == 0 || slices.Contains(b, 77) || !equal(p, example(1, odd())) {
			t.Errorf("%s = %v, %d and %v, %d of %+v", name, a, e, b, g, p)
		}
	}
}
