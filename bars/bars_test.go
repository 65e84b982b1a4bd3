package bars_test

import (
	"math"
	"slices"
	"testing"

	"shackle/api"
	"shackle/bars"
)

// changed returns S with something changed.
func changed(change func(s *api.BarStore)) api.BarStore {
	s := example()
	change(&s)
	return s
}

// P1.1
func TestCheckValid(t *testing.T) {
	for i, s := range append(edges(),
		changed(func(s *api.BarStore) { s.Bars = slices.Repeat(s.Bars, 2) }),
		changed(func(s *api.BarStore) { s.Bars[1] = bar(0, 1) }),
		changed(func(s *api.BarStore) { s.Bars[1] = bar(9, 999) }),
		changed(func(s *api.BarStore) { s.Kerf = 0 }),
		changed(func(s *api.BarStore) { s.Kerf = 20 }),
		changed(func(s *api.BarStore) { s.Pieces = slices.Repeat([]api.BarPiece{piece(9, 3)}, 8) }),
		changed(func(s *api.BarStore) { s.Pieces[1].Long = 1 }),
		changed(func(s *api.BarStore) { s.Pieces[1].Long = 999 }),
		changed(func(s *api.BarStore) { s.Pieces[1].Heats = nil }),
		changed(func(s *api.BarStore) { s.Pieces[1].Heats = []int{0, 1, 2, 3, 4, 5, 6, 7, 8, 9} }),
		changed(func(s *api.BarStore) { s.Wrong = 8 }),
	) {
		if e := bars.Check(s); e != api.OK {
			t.Errorf("%d: Check(%+v) = %d", i, s, e)
		}
	}
}

// badStores returns stores that differ from a valid one in one thing.
func badStores() []api.BarStore {
	var l []api.BarStore
	bad := func(change func(s *api.BarStore)) { l = append(l, changed(change)) }
	bad(func(s *api.BarStore) { s.Bars = slices.Repeat([]api.Bar{bar(3, 100)}, 7) })
	bad(func(s *api.BarStore) { s.Pieces = slices.Repeat([]api.BarPiece{piece(1, 3)}, 9) })
	bad(func(s *api.BarStore) { s.Pieces[2].Heats = []int{3, 3} })
	bad(func(s *api.BarStore) { s.Pieces[2].Heats = []int{8, 3} })
	bad(func(s *api.BarStore) { s.Pieces[2].Heats = []int{3, 5, 4} })
	bad(func(s *api.BarStore) { s.Pieces[2].Heats = []int{0, 1, 2, 3, 4, 5, 6, 7, 8, 9, 9} })
	for _, n := range []int{math.MinInt, -1, 10, math.MaxInt} {
		bad(func(s *api.BarStore) { s.Bars[0].Heat = n })
		bad(func(s *api.BarStore) { s.Bars[2].Heat = n })
		bad(func(s *api.BarStore) { s.Pieces[0].Heats = []int{n} })
	}
	bad(func(s *api.BarStore) { s.Pieces[2].Heats = []int{-1, 3} })
	bad(func(s *api.BarStore) { s.Pieces[2].Heats = []int{3, 10} })
	for _, n := range []int{math.MinInt, -1, 0, 1000, math.MaxInt} {
		bad(func(s *api.BarStore) { s.Bars[0].Long = n })
		bad(func(s *api.BarStore) { s.Bars[2].Long = n })
		bad(func(s *api.BarStore) { s.Pieces[0].Long = n })
		bad(func(s *api.BarStore) { s.Pieces[2].Long = n })
	}
	for _, n := range []int{math.MinInt, -1, 21, math.MaxInt} {
		bad(func(s *api.BarStore) { s.Kerf = n })
	}
	for _, n := range []int{math.MinInt, -1, 9, math.MaxInt} {
		bad(func(s *api.BarStore) { s.Wrong = n })
	}
	return l
}

// answer is what any of the functions returns, for tests of errors.
type answer struct {
	name  string
	e     api.Errno
	empty bool
}

// answers returns what the functions say; which are the arguments beside the store.
func answers(s api.BarStore, sawing []int, p, q, b, long int) []answer {
	var l []answer
	add := func(name string, empty bool, e api.Errno) { l = append(l, answer{name, e, empty}) }
	fits, e := bars.Fits(s, sawing)
	add("Fits", !fits, e)
	fewest, e := bars.Fewest(s)
	add("Fewest", fewest == 0, e)
	many, e := bars.Many(s)
	add("Many", many == 0, e)
	of, e := bars.Of(s, p)
	add("Of", len(of) == 0, e)
	heats, e := bars.Heats(s, p)
	add("Heats", len(heats) == 0, e)
	strange, e := bars.Strange(s)
	add("Strange", len(strange) == 0, e)
	alike, e := bars.Alike(s, p, q)
	add("Alike", alike == 0, e)
	rest, e := bars.Rest(s, b)
	add("Rest", rest == api.Span{}, e)
	room, e := bars.Room(s, long)
	add("Room", room == 0, e)
	plan, e := bars.Plan(s)
	add("Plan", len(plan) == 0, e)
	least, e := bars.Least(s)
	add("Least", least == 0, e)
	return l
}

// P1.1, R1, R2: ErrStore comes first, whatever the other arguments are.
func TestErrStore(t *testing.T) {
	for i, s := range badStores() {
		if e := bars.Check(s); e != api.ErrStore {
			t.Errorf("%d: Check(%+v) = %d", i, s, e)
		}
		all := slices.Concat(answers(s, []int{0, 0, 2}, 0, 1, 0, 1), answers(s, nil, -1, -1, -1, 0))
		for _, a := range all {
			if a.e != api.ErrStore || !a.empty {
				t.Errorf("%d: %s(%+v): %+v", i, a.name, s, a)
			}
		}
	}
}

// R1, R2: ErrArg comes before ErrNone; functions without an argument go on.
func TestErrArg(t *testing.T) {
	var noTruth api.BarStore
	noTruth.Pieces = []api.BarPiece{piece(1, 1)}
	for _, s := range []api.BarStore{{}, example(), odd(0), odd(1), noTruth} {
		for _, n := range []int{math.MinInt, -1, len(s.Pieces), 8, math.MaxInt} {
			_, e := bars.Of(s, n)
			_, f := bars.Heats(s, n)
			_, g := bars.Alike(s, n, 0)
			_, h := bars.Alike(s, 0, n)
			if e != api.ErrArg || f != api.ErrArg || g != api.ErrArg || h != api.ErrArg {
				t.Errorf("%+v: piece %d: Of: %d; Heats: %d; Alike: %d, %d", s, n, e, f, g, h)
			}
		}
		for _, n := range []int{math.MinInt, -1, len(s.Bars), 6, math.MaxInt} {
			if r, e := bars.Rest(s, n); r != (api.Span{}) || e != api.ErrArg {
				t.Errorf("%+v: Rest(%d) = %v, %d", s, n, r, e)
			}
		}
		for _, n := range []int{math.MinInt, -1, 0, 1000, math.MaxInt} {
			if room, e := bars.Room(s, n); room != 0 || e != api.ErrArg {
				t.Errorf("%+v: Room(%d) = %d, %d", s, n, room, e)
			}
		}
	}
	for i, l := range [][]int{nil, {}, {0, 0}, {0, 0, 0, 0}, {0, 0, 2, 1, 1}, {0, 0, 3, 0}, {-1, 0, 2, 1}, {0, 0, math.MaxInt, 0}, {math.MinInt, 0, 0, 0}} {
		for wrong := range api.MaxPieces + 1 {
			want := api.ErrArg
			if len(l) == 4 && slices.Max(l) < 3 && slices.Min(l) >= 0 {
				want = api.OK
			}
			if is, e := bars.Fits(odd(wrong), l); is || e != want {
				t.Errorf("%d: Fits(%v) = %t, %d", i, l, is, e)
			}
		}
	}
	if is, e := bars.Fits(api.BarStore{}, []int{0}); is || e != api.ErrArg {
		t.Errorf("Fits of no pieces = %t, %d", is, e)
	}
	if is, e := bars.Fits(noTruth, []int{0}); is || e != api.ErrArg {
		t.Errorf("Fits of no bars = %t, %d", is, e)
	}
}

// R2, P1.3 to P1.12: without a truth there is nothing but ErrNone. Fits and Fewest need no truth.
func TestErrNone(t *testing.T) {
	long := changed(func(s *api.BarStore) { s.Pieces[0].Long = 101; s.Wrong = 8 })
	for i, s := range []api.BarStore{odd(0), long} {
		for _, a := range answers(s, make([]int, len(s.Pieces)), 0, 1, 0, 1) {
			want := api.ErrNone
			if a.name == "Fits" || a.name == "Fewest" && i == 0 {
				want = api.OK
			}
			if a.e != want || !a.empty && a.name != "Fewest" {
				t.Errorf("%d: %+v", i, a)
			}
		}
	}
	if n, e := bars.Fewest(odd(0)); n != 1 || e != api.OK {
		t.Errorf("Fewest = %d, %d", n, e)
	}
	if n, e := bars.Fewest(long); n != 0 || e != api.ErrNone {
		t.Errorf("Fewest = %d, %d", n, e)
	}
	noBars := api.BarStore{Pieces: []api.BarPiece{piece(1, 1)}, Wrong: 8}
	for _, a := range []string{"Fewest", "Many", "Of", "Heats", "Strange", "Alike", "Room", "Plan", "Least"} {
		for _, b := range answers(noBars, []int{0}, 0, 0, 0, 1) {
			if a == b.name && (b.e != api.ErrNone || !b.empty) {
				t.Errorf("no bars: %+v", b)
			}
		}
	}
}

// The chapter's examples, and example 1 of the document.
func TestExamples(t *testing.T) {
	s := example()
	for _, x := range []struct {
		sawing []int
		want   bool
	}{{[]int{0, 0, 2}, true}, {[]int{0, 0, 0}, false}, {[]int{1, 2, 0}, true}} {
		if is, e := bars.Fits(s, x.sawing); is != x.want || e != api.OK {
			t.Errorf("Fits(%v) = %t, %d", x.sawing, is, e)
		}
	}
	number := func(name string, n int, e api.Errno, want int) {
		t.Helper()
		if n != want || e != api.OK {
			t.Errorf("%s = %d, %d, not %d", name, n, e, want)
		}
	}
	list := func(name string, l []int, e api.Errno, want ...int) {
		t.Helper()
		if !slices.Equal(l, want) || e != api.OK {
			t.Errorf("%s = %v, %d, not %v", name, l, e, want)
		}
	}
	n, e := bars.Fewest(s)
	number("Fewest", n, e, 0)
	n, e = bars.Many(s)
	number("Many", n, e, 5)
	l, e := bars.Of(s, 0)
	list("Of 0", l, e, 0, 1)
	l, e = bars.Of(s, 1)
	list("Of 1", l, e, 0, 2)
	l, e = bars.Heats(s, 0)
	list("Heats 0", l, e, 3, 5)
	l, e = bars.Heats(s, 1)
	list("Heats 1", l, e, 3)
	n, e = bars.Alike(s, 1, 2)
	number("Alike", n, e, api.Perhaps)
	for b, want := range []api.Span{span(0, 60), span(10, 60)} {
		if r, e := bars.Rest(s, b); r != want || e != api.OK {
			t.Errorf("Rest(%d) = %v, %d", b, r, e)
		}
	}
	for long, want := range map[int]int{45: api.Surely, 50: api.Perhaps, 61: api.Never} {
		n, e = bars.Room(s, long)
		number("Room", n, e, want)
	}
	n, e = bars.Least(s)
	number("Least", n, e, 2)
	n, e = bars.Fewest(odd(0))
	number("Fewest of odd", n, e, 1)
	if n, e := bars.Many(odd(0)); n != 0 || e != api.ErrNone {
		t.Errorf("Many of odd = %d, %d", n, e)
	}
	l, e = bars.Strange(odd(1))
	list("Strange", l, e, 3)
}

// P1.2 to P1.12: each function says what the model says.
func TestModel(t *testing.T) {
	stores(func(s api.BarStore, d *dice) { ask(t, s) })
}

// P1.2: Wrong counts, from 0 to MaxPieces.
func TestFitsWrong(t *testing.T) {
	s := api.BarStore{Bars: []api.Bar{bar(1, 999), bar(2, 999)}, Pieces: slices.Repeat([]api.BarPiece{piece(100, 1)}, 8)}
	for wrong := range api.MaxPieces + 1 {
		for bad := range api.MaxPieces + 1 {
			s.Wrong = wrong
			sawing := make([]int, 8)
			for i := range bad {
				sawing[i] = 1
			}
			if is, e := bars.Fits(s, sawing); is != (bad <= wrong) || e != api.OK {
				t.Errorf("Fits with %d of %d wrong = %t, %d", bad, wrong, is, e)
			}
		}
		many, choose := 0, 1
		for k := range wrong + 1 {
			many += choose
			choose = choose * (8 - k) / (k + 1)
		}
		if n, e := bars.Many(s); n != many || e != api.OK {
			t.Errorf("Many with %d wrong = %d, %d, not %d", wrong, n, e, many)
		}
	}
}

// P1.3: Wrong does not matter.
func TestFewestWrong(t *testing.T) {
	for wrong := range api.MaxPieces + 1 {
		if n, e := bars.Fewest(odd(wrong)); n != 1 || e != api.OK {
			t.Errorf("Fewest with %d wrong = %d, %d", wrong, n, e)
		}
		s := api.BarStore{Bars: []api.Bar{bar(1, 9)}, Pieces: slices.Repeat([]api.BarPiece{piece(1, 2)}, 8), Wrong: wrong}
		if n, e := bars.Fewest(s); n != 8 || e != api.OK {
			t.Errorf("Fewest with %d of 8 wrong = %d, %d", wrong, n, e)
		}
	}
}

// P1.11, P1.12: any truth with as few bars may be returned, and so may another one each time.
func TestPlan(t *testing.T) {
	for _, x := range []struct {
		s     api.BarStore
		least int
	}{
		{api.BarStore{}, 0},
		{api.BarStore{Bars: []api.Bar{bar(1, 5)}}, 0},
		{example(), 2},
		{odd(1), 3},
		{api.BarStore{Bars: []api.Bar{bar(1, 10), bar(1, 10), bar(1, 32)}, Kerf: 1, Pieces: []api.BarPiece{piece(10, 1), piece(10, 1), piece(10, 1)}}, 1},
		{api.BarStore{Bars: []api.Bar{bar(1, 10), bar(1, 10), bar(2, 32)}, Kerf: 1, Pieces: []api.BarPiece{piece(10, 1), piece(10, 1)}}, 2},
		{api.BarStore{Bars: []api.Bar{bar(1, 10), bar(1, 10), bar(2, 32)}, Kerf: 1, Pieces: []api.BarPiece{piece(10, 1), piece(10, 1)}, Wrong: 2}, 1},
	} {
		plan, e := bars.Plan(x.s)
		is, f := bars.Fits(x.s, plan)
		if e != api.OK || f != api.OK || !is || modelUsed(plan) != x.least {
			t.Errorf("%+v: Plan = %v, %d; Fits = %t, %d", x.s, plan, e, is, f)
		}
		if n, e := bars.Least(x.s); n != x.least || e != api.OK {
			t.Errorf("%+v: Least = %d, %d", x.s, n, e)
		}
	}
}

// P1: each function ends, and soon, for the greatest stores, whether they have very many truths or none.
func TestGreatest(t *testing.T) {
	all := api.BarStore{Bars: slices.Repeat([]api.Bar{bar(9, 999)}, 6), Pieces: slices.Repeat([]api.BarPiece{piece(1, 9)}, 8), Kerf: 20, Wrong: 8}
	for _, a := range answers(all, make([]int, 8), 7, 0, 5, 1) {
		if a.e != api.OK {
			t.Errorf("%+v", a)
		}
	}
	if n, e := bars.Many(all); n != 1679616 || e != api.OK {
		t.Errorf("Many = %d, %d", n, e)
	}
	if n, e := bars.Least(all); n != 1 || e != api.OK {
		t.Errorf("Least = %d, %d", n, e)
	}
	if r, e := bars.Rest(all, 5); r != span(999-8-7*20, 999) || e != api.OK {
		t.Errorf("Rest = %v, %d", r, e)
	}
	// Each bar takes two of the shorter pieces, which just fill it, or the longest one; with a wider Kerf two do not fit.
	tight := api.BarStore{Bars: slices.Repeat([]api.Bar{bar(9, 999)}, 6), Pieces: slices.Repeat([]api.BarPiece{piece(490, 9)}, 8), Kerf: 19, Wrong: 8}
	tight.Pieces[7].Long = 999
	if n, e := bars.Many(tight); n != 151200 || e != api.OK {
		t.Errorf("Many = %d, %d", n, e)
	}
	if n, e := bars.Least(tight); n != 5 || e != api.OK {
		t.Errorf("Least = %d, %d", n, e)
	}
	tight.Kerf = 20
	for _, a := range answers(tight, make([]int, 8), 7, 0, 5, 1) {
		if a.name != "Fits" && a.e != api.ErrNone || !a.empty {
			t.Errorf("%+v", a)
		}
	}
}

// P1: no argument makes a function panic.
func TestAnyArguments(t *testing.T) {
	wild := append(badStores(), edges()...)
	wild = append(wild, api.BarStore{Bars: make([]api.Bar, 1000), Pieces: make([]api.BarPiece, 1000), Kerf: math.MaxInt, Wrong: math.MaxInt})
	for _, s := range wild {
		for _, n := range []int{math.MinInt, -1, 0, 1, 2, 7, 8, 999, math.MaxInt} {
			bars.Check(s)
			answers(s, slices.Repeat([]int{n}, len(s.Pieces)), n, n, n, n)
			answers(s, slices.Repeat([]int{n}, 3), 0, n, n, n)
			answers(s, nil, n, 0, n, n)
		}
	}
}

// R3: a list that is nil and one that is empty are the same.
func TestNilAndEmpty(t *testing.T) {
	none := api.BarStore{Bars: []api.Bar{}, Pieces: []api.BarPiece{}}
	for i, s := range []api.BarStore{{}, none} {
		for _, l := range [][]int{nil, {}} {
			if is, e := bars.Fits(s, l); !is || e != api.OK {
				t.Errorf("%d: Fits = %t, %d", i, is, e)
			}
		}
		if n, e := bars.Room(s, 1); n != api.Never || e != api.OK {
			t.Errorf("%d: Room = %d, %d", i, n, e)
		}
		if n, e := bars.Many(s); n != 1 || e != api.OK {
			t.Errorf("%d: Many = %d, %d", i, n, e)
		}
		if l, e := bars.Plan(s); len(l) != 0 || e != api.OK {
			t.Errorf("%d: Plan = %v, %d", i, l, e)
		}
	}
	a := api.BarStore{Bars: []api.Bar{bar(0, 9)}, Pieces: []api.BarPiece{piece(9)}, Wrong: 1}
	b := clone(a)
	b.Pieces[0].Heats = []int{}
	for i, s := range []api.BarStore{a, b} {
		if l, e := bars.Strange(s); !slices.Equal(l, []int{0}) || e != api.OK {
			t.Errorf("%d: Strange = %v, %d", i, l, e)
		}
	}
}

// R4: no argument is changed, and a list that is returned is new.
func TestMemory(t *testing.T) {
	for _, s := range edges() {
		// Room behind each list shows what is written there.
		s.Bars = append(s.Bars, bar(1, 1), bar(2, 2))[:len(s.Bars)]
		s.Pieces = append(s.Pieces, piece(1), piece(2))[:len(s.Pieces)]
		before := clone(s)
		before.Bars = slices.Clone(s.Bars[:len(s.Bars)+2])
		before.Pieces = slices.Clone(s.Pieces[:len(s.Pieces)+2])
		sawing := make([]int, len(s.Pieces), 20)
		answers(s, sawing, 0, 1, 0, 1)
		s.Bars = s.Bars[:len(s.Bars)+2]
		s.Pieces = s.Pieces[:len(s.Pieces)+2]
		if !equal(s, before) || slices.ContainsFunc(sawing[:20], func(n int) bool { return n != 0 }) {
			t.Errorf("%+v became %+v, and the sawing %v", before, s, sawing)
		}
	}
	s := odd(1)
	for name, f := range map[string]func() ([]int, api.Errno){
		"Of":      func() ([]int, api.Errno) { return bars.Of(s, 0) },
		"Heats":   func() ([]int, api.Errno) { return bars.Heats(s, 0) },
		"Strange": func() ([]int, api.Errno) { return bars.Strange(s) },
		"Plan":    func() ([]int, api.Errno) { return bars.Plan(s) },
	} {
		a, e := f()
		b, g := f()
		for i := range a {
			a[i] = 77
		}
		if e != api.OK || g != api.OK || len(a) == 0 || slices.Contains(b, 77) || !equal(s, odd(1)) {
			t.Errorf("%s = %v, %d and %v, %d of %+v", name, a, e, b, g, s)
		}
	}
}
