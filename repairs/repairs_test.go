package repairs_test

import (
	"math"
	"slices"
	"testing"

	"shackle/api"
	"shackle/repairs"
)

// goodCables returns cables that differ from the example in one thing, but are valid.
func goodCables() []api.RepairCable {
	var l []api.RepairCable
	good := func(change func(c *api.RepairCable)) { l = append(l, example(change)) }
	good(func(c *api.RepairCable) { c.Links = nil })
	good(func(c *api.RepairCable) { c.Links = rows(12, 0, 0) })
	good(func(c *api.RepairCable) { c.Links = rows(12, 9999, 9999) })
	good(func(c *api.RepairCable) { c.Links[6] = span(0, 9999) })
	for _, n := range []int{0, 1, 12, 9999} {
		good(func(c *api.RepairCable) { c.Need = n })
	}
	for _, n := range []int{1, 7, 8, 12} {
		good(func(c *api.RepairCable) { c.Gap = n })
		good(func(c *api.RepairCable) { c.Least = n })
	}
	for _, n := range []int{0, 1, 7, 8, 12} {
		good(func(c *api.RepairCable) { c.Doubt = n })
		good(func(c *api.RepairCable) { c.Joins = n })
	}
	return l
}

// P7.1
func TestCheckValid(t *testing.T) {
	for i, c := range slices.Concat(goodCables(), edges()) {
		if e := repairs.Check(c); e != api.OK {
			t.Errorf("%d: Check(%+v) = %d", i, c, e)
		}
	}
}

// badCables returns cables that differ from a valid one in one thing.
func badCables() []api.RepairCable {
	var l []api.RepairCable
	bad := func(change func(c *api.RepairCable)) {
		for _, c := range []api.RepairCable{example(), full()} {
			change(&c)
			l = append(l, c)
		}
	}
	bad(func(c *api.RepairCable) { c.Links = rows(13, 5, 9) })
	bad(func(c *api.RepairCable) { c.Links = rows(64, 5, 9) })
	for link := range 7 {
		for _, s := range []api.Span{span(-1, 5), span(-1, -1), span(-2, -1), span(6, 5), span(9999, 9998), span(0, 10000), span(10000, 10000), span(math.MinInt, 0), span(0, math.MaxInt), span(math.MaxInt, math.MinInt)} {
			bad(func(c *api.RepairCable) { c.Links[link] = s })
		}
	}
	for _, n := range []int{math.MinInt, -1, 10000, math.MaxInt} {
		bad(func(c *api.RepairCable) { c.Need = n })
	}
	for _, n := range []int{math.MinInt, -1, 13, math.MaxInt} {
		bad(func(c *api.RepairCable) { c.Gap = n })
		bad(func(c *api.RepairCable) { c.Doubt = n })
		bad(func(c *api.RepairCable) { c.Joins = n })
		bad(func(c *api.RepairCable) { c.Least = n })
	}
	bad(func(c *api.RepairCable) { c.Gap = 0 })
	bad(func(c *api.RepairCable) { c.Least = 0 })
	return l
}

// answer is what any of the functions returns, for tests of errors.
type answer struct {
	name  string
	e     api.Errno
	empty bool
}

func ofRepair(c api.RepairCable, cut []int) []answer {
	is, e := repairs.Good(c, cut)
	n, f := repairs.Shackles(c, cut)
	return []answer{{"Good", e, !is}, {"Shackles", f, n == 0}}
}

func ofCable(c api.RepairCable) []answer {
	fewest, e := repairs.Fewest(c)
	plan, f := repairs.Plan(c)
	must, g := repairs.Must(c)
	spared, h := repairs.Spared(c)
	return []answer{{"Fewest", e, fewest == 0}, {"Plan", f, len(plan) == 0}, {"Must", g, len(must) == 0}, {"Spared", h, len(spared) == 0}}
}

func ofPrices(c api.RepairCable, link, shackle int) []answer {
	n, e := repairs.Cheapest(c, link, shackle)
	return []answer{{"Cheapest", e, n == 0}}
}

func ofCuts(c api.RepairCable, cuts int) []answer {
	n, e := repairs.Strong(c, cuts)
	return []answer{{"Strong", e, n == 0}}
}

func mustAll(t *testing.T, c api.RepairCable, l []answer, want api.Errno) {
	t.Helper()
	for _, a := range l {
		if a.e != want || !a.empty {
			t.Errorf("%+v: %+v, not %d", c, a, want)
		}
	}
}

// badRepairs returns lists that are no repairs of a cable with so many links.
func badRepairs(many int) [][]int {
	l := [][]int{{-1}, {many}, {many + 1}, {64}, {math.MinInt}, {math.MaxInt}, make([]int, 1000), {0, many}, {-1, 0}}
	var all []int
	for link := range many {
		all = append(all, link)
		l = append(l, []int{link, link}, append(slices.Clone(all), link), []int{link, -1}, []int{link, math.MaxInt}, []int{link, math.MinInt})
		for lesser := range link {
			l = append(l, []int{link, lesser}, []int{lesser, link, lesser}, []int{lesser, link, link})
		}
	}
	return append(l, append(all, many))
}

// P7.1, R1, R2, R5: ErrRepair comes first, whatever the other arguments are.
func TestErrRepair(t *testing.T) {
	for _, c := range badCables() {
		if e := repairs.Check(c); e != api.ErrRepair {
			t.Errorf("Check(%+v) = %d", c, e)
		}
		for _, cut := range [][]int{nil, {0}, {1, 0}, {-1}, {12}} {
			mustAll(t, c, ofRepair(c, cut), api.ErrRepair)
		}
		mustAll(t, c, ofCable(c), api.ErrRepair)
		for _, n := range []int{-1, 0, 2, 1000} {
			mustAll(t, c, slices.Concat(ofPrices(c, n, 1), ofPrices(c, 1, n), ofCuts(c, n)), api.ErrRepair)
		}
	}
}

// R1, R2: ErrArg comes before ErrNone, and whether a repair is good or not.
func TestErrArg(t *testing.T) {
	for _, c := range []api.RepairCable{example(), full(), {Gap: 1, Least: 1}, example(func(c *api.RepairCable) { c.Least = 6 }), {Links: rows(12, 5, 9), Gap: 12, Least: 12}} {
		for _, cut := range badRepairs(len(c.Links)) {
			mustAll(t, c, ofRepair(c, cut), api.ErrArg)
		}
		for _, n := range []int{math.MinInt, -1, 1000, math.MaxInt} {
			mustAll(t, c, slices.Concat(ofPrices(c, n, 0), ofPrices(c, 0, n), ofPrices(c, n, n), ofPrices(c, n, 999), ofPrices(c, 999, n)), api.ErrArg)
		}
		for _, n := range []int{math.MinInt, -1, 13, math.MaxInt} {
			mustAll(t, c, ofCuts(c, n), api.ErrArg)
		}
		for _, n := range []int{0, 999} {
			if _, e := repairs.Cheapest(c, n, n); e == api.ErrArg {
				t.Errorf("%+v: Cheapest with the prices %d: %d", c, n, e)
			}
		}
		for _, n := range []int{0, 12} { // also more cuts than there are links
			if _, e := repairs.Strong(c, n); e == api.ErrArg {
				t.Errorf("%+v: Strong with %d cuts: %d", c, n, e)
			}
		}
	}
}

// R2, P7.4 to P7.8: if no repair is good there is nothing but ErrNone. Good and Shackles need no good repair, and Strong needs one with some Need.
func TestErrNone(t *testing.T) {
	for _, c := range []api.RepairCable{
		{Gap: 1, Least: 1},
		{Links: rows(11, 9, 9), Need: 9, Gap: 12, Doubt: 12, Joins: 12, Least: 1},
		{Links: rows(11, 9, 9), Need: 9, Gap: 1, Doubt: 12, Joins: 12, Least: 12},
	} {
		mustAll(t, c, slices.Concat(ofCable(c), ofPrices(c, 0, 0), ofPrices(c, 999, 1), ofCuts(c, 0), ofCuts(c, 12)), api.ErrNone)
		mustAll(t, c, ofRepair(c, nil), api.OK)
	}
	c := example(func(c *api.RepairCable) { c.Need = 61 })
	mustAll(t, c, slices.Concat(ofCable(c), ofPrices(c, 1, 1)), api.ErrNone)
	if n, e := repairs.Strong(c, 0); n != 30 || e != api.OK {
		t.Errorf("Strong = %d, %d", n, e)
	}
	if n, e := repairs.Shackles(c, []int{1, 3}); n != 2 || e != api.OK {
		t.Errorf("Shackles = %d, %d", n, e)
	}
}

// The chapter's examples.
func TestExamples(t *testing.T) {
	for i, x := range []struct {
		cut      []int
		good     bool
		shackles int
	}{{[]int{1, 3}, true, 2}, {[]int{1}, false, 1}, {nil, false, 0}, {[]int{0, 1, 3}, true, 1}, {[]int{0, 1, 2, 3}, true, 0}} {
		is, e := repairs.Good(example(), x.cut)
		n, f := repairs.Shackles(example(), x.cut)
		if is != x.good || e != api.OK || n != x.shackles || f != api.OK {
			t.Errorf("%d: Good = %t, %d; Shackles = %d, %d", i, is, e, n, f)
		}
	}
	l, e := repairs.Must(example())
	m, f := repairs.Spared(example())
	if !slices.Equal(l, []int{1, 3}) || e != api.OK || !slices.Equal(m, []int{0, 2, 4, 5, 6}) || f != api.OK {
		t.Errorf("Must = %v, %d; Spared = %v, %d", l, e, m, f)
	}
	if l, e := repairs.Plan(example()); !slices.Equal(l, []int{1, 3}) || e != api.OK {
		t.Errorf("Plan = %v, %d", l, e)
	}
	for i, x := range []struct {
		c    api.RepairCable
		want int
	}{
		{example(), 2},
		{example(func(c *api.RepairCable) { c.Joins = 1 }), 3},
		{example(func(c *api.RepairCable) { c.Gap = 2 }), 4},
		{example(func(c *api.RepairCable) { c.Gap, c.Doubt = 2, 1 }), 2},
	} {
		if n, e := repairs.Fewest(x.c); n != x.want || e != api.OK {
			t.Errorf("%d: Fewest = %d, %d", i, n, e)
		}
	}
	for _, x := range [][3]int{{1, 5, 4}, {5, 1, 12}} {
		if n, e := repairs.Cheapest(example(), x[0], x[1]); n != x[2] || e != api.OK {
			t.Errorf("Cheapest of %d, %d = %d, %d", x[0], x[1], n, e)
		}
	}
	for cuts, want := range []int{30, 38, 50} {
		if n, e := repairs.Strong(example(), cuts); n != want || e != api.OK {
			t.Errorf("Strong of %d = %d, %d", cuts, n, e)
		}
	}
}

// P7.2 to P7.8: each function says what the model says.
func TestModel(t *testing.T) {
	found, nones := 0, 0
	cables(func(c api.RepairCable, d *dice) {
		ask(t, c)
		if modelFewest(c) == none {
			nones++
		} else {
			found++
		}
	})
	if found < 200 || nones < 50 {
		t.Errorf("only %d cables can be repaired, %d cannot", found, nones)
	}
}

// P7.2: what makes a repair good, one thing after the other.
func TestGood(t *testing.T) {
	row := func(gap, doubt, joins, least int) api.RepairCable {
		return api.RepairCable{Links: []api.Span{span(5, 5), span(4, 5), span(5, 9), span(3, 4), span(4, 9), span(6, 7)}, Need: 5, Gap: gap, Doubt: doubt, Joins: joins, Least: least}
	}
	for i, x := range []struct {
		c    api.RepairCable
		cut  []int
		good bool
	}{
		{row(1, 2, 1, 1), []int{3}, true}, // pieces of 3 and 2 links, 2 of the links doubtful
		{row(1, 1, 1, 1), []int{3}, false},
		{row(1, 2, 0, 1), []int{3}, false},
		{row(2, 2, 1, 5), []int{3}, true},
		{row(3, 2, 1, 1), []int{3}, false},
		{row(1, 2, 1, 6), []int{3}, false},
		{row(12, 12, 12, 1), nil, false}, // the link 3 is too weak
		{row(1, 12, 12, 1), []int{0, 1, 2, 4, 5}, false},
		{row(3, 1, 0, 3), []int{3, 4, 5}, true},
		{row(3, 1, 0, 4), []int{3, 4, 5}, false},
		{row(1, 0, 0, 1), []int{0, 1, 2, 3, 4}, true},
		{row(1, 0, 0, 1), []int{0, 1, 2, 3, 4, 5}, false}, // at least one link must be left
		{row(1, 0, 2, 3), []int{1, 3, 4}, true},
		{row(1, 0, 1, 3), []int{1, 3, 4}, false},
		{row(2, 0, 2, 3), []int{1, 3, 4}, false},
	} {
		if is, e := repairs.Good(x.c, x.cut); is != x.good || e != api.OK {
			t.Errorf("%d: Good of %v = %t, %d", i, x.cut, is, e)
		}
	}
}

// P7.8: the need of the cable itself does not matter, and all needs up to MaxHold are tried.
func TestStrong(t *testing.T) {
	for _, c := range []api.RepairCable{
		example(),
		example(func(c *api.RepairCable) { c.Doubt = 1 }),
		example(func(c *api.RepairCable) { c.Links[2].High, c.Links[6], c.Doubt, c.Gap = 9999, span(0, 9998), 2, 2 }),
		{Links: []api.Span{span(9999, 9999), span(0, 0), span(9998, 9999)}, Gap: 1, Least: 1},
	} {
		fewest := make([]int, api.MaxHold+1)
		for need := range fewest {
			c.Need = need
			n, e := repairs.Fewest(c)
			fewest[need] = orNone(t, n, e)
		}
		for cuts := range api.MaxRepair + 1 {
			want := none
			for need, n := range fewest {
				if n != none && n <= cuts {
					want = need
				}
			}
			for _, need := range []int{0, 1, 40, 9999} {
				c.Need = need
				n, e := repairs.Strong(c, cuts)
				if n = orNone(t, n, e); n != want {
					t.Errorf("%+v: Strong of %d = %d, not %d", c, cuts, n, want)
				}
			}
		}
	}
}

// P7.5: any shortest repair may be returned, and so may another one each time.
func TestPlan(t *testing.T) {
	c := api.RepairCable{Links: rows(12, 5, 9), Need: 7, Gap: 2, Doubt: 6, Joins: 2, Least: 4}
	for range 5 {
		l, e := repairs.Plan(c)
		if is, f := repairs.Good(c, l); len(l) != 6 || e != api.OK || !is || f != api.OK {
			t.Errorf("Plan = %v, %d: %t, %d", l, e, is, f)
		}
	}
	must, e := repairs.Must(c)
	spared, f := repairs.Spared(c)
	if len(must) > 0 || e != api.OK || len(spared) > 0 || f != api.OK {
		t.Errorf("Must = %v, %d; Spared = %v, %d", must, e, spared, f)
	}
}

// P1: no argument makes a function panic.
func TestAnyArguments(t *testing.T) {
	wild := slices.Concat(badCables(), edges())
	wild = append(wild, api.RepairCable{Links: make([]api.Span, 1000), Need: math.MinInt, Gap: math.MaxInt, Doubt: math.MaxInt, Joins: math.MinInt, Least: math.MinInt})
	numbers := []int{math.MinInt, -1, 0, 1, 2, 6, 12, 13, 64, 1000, math.MaxInt}
	for _, c := range wild {
		repairs.Check(c)
		ofCable(c)
		for _, cut := range badRepairs(7) {
			ofRepair(c, cut)
		}
		for _, a := range numbers {
			ofRepair(c, []int{a})
			ofCuts(c, a)
			for _, b := range numbers {
				ofRepair(c, []int{a, b})
				ofPrices(c, a, b)
			}
		}
	}
}

// R3: a list that is nil and one that is empty are the same.
func TestNilAndEmpty(t *testing.T) {
	for _, links := range [][]api.Span{nil, {}} {
		c := api.RepairCable{Links: links, Gap: 1, Least: 1}
		ask(t, c)
		mustAll(t, c, ofCable(c), api.ErrNone)
	}
	for _, cut := range [][]int{nil, {}} {
		for _, c := range []api.RepairCable{{Gap: 1, Least: 1}, {Links: []api.Span{}, Gap: 1, Least: 1}, example()} {
			mustAll(t, c, ofRepair(c, cut), api.OK)
		}
		c := example(func(c *api.RepairCable) { c.Need = 0 })
		if is, e := repairs.Good(c, cut); !is || e != api.OK {
			t.Errorf("Good = %t, %d", is, e)
		}
	}
}

// R4: no argument is changed, and a list that is returned is new.
func TestMemory(t *testing.T) {
	for _, c := range edges() {
		// Room behind each list shows what is written there.
		c.Links = append(slices.Clone(c.Links), span(7, 8), span(9, 10))[:len(c.Links)]
		before := c
		before.Links = slices.Clone(c.Links[:len(c.Links)+2])
		repairs.Check(c)
		ofCable(c)
		ofPrices(c, 1, 2)
		ofCuts(c, 3)
		for _, cut := range [][]int{{0, 77, 78}, {-1, 77, 78}} {
			ofRepair(c, cut[:1])
			if cut[0] > 0 || cut[1] != 77 || cut[2] != 78 {
				t.Errorf("the repair became %v", cut)
			}
		}
		c.Links = c.Links[:len(c.Links)+2]
		if !equal(c, before) {
			t.Errorf("%+v became %+v", before, c)
		}
	}
	for name, f := range map[string]func(api.RepairCable) ([]int, api.Errno){"Plan": repairs.Plan, "Must": repairs.Must, "Spared": repairs.Spared} {
		a, e := f(example())
		b, g := f(example())
		for i := range a {
			a[i] = 77
		}
		if e != api.OK || g != api.OK || len(a) == 0 || slices.Contains(b, 77) {
			t.Errorf("%s = %v, %d and %v, %d", name, a, e, b, g)
		}
	}
}
