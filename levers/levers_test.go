package levers_test

import (
	"math"
	"slices"
	"testing"

	"shackle/api"
	"shackle/levers"
)

// full returns a machine that is as great as one can be, but for the spans of its levers.
func full() api.Machine {
	return api.Machine{
		Levers:   slices.Repeat([]api.Lever{lever(1000, 1000, 1000)}, 3),
		Water:    9999,
		Leak:     span(0, 20),
		Balances: slices.Repeat([]api.Balance{balance(9999, 99, 999999999, 999999999)}, 6),
		Wrong:    6,
	}
}

// P3.1
func TestCheckValid(t *testing.T) {
	l := append(edges(), full())
	good := func(change func(m *api.Machine)) {
		m := example(0, odd())
		change(&m)
		l = append(l, m)
	}
	good(func(m *api.Machine) { m.Levers = append(m.Levers, lever(1, 1, 1)) })
	good(func(m *api.Machine) { m.Levers[1].Long = 1 })
	good(func(m *api.Machine) { m.Levers[1].Long = 1000 })
	good(func(m *api.Machine) { m.Levers[0].Short = span(1, 1000) })
	good(func(m *api.Machine) { m.Levers[1].Short = span(1000, 1000) })
	good(func(m *api.Machine) { m.Water = 0 })
	good(func(m *api.Machine) { m.Water = 9999 })
	good(func(m *api.Machine) { m.Leak = span(0, 0) })
	good(func(m *api.Machine) { m.Leak = span(0, 20) })
	good(func(m *api.Machine) { m.Leak = span(20, 20) })
	good(func(m *api.Machine) { m.Balances = slices.Repeat(m.Balances, 3) })
	good(func(m *api.Machine) { m.Balances[0] = balance(0, 0, 0, 0) })
	good(func(m *api.Machine) { m.Balances[1] = balance(9999, 99, 999999999, 999999999) })
	good(func(m *api.Machine) { m.Wrong = 6 })
	for i, m := range l {
		if e := levers.Check(m); e != api.OK {
			t.Errorf("%d: Check(%+v) = %d", i, m, e)
		}
	}
}

// badMachines returns machines that differ from a valid one in one thing.
func badMachines() []api.Machine {
	var l []api.Machine
	bad := func(change func(m *api.Machine)) {
		m := example(0, odd())
		change(&m)
		l = append(l, m)
		m = full()
		change(&m)
		l = append(l, m)
	}
	for _, s := range []api.Span{span(0, 1), span(0, 0), span(-1, 5), span(2, 1), span(1000, 999), span(5, 1001), span(1001, 1001), span(math.MinInt, 5), span(5, math.MaxInt), span(math.MaxInt, math.MinInt)} {
		bad(func(m *api.Machine) { m.Levers[0].Short = s })
		bad(func(m *api.Machine) { m.Levers[1].Short = s })
	}
	for _, s := range []api.Span{span(-1, 1), span(-1, -1), span(2, 1), span(1, 0), span(2, 21), span(21, 21), span(math.MinInt, 1), span(1, math.MaxInt)} {
		bad(func(m *api.Machine) { m.Leak = s })
	}
	outside := func(low, high int, set func(m *api.Machine, n int)) {
		for _, n := range []int{math.MinInt, low - 1, high + 1, math.MaxInt} {
			bad(func(m *api.Machine) { set(m, n) })
		}
	}
	outside(1, 1000, func(m *api.Machine, n int) { m.Levers[0].Long = n })
	outside(1, 1000, func(m *api.Machine, n int) { m.Levers[1].Long = n })
	outside(0, 9999, func(m *api.Machine, n int) { m.Water = n })
	outside(0, 9999, func(m *api.Machine, n int) { m.Balances[0].Weight = n })
	outside(0, 9999, func(m *api.Machine, n int) { m.Balances[1].Weight = n })
	outside(0, 99, func(m *api.Machine, n int) { m.Balances[0].Minutes = n })
	outside(0, 99, func(m *api.Machine, n int) { m.Balances[1].Minutes = n })
	outside(0, 999999999, func(m *api.Machine, n int) { m.Balances[0].Load = n })
	outside(0, 999999999, func(m *api.Machine, n int) { m.Balances[1].Load = n })
	outside(0, 999999999, func(m *api.Machine, n int) { m.Balances[0].Off = n })
	outside(0, 999999999, func(m *api.Machine, n int) { m.Balances[1].Off = n })
	outside(0, 6, func(m *api.Machine, n int) { m.Wrong = n })
	bad(func(m *api.Machine) { m.Levers = slices.Repeat(m.Levers[:1], 4) })
	bad(func(m *api.Machine) { m.Levers = make([]api.Lever, 1) })
	bad(func(m *api.Machine) { m.Balances = slices.Repeat(m.Balances[:1], 7) })
	return l
}

// answer is what any of the functions returns, for tests of errors.
type answer struct {
	name  string
	e     api.Errno
	empty bool
}

// ofMachine returns what the functions say that take nothing but a machine, Fewest first.
func ofMachine(m api.Machine) []answer {
	fewest, e := levers.Fewest(m)
	many, f := levers.Many(m)
	leaks, g := levers.Leaks(m)
	strange, h := levers.Strange(m)
	return []answer{{"Fewest", e, fewest == 0}, {"Many", f, many == 0}, {"Leaks", g, len(leaks) == 0}, {"Strange", h, len(strange) == 0}}
}

func ofLever(m api.Machine, n int) []answer {
	l, e := levers.Shorts(m, n)
	return []answer{{"Shorts", e, len(l) == 0}}
}

// ofWeight returns what the functions with a weight say, and ofMinutes and ofLoad likewise.
func ofWeight(m api.Machine, weight, minutes, load int) []answer {
	s, e := levers.Load(m, weight, minutes)
	n, f := levers.Pulled(m, weight, minutes, load)
	until, g := levers.Until(m, weight, load)
	return []answer{{"Load", e, s == api.Span{}}, {"Pulled", f, n == 0}, {"Until", g, until == 0}}
}

func ofMinutes(m api.Machine, weight, minutes, load int) []answer {
	s, e := levers.Load(m, weight, minutes)
	n, f := levers.Pulled(m, weight, minutes, load)
	least, g := levers.Weight(m, minutes, load)
	return []answer{{"Load", e, s == api.Span{}}, {"Pulled", f, n == 0}, {"Weight", g, least == 0}}
}

func ofLoad(m api.Machine, weight, minutes, load int) []answer {
	n, e := levers.Pulled(m, weight, minutes, load)
	least, f := levers.Weight(m, minutes, load)
	until, g := levers.Until(m, weight, load)
	return []answer{{"Pulled", e, n == 0}, {"Weight", f, least == 0}, {"Until", g, until == 0}}
}

func mustAll(t *testing.T, m api.Machine, l []answer, want api.Errno) {
	t.Helper()
	for _, a := range l {
		if a.e != want || !a.empty {
			t.Errorf("%+v: %+v, not %d", m, a, want)
		}
	}
}

// P3.1, R1, R2, R5: ErrMachine comes first, whatever the other arguments are.
func TestErrMachine(t *testing.T) {
	for _, m := range badMachines() {
		if e := levers.Check(m); e != api.ErrMachine {
			t.Errorf("Check(%+v) = %d", m, e)
		}
		mustAll(t, m, ofMachine(m), api.ErrMachine)
		for _, n := range []int{-1, 0, 99999} {
			mustAll(t, m, slices.Concat(ofLever(m, n), ofWeight(m, n, 0, 0), ofMinutes(m, 0, n, 0), ofLoad(m, 0, 0, n), ofWeight(m, n, n, n)), api.ErrMachine)
		}
	}
}

// R1, R2: ErrArg comes before ErrNone, and whether there is a truth or not.
func TestErrArg(t *testing.T) {
	for _, m := range edges() {
		for _, n := range []int{math.MinInt, -1, len(m.Levers), 3, math.MaxInt} {
			mustAll(t, m, ofLever(m, n), api.ErrArg)
		}
		for _, n := range []int{math.MinInt, -1, 10000, math.MaxInt} {
			mustAll(t, m, ofWeight(m, n, 0, 0), api.ErrArg)
		}
		for _, n := range []int{math.MinInt, -1, 100, math.MaxInt} {
			mustAll(t, m, ofMinutes(m, 0, n, 0), api.ErrArg)
		}
		for _, n := range []int{math.MinInt, -1, 1000000000, math.MaxInt} {
			mustAll(t, m, ofLoad(m, 0, 0, n), api.ErrArg)
		}
	}
}

// R1: the greatest and the least of what is allowed is no ErrArg.
func TestArguments(t *testing.T) {
	for _, m := range []api.Machine{example(0), full()} {
		for _, weight := range []int{0, 9999} {
			for _, minutes := range []int{0, 99} {
				for _, load := range []int{0, 999999999} {
					for _, a := range slices.Concat(ofWeight(m, weight, minutes, load), ofMinutes(m, weight, minutes, load)) {
						if a.e != api.OK && (a.e != api.ErrNone || load == 0) {
							t.Errorf("%d, %d, %d: %+v", weight, minutes, load, a)
						}
					}
				}
			}
		}
	}
}

// R2: without a truth there is nothing but ErrNone. Check and Fewest need no truth.
func TestErrNone(t *testing.T) {
	m := example(0, odd())
	if e := levers.Check(m); e != api.OK {
		t.Errorf("Check = %d", e)
	}
	all := ofMachine(m)
	if all[0] != (answer{"Fewest", api.OK, false}) {
		t.Errorf("%+v", all[0])
	}
	mustAll(t, m, slices.Concat(all[1:], ofLever(m, 0), ofLever(m, 1)), api.ErrNone)
	for _, load := range []int{0, 2000, 999999999} {
		mustAll(t, m, slices.Concat(ofWeight(m, 30, 5, load), ofMinutes(m, 30, 5, load)), api.ErrNone)
	}
	m.Wrong = 1
	for _, a := range slices.Concat(ofMachine(m), ofLever(m, 0), ofWeight(m, 30, 5, 2000), ofMinutes(m, 30, 5, 4000)) {
		if a.e != api.OK || a.empty {
			t.Errorf("with one wrong: %+v", a)
		}
	}
}

// The chapter's examples, and example 3 of the document.
func TestExamples(t *testing.T) {
	number := func(name string, n int, e api.Errno, want int) {
		t.Helper()
		if n != want || e != api.OK {
			t.Errorf("%s = %d, %d, not %d", name, n, e, want)
		}
	}
	list := func(name string, l []int, e api.Errno, want ...int) {
		t.Helper()
		if !slices.Equal(l, want) || e != api.OK {
			t.Errorf("%s = %v, %d, not %v", name, l, e, want)
		}
	}
	m, n, loose := example(0), example(0, odd()), example(1, odd())
	k, e := levers.Fewest(m)
	number("Fewest", k, e, 0)
	k, e = levers.Many(m)
	number("Many", k, e, 2)
	l, e := levers.Shorts(m, 0)
	list("Shorts", l, e, 10, 11)
	l, e = levers.Shorts(m, 1)
	list("Shorts", l, e, 5)
	l, e = levers.Leaks(m)
	list("Leaks", l, e, 1)
	for minutes, want := range map[int]api.Span{0: span(4545, 5000), 10: span(3636, 4000)} {
		if s, e := levers.Load(m, 30, minutes); s != want || e != api.OK {
			t.Errorf("Load = %v, %d, not %v", s, e, want)
		}
	}
	for load, want := range map[int]int{4545: api.Surely, 4546: api.Perhaps, 5001: api.Never} {
		k, e = levers.Pulled(m, 30, 0, load)
		number("Pulled", k, e, want)
	}
	k, e = levers.Weight(m, 0, 4546)
	number("Weight", k, e, 31)
	k, e = levers.Weight(m, 10, 4000)
	number("Weight", k, e, 34)
	k, e = levers.Until(m, 30, 4000)
	number("Until", k, e, 6)
	if k, e := levers.Until(m, 30, 6000); k != 0 || e != api.ErrNone {
		t.Errorf("Until = %d, %d", k, e)
	}
	k, e = levers.Fewest(n)
	number("Fewest of N", k, e, 1)
	if k, e := levers.Many(n); k != 0 || e != api.ErrNone {
		t.Errorf("Many of N = %d, %d", k, e)
	}
	l, e = levers.Strange(loose)
	list("Strange of N", l, e, 1)
}

// P3.1 to P3.10: each function says what the model says.
func TestModel(t *testing.T) {
	machines(func(m api.Machine, d *dice) { ask(t, m, d) })
}

// P3.3: settings are counted, also if several of them have the same product of short arms.
func TestManySettings(t *testing.T) {
	l := []api.Lever{lever(12, 1, 4), lever(1, 3, 4), lever(1, 1, 4)}
	for i, x := range []struct {
		m    api.Machine
		want int
	}{
		{api.Machine{}, 1},
		{api.Machine{Leak: span(3, 5)}, 3},
		{api.Machine{Levers: l}, 32},
		{api.Machine{Levers: l, Leak: span(0, 20)}, 672},
		{api.Machine{Levers: l, Balances: []api.Balance{balance(1, 0, 1, 0)}}, 5}, // 1 3 4, 1 4 3, 3 4 1, 4 3 1, and 2 3 2
		{api.Machine{Levers: l, Leak: span(1, 4), Balances: []api.Balance{balance(1, 9, 1, 0)}}, 20},
		{api.Machine{Levers: l, Water: 12, Leak: span(11, 14), Balances: []api.Balance{balance(0, 1, 1, 0)}}, 5},
	} {
		if n, e := levers.Many(x.m); n != x.want || e != api.OK {
			t.Errorf("%d: Many = %d, %d, not %d", i, n, e, x.want)
		}
	}
}

// P3.2, P3.3: Wrong counts for Many, from 0 to MaxBalances, and does not for Fewest.
func TestWrong(t *testing.T) {
	for bad := range api.MaxBalances + 1 {
		m := api.Machine{Levers: []api.Lever{lever(6, 2, 3)}}
		for n := range api.MaxBalances {
			b := balance(1, 0, 2, 1)
			if n < bad {
				b = balance(1, 0, 0, 1)
			}
			m.Balances = append(m.Balances, b)
		}
		for m.Wrong = range api.MaxBalances + 1 {
			want := 0
			if bad <= m.Wrong {
				want = 2
			}
			if n, e := levers.Many(m); n != want || (e == api.OK) != (want > 0) {
				t.Errorf("%d of %d: Many = %d, %d", bad, m.Wrong, n, e)
			}
			if n, e := levers.Fewest(m); n != bad || e != api.OK {
				t.Errorf("%d of %d: Fewest = %d, %d", bad, m.Wrong, n, e)
			}
		}
	}
}

// A balance is right if its load, a fraction, differs by at most Off, above or below.
func TestRight(t *testing.T) {
	third := []api.Lever{lever(1, 3, 3)} // 10 pulls 10/3
	for _, x := range []struct {
		b    api.Balance
		want int
	}{
		{balance(10, 0, 3, 0), 1}, {balance(10, 0, 3, 1), 0}, {balance(10, 0, 4, 0), 1}, {balance(10, 0, 4, 1), 0},
		{balance(10, 0, 5, 1), 1}, {balance(10, 0, 5, 2), 0}, {balance(10, 0, 2, 1), 1}, {balance(10, 0, 2, 2), 0},
		{balance(9, 0, 3, 0), 0}, {balance(9, 0, 2, 1), 0}, {balance(9, 0, 4, 1), 0}, {balance(9, 0, 5, 1), 1}, {balance(9, 0, 1, 1), 1},
		{balance(0, 0, 0, 0), 0}, {balance(1, 0, 0, 0), 1}, {balance(1, 0, 0, 1), 0}, {balance(0, 0, 1, 0), 1}, {balance(0, 0, 1, 1), 0},
		{balance(0, 0, 3, 999), 0}, {balance(9999, 99, 999999999, 999999999), 0}, {balance(9999, 99, 999999999, 999996666), 0}, {balance(9999, 99, 999999999, 999996665), 1},
	} {
		if n, e := levers.Fewest(api.Machine{Levers: third, Balances: []api.Balance{x.b}}); n != x.want || e != api.OK {
			t.Errorf("%+v: Fewest = %d, %d, not %d", x.b, n, e, x.want)
		}
	}
}

// P3.4: what some lever has depends on the others.
func TestShorts(t *testing.T) {
	l := []api.Lever{lever(1, 5, 7), lever(1, 2, 9), lever(1, 1, 4)}
	m := api.Machine{Levers: l, Balances: []api.Balance{balance(42, 0, 1, 0)}} // 6 7 1, 7 2 3, 7 3 2, 7 6 1
	for i, want := range [][]int{{6, 7}, {2, 3, 6, 7}, {1, 2, 3}} {
		if l, e := levers.Shorts(m, i); !slices.Equal(l, want) || e != api.OK {
			t.Errorf("%d: Shorts = %v, %d, not %v", i, l, e, want)
		}
	}
	m.Wrong = 1
	for i, want := range [][]int{{5, 6, 7}, {2, 3, 4, 5, 6, 7, 8, 9}, {1, 2, 3, 4}} {
		if l, e := levers.Shorts(m, i); !slices.Equal(l, want) || e != api.OK {
			t.Errorf("%d: Shorts = %v, %d, not %v", i, l, e, want)
		}
	}
}

// P3.5, P3.6: leaks that some truths leave, and balances that none does.
func TestLeaks(t *testing.T) {
	at := func(minutes, load int) api.Balance { return balance(0, minutes, load, 0) }
	for i, x := range []struct {
		wrong          int
		balances       []api.Balance
		leaks, strange []int
	}{
		{0, nil, []int{0, 1, 2, 3}, nil},
		{0, []api.Balance{at(4, 6)}, []int{1}, nil},
		{0, []api.Balance{at(5, 0)}, []int{2, 3}, nil},
		{1, []api.Balance{at(4, 6)}, []int{0, 1, 2, 3}, nil},
		{1, []api.Balance{at(4, 5)}, []int{0, 1, 2, 3}, []int{0}},
		{1, []api.Balance{at(4, 6), at(4, 10)}, []int{0, 1}, nil},
		{1, []api.Balance{at(4, 6), at(4, 10), at(5, 0)}, nil, nil},
		{2, []api.Balance{at(4, 6), at(4, 10), at(5, 0)}, []int{0, 1, 2, 3}, nil},
		{2, []api.Balance{at(4, 6), at(4, 6), at(4, 10), at(9, 1)}, []int{1}, []int{2}},
		{3, []api.Balance{at(1, 11), at(4, 6), at(4, 6), at(1, 9), at(9, 9)}, []int{1}, []int{0, 4}},
	} {
		m := api.Machine{Water: 10, Leak: span(0, 3), Balances: x.balances, Wrong: x.wrong}
		l, e := levers.Leaks(m)
		s, f := levers.Strange(m)
		if want := none(modelTruths(m)); !slices.Equal(l, x.leaks) || e != want || !slices.Equal(s, x.strange) || f != want {
			t.Errorf("%d: Leaks = %v, %d; Strange = %v, %d", i, l, e, s, f)
		}
	}
}

// P3.7: the bounds are those of all truths, rounded outward; what leaked is at most the water.
func TestLoad(t *testing.T) {
	for i, x := range []struct {
		m               api.Machine
		weight, minutes int
		want            api.Span
	}{
		{api.Machine{Levers: []api.Lever{lever(1, 3, 3)}}, 9, 0, span(3, 3)},
		{api.Machine{Levers: []api.Lever{lever(1, 3, 3)}}, 10, 0, span(3, 4)},
		{api.Machine{Levers: []api.Lever{lever(1, 1000, 1000)}}, 1, 0, span(0, 1)},
		{api.Machine{Levers: []api.Lever{lever(5, 3, 4)}}, 7, 99, span(8, 12)},
		{api.Machine{Levers: []api.Lever{lever(5, 3, 4), lever(2, 7, 9), lever(11, 1, 2)}}, 100, 0, span(152, 524)},
		{api.Machine{Water: 10, Leak: span(1, 2)}, 3, 0, span(13, 13)},
		{api.Machine{Water: 10, Leak: span(1, 2)}, 3, 4, span(5, 9)},
		{api.Machine{Water: 10, Leak: span(1, 2)}, 3, 5, span(3, 8)},
		{api.Machine{Water: 10, Leak: span(1, 2)}, 3, 6, span(3, 7)},
		{api.Machine{Water: 10, Leak: span(1, 2)}, 3, 10, span(3, 3)},
		{api.Machine{Water: 10, Leak: span(1, 2)}, 3, 99, span(3, 3)},
		{full(), 9999, 0, span(19998, 19998)},
		{full(), 9999, 99, span(18018, 19998)},
		{api.Machine{Levers: slices.Repeat([]api.Lever{lever(1000, 1, 1)}, 3), Water: 9999}, 9999, 0, span(19998000000000, 19998000000000)},
	} {
		if s, e := levers.Load(x.m, x.weight, x.minutes); s != x.want || e != api.OK {
			t.Errorf("%d: Load = %v, %d, not %v", i, s, e, x.want)
		}
	}
}

// P3.8: a load is pulled if it is reached, and not only its bound.
func TestPulled(t *testing.T) {
	half := api.Machine{Levers: []api.Lever{lever(1, 2, 2)}}
	both := api.Machine{Levers: []api.Lever{lever(2, 1, 2)}}
	for i, x := range []struct {
		m            api.Machine
		weight, load int
		want         int
	}{
		{half, 9, 4, api.Surely}, {half, 9, 5, api.Never}, {half, 8, 4, api.Surely}, {half, 0, 0, api.Surely}, {half, 0, 1, api.Never},
		{both, 5, 5, api.Surely}, {both, 5, 6, api.Perhaps}, {both, 5, 10, api.Perhaps}, {both, 5, 11, api.Never}, {both, 0, 0, api.Surely},
		{half, 9999, 999999999, api.Never}, {api.Machine{Levers: slices.Repeat([]api.Lever{lever(1000, 1, 1)}, 3)}, 1, 999999999, api.Surely},
	} {
		if n, e := levers.Pulled(x.m, x.weight, 0, x.load); n != x.want || e != api.OK {
			t.Errorf("%d: Pulled = %d, %d, not %d", i, n, e, x.want)
		}
	}
}

// P3.9, P3.10: the edges of weights and of minutes, and loads that none of them pulls.
func TestWeightAndUntil(t *testing.T) {
	tank := api.Machine{Levers: []api.Lever{lever(2, 3, 3)}, Water: 198, Leak: span(1, 2)}
	for i, x := range []struct{ minutes, load, want int }{
		{0, 0, 0}, {0, 132, 0}, {0, 133, 2}, {99, 0, 0}, {99, 1, 2}, {99, 2, 3}, {50, 66, 1}, {0, 6798, 9999}, {0, 6799, -1}, {99, 6666, 9999}, {99, 6667, -1}, {0, 999999999, -1},
	} {
		n, e := levers.Weight(tank, x.minutes, x.load)
		if x.want < 0 && (n != 0 || e != api.ErrNone) || x.want >= 0 && (n != x.want || e != api.OK) {
			t.Errorf("%d: Weight = %d, %d, not %d", i, n, e, x.want)
		}
	}
	for i, x := range []struct{ weight, load, want int }{
		{0, 0, 99}, {0, 132, 0}, {0, 133, -1}, {0, 131, 0}, {0, 130, 1}, {1, 132, 0}, {2, 133, 0}, {3, 133, 0}, {4, 133, 1}, {3, 2, 99}, {3, 3, 98}, {2, 2, 98}, {0, 1, 98}, {0, 2, 97}, {9999, 6666, 99}, {9999, 6798, 0}, {9999, 6799, -1}, {9999, 999999999, -1},
	} {
		n, e := levers.Until(tank, x.weight, x.load)
		if x.want < 0 && (n != 0 || e != api.ErrNone) || x.want >= 0 && (n != x.want || e != api.OK) {
			t.Errorf("%d: Until = %d, %d, not %d", i, n, e, x.want)
		}
	}
}

// P1: no argument makes a function panic.
func TestAnyArguments(t *testing.T) {
	wild := slices.Concat(badMachines(), edges())
	wild = append(wild, full(), api.Machine{Levers: make([]api.Lever, 1000), Balances: make([]api.Balance, 1000), Wrong: math.MaxInt})
	for _, m := range wild {
		levers.Check(m)
		ofMachine(m)
		for _, n := range []int{math.MinInt, -1, 0, 1, 2, 3, 99, 100, 9999, 10000, 999999999, 1000000000, math.MaxInt} {
			ofLever(m, n)
			ofWeight(m, n, n, n)
			ofMinutes(m, n, n, n)
			ofWeight(m, n, 0, 0)
			ofMinutes(m, 0, n, 0)
			ofLoad(m, 0, 0, n)
		}
	}
}

// R3: a list that is nil and one that is empty are the same.
func TestNilAndEmpty(t *testing.T) {
	for i, m := range []api.Machine{{}, {Levers: []api.Lever{}}, {Balances: []api.Balance{}}, {Levers: []api.Lever{}, Balances: []api.Balance{}}} {
		if n, e := levers.Many(m); n != 1 || e != api.OK {
			t.Errorf("%d: Many = %d, %d", i, n, e)
		}
		if n, e := levers.Fewest(m); n != 0 || e != api.OK {
			t.Errorf("%d: Fewest = %d, %d", i, n, e)
		}
		if l, e := levers.Strange(m); len(l) != 0 || e != api.OK {
			t.Errorf("%d: Strange = %v, %d", i, l, e)
		}
		if s, e := levers.Load(m, 7, 3); s != span(7, 7) || e != api.OK {
			t.Errorf("%d: Load = %v, %d", i, s, e)
		}
		mustAll(t, m, ofLever(m, 0), api.ErrArg)
	}
}

// R4: no argument is changed, and a list that is returned is new.
func TestMemory(t *testing.T) {
	for _, m := range edges() {
		// Room behind each list shows what is written there.
		m.Levers = append(slices.Clone(m.Levers), lever(7, 7, 7), lever(8, 8, 8))[:len(m.Levers)]
		m.Balances = append(slices.Clone(m.Balances), odd(), odd())[:len(m.Balances)]
		before := clone(m)
		before.Levers = slices.Clone(m.Levers[:len(m.Levers)+2])
		before.Balances = slices.Clone(m.Balances[:len(m.Balances)+2])
		levers.Check(m)
		ofMachine(m)
		ofLever(m, 0)
		ofWeight(m, 3, 5, 1)
		ofMinutes(m, 3, 5, 1)
		m.Levers = m.Levers[:len(m.Levers)+2]
		m.Balances = m.Balances[:len(m.Balances)+2]
		if !equal(m, before) {
			t.Errorf("%+v became %+v", before, m)
		}
	}
	m := example(1, odd())
	for name, f := range map[string]func(api.Machine) ([]int, api.Errno){"Leaks": levers.Leaks, "Strange": levers.Strange, "Shorts": func(m api.Machine) ([]int, api.Errno) { return levers.Shorts(m, 0) }} {
		a, e := f(m)
		b, g := f(m)
		for i := range a {
			a[i] = 77
		}
		if e != api.OK || g != api.OK || len(a) == 0 || slices.Contains(b, 77) || !equal(m, example(1, odd())) {
			t.Errorf("%s = %v, %d and %v, %d of %+v", name, a, e, b, g, m)
		}
	}
}
