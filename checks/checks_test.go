package checks_test

import (
	"math"
	"slices"
	"testing"

	"shackle/api"
	"shackle/checks"
	"shackle/levers"
)

// P5.1
func TestCheckValid(t *testing.T) {
	l := append(edges(), full(0), full(8))
	good := func(change func(y *api.Yard)) {
		y := example(1)
		change(&y)
		l = append(l, y)
	}
	good(func(y *api.Yard) { y.Machines[2] = span(-60, 60) })
	good(func(y *api.Yard) { y.Machines[2] = span(60, 60) })
	good(func(y *api.Yard) { y.Machines[2] = span(-60, -60) })
	good(func(y *api.Yard) { y.Machines = append(y.Machines, span(0, 0), span(0, 0)) })
	good(func(y *api.Yard) { y.Compares = slices.Repeat(y.Compares, 2) })
	good(func(y *api.Yard) { y.Compares[3] = compare(2, 0, -120, -120) })
	good(func(y *api.Yard) { y.Compares[3] = compare(0, 2, 120, 120) })
	good(func(y *api.Yard) { y.Compares[3] = compare(2, 1, -120, 120) })
	good(func(y *api.Yard) { y.Wrong = 0 })
	good(func(y *api.Yard) { y.Wrong = 8 })
	for i, y := range l {
		if e := checks.Check(y); e != api.OK {
			t.Errorf("%d: Check(%+v) = %d", i, y, e)
		}
	}
}

// badYards returns yards that differ from a valid one in one thing.
func badYards() []api.Yard {
	var l []api.Yard
	bad := func(change func(y *api.Yard)) {
		for _, y := range []api.Yard{example(1), full(1)} {
			change(&y)
			l = append(l, y)
		}
	}
	bad(func(y *api.Yard) { y.Machines = slices.Repeat([]api.Span{span(0, 0)}, 6) })
	bad(func(y *api.Yard) { y.Compares = slices.Repeat(y.Compares[:3], 3) })
	bad(func(y *api.Yard) { y.Machines = nil })
	bad(func(y *api.Yard) { y.Machines = y.Machines[:1] })
	for _, s := range []api.Span{span(1, 0), span(-60, -61), span(61, 60), span(61, 61), span(-61, -61), span(-61, 0), span(0, 61), span(math.MinInt, 0), span(0, math.MaxInt), span(math.MaxInt, math.MinInt)} {
		for i := range 3 {
			bad(func(y *api.Yard) { y.Machines[i] = s })
		}
	}
	for i := range 4 {
		for _, s := range []api.Span{span(1, 0), span(-120, -121), span(121, 120), span(121, 121), span(-121, -121), span(-121, 0), span(0, 121), span(math.MinInt, 0), span(0, math.MaxInt), span(math.MaxInt, math.MinInt)} {
			bad(func(y *api.Yard) { y.Compares[i].Low, y.Compares[i].High = s.Low, s.High })
		}
		bad(func(y *api.Yard) { y.Compares[i].A = y.Compares[i].B })
		bad(func(y *api.Yard) { y.Compares[i].A = len(y.Machines) })
		bad(func(y *api.Yard) { y.Compares[i].B = len(y.Machines) })
		for _, n := range []int{math.MinInt, -1, 5, math.MaxInt} {
			bad(func(y *api.Yard) { y.Compares[i].A = n })
			bad(func(y *api.Yard) { y.Compares[i].B = n })
			bad(func(y *api.Yard) { y.Compares[i].A, y.Compares[i].B = n, n })
		}
	}
	for _, n := range []int{math.MinInt, -1, 9, math.MaxInt} {
		bad(func(y *api.Yard) { y.Wrong = n })
	}
	return l
}

// answer is what any of the functions returns, for tests of errors.
type answer struct {
	name  string
	e     api.Errno
	empty bool
}

// needNoTruth returns what the functions say that need no truth.
func needNoTruth(y api.Yard) []answer {
	fewest, e := checks.Fewest(y)
	cycle, f := checks.Cycle(y)
	machines, g := checks.Machines(y)
	blamed, h := checks.Blamed(y)
	return []answer{{"Fewest", e, fewest == 0}, {"Cycle", f, len(cycle) == 0}, {"Machines", g, machines == 0}, {"Blamed", h, len(blamed) == 0}}
}

func ofMachines(y api.Yard, a, b int) []answer {
	s, e := checks.Errors(y, a)
	d, f := checks.Differ(y, a, b)
	return []answer{{"Errors", e, s == api.Span{}}, {"Differ", f, d == api.Span{}}}
}

// needTruth returns what the functions say that need a truth, those of machines only if these are ones of the yard.
func needTruth(y api.Yard, a, b int) []answer {
	sure, e := checks.Sure(y)
	strange, f := checks.Strange(y)
	l := []answer{{"Sure", e, len(sure) == 0}, {"Strange", f, len(strange) == 0}}
	if max(a, b) < len(y.Machines) {
		l = append(l, ofMachines(y, a, b)...)
	}
	return l
}

func mustAll(t *testing.T, y api.Yard, l []answer, want api.Errno) {
	t.Helper()
	for _, a := range l {
		if a.e != want || !a.empty {
			t.Errorf("%+v: %+v, not %d", y, a, want)
		}
	}
}

// P5.1, R1, R2, R5: ErrYard comes first, whatever the other arguments are.
func TestErrYard(t *testing.T) {
	for _, y := range badYards() {
		if e := checks.Check(y); e != api.ErrYard {
			t.Errorf("Check(%+v) = %d", y, e)
		}
		mustAll(t, y, slices.Concat(needNoTruth(y), needTruth(y, 0, 0), ofMachines(y, 0, 1), ofMachines(y, -1, 0), ofMachines(y, 0, 9)), api.ErrYard)
	}
}

// R1, R2: ErrArg comes before ErrNone, and whether there is a truth or not.
func TestErrArg(t *testing.T) {
	for _, y := range append(edges(), example(0)) {
		for _, n := range []int{math.MinInt, -1, len(y.Machines), 5, math.MaxInt} {
			mustAll(t, y, ofMachines(y, n, n), api.ErrArg)
			for i := range y.Machines {
				s, e := checks.Differ(y, i, n)
				d, f := checks.Differ(y, n, i)
				if s != (api.Span{}) || e != api.ErrArg || d != (api.Span{}) || f != api.ErrArg {
					t.Errorf("%+v: Differ of %d and %d = %v, %d; %v, %d", y, i, n, s, e, d, f)
				}
			}
		}
	}
}

// R2: without a truth there is nothing but ErrNone. Check, Fewest, Cycle, Machines and Blamed need no truth.
func TestErrNone(t *testing.T) {
	y := example(0)
	if e := checks.Check(y); e != api.OK {
		t.Errorf("Check = %d", e)
	}
	for a := range 3 {
		for b := range 3 {
			mustAll(t, y, needTruth(y, a, b), api.ErrNone)
		}
	}
	for _, a := range needNoTruth(y) {
		if a.e != api.OK || a.empty {
			t.Errorf("%+v", a)
		}
	}
}

// P5.3: without contradictions, ErrNone.
func TestNoCycle(t *testing.T) {
	for _, y := range []api.Yard{{}, {Machines: []api.Span{span(-60, 60)}, Wrong: 8}, exact(5, 0), exact(2, 0, compare(0, 1, 0, 0), compare(1, 0, 0, 0))} {
		if l, e := checks.Cycle(y); len(l) > 0 || e != api.ErrNone {
			t.Errorf("%+v: Cycle = %v, %d", y, l, e)
		}
	}
}

// The chapter's examples, and example 5 of the document.
func TestExamples(t *testing.T) {
	y := example(1)
	if n, e := checks.Fewest(y); n != 1 || e != api.OK {
		t.Errorf("Fewest = %d, %d", n, e)
	}
	for _, proof := range [][]api.CheckStep{{{From: 2, To: 0, By: 0}, {From: 0, To: 1, By: 1}, {From: 1, To: 2, By: 2}}} {
		if !proves(y, proof) {
			t.Errorf("%v is a proof", proof)
		}
	}
	if l, e := checks.Cycle(y); !proves(y, l) || e != api.OK {
		t.Errorf("Cycle = %v, %d", l, e)
	}
	for i, want := range []api.Span{span(2, 8), span(8, 9)} {
		if s, e := checks.Errors(y, i); s != want || e != api.OK {
			t.Errorf("Errors of %d = %v, %d", i, s, e)
		}
	}
	if s, e := checks.Differ(y, 1, 0); s != span(1, 7) || e != api.OK {
		t.Errorf("Differ = %v, %d", s, e)
	}
	l, e := checks.Sure(y)
	m, f := checks.Strange(y)
	if !slices.Equal(l, []int{2, 3}) || e != api.OK || len(m) > 0 || f != api.OK {
		t.Errorf("Sure = %v, %d; Strange = %v, %d", l, e, m, f)
	}
	n, e := checks.Machines(y)
	l, f = checks.Blamed(y)
	if n != 1 || e != api.OK || !slices.Equal(l, []int{0, 1, 2}) || f != api.OK {
		t.Errorf("Machines = %d, %d; Blamed = %v, %d", n, e, l, f)
	}
	if s, e := checks.Errors(example(0), 0); s != (api.Span{}) || e != api.ErrNone {
		t.Errorf("Errors with Wrong 0 = %v, %d", s, e)
	}
	if s, e := checks.Own(worn(), 30, 0, 5000); s != span(-91, 0) || e != api.OK {
		t.Errorf("Own = %v, %d", s, e)
	}
}

// P5.2 to P5.8: each function says what the model says.
func TestModel(t *testing.T) {
	yards(func(y api.Yard, d *dice) { ask(t, y, modelFacts(y)) })
}

// P5.2, P5.7: Wrong counts for a truth, from 0 to MaxCompares, and does not for Fewest, Machines, Blamed and Cycle.
func TestWrong(t *testing.T) {
	for bad := range api.MaxCompares + 1 {
		y := exact(3, 0)
		for n := range api.MaxCompares {
			c := compare(n%2, 2, 0, n)
			if n < bad {
				c = compare(0, 1, -n-1, -1)
			}
			y.Compares = append(y.Compares, c)
		}
		for y.Wrong = range api.MaxCompares + 1 {
			_, e := checks.Sure(y)
			if bad <= y.Wrong && e != api.OK || bad > y.Wrong && e != api.ErrNone {
				t.Errorf("%d of %d: Sure: %d", bad, y.Wrong, e)
			}
			if n, e := checks.Fewest(y); n != bad || e != api.OK {
				t.Errorf("%d of %d: Fewest = %d, %d", bad, y.Wrong, n, e)
			}
			n, e := checks.Machines(y)
			l, f := checks.Blamed(y)
			if n != min(bad, 1) || e != api.OK || !slices.Equal(l, []int{0, 1}[:2*min(bad, 1)]) || f != api.OK {
				t.Errorf("%d of %d: Machines = %d, %d; Blamed = %v, %d", bad, y.Wrong, n, e, l, f)
			}
			steps, e := checks.Cycle(y)
			if bad > 0 && (!proves(y, steps) || e != api.OK) || bad == 0 && e != api.ErrNone {
				t.Errorf("%d of %d: Cycle = %v, %d", bad, y.Wrong, steps, e)
			}
		}
	}
}

// worn is M of the chapter of levers, with more balances.
func worn(more ...api.Balance) api.Machine {
	balances := append([]api.Balance{{Weight: 10, Minutes: 5, Load: 2500, Off: 250}}, more...)
	return api.Machine{Levers: []api.Lever{{Long: 100, Short: span(10, 11)}, {Long: 50, Short: span(5, 5)}}, Water: 20, Leak: span(1, 2), Balances: balances}
}

// P5.9: the lesser end is rounded down, the greater one up, also below 0.
func TestOwn(t *testing.T) {
	strongest := api.Machine{Levers: slices.Repeat([]api.Lever{{Long: 1000, Short: span(1, 1)}}, 3), Water: 9999}
	for i, x := range []struct {
		m                        api.Machine
		weight, minutes, nominal int
		want                     api.Span
	}{
		{worn(), 30, 0, 5000, span(-91, 0)}, // 4545 to 5000
		{worn(), 30, 0, 4545, span(0, 101)},
		{worn(), 30, 0, 4700, span(-33, 64)},
		{worn(), 30, 0, 1, span(4544000, 4999000)},
		{worn(), 30, 0, 999999999, span(-1000, -999)},
		{worn(), 30, 10, 4000, span(-91, 0)}, // 3636 to 4000
		{worn(), 0, 99, 7, span(-1000, -1000)},
		{api.Machine{}, 3, 0, 3, span(0, 0)},
		{api.Machine{}, 3, 0, 7, span(-572, -571)},
		{api.Machine{}, 9999, 0, 7, span(1427428, 1427429)},
		{strongest, 9999, 0, 1, span(19998000000000000-1000, 19998000000000000-1000)},
		{strongest, 9999, 0, 1000000000 - 1, span(19997000, 19997001)},
		{strongest, 0, 0, 999999999, span(9998000, 9998001)},
	} {
		if s, e := checks.Own(x.m, x.weight, x.minutes, x.nominal); s != x.want || e != api.OK {
			t.Errorf("%d: Own = %v, %d, not %v", i, s, e, x.want)
		}
	}
}

// P5.9: both ends are as close to those of levers.Load as whole numbers can be.
func TestOwnEnds(t *testing.T) {
	d := &dice{5}
	for range 1000 {
		m := d.machine()
		weight, minutes := d.upTo(60), d.upTo(100)
		load, e := levers.Load(m, weight, minutes)
		if e != api.OK {
			continue
		}
		nominal := 1 + d.upTo(2*load.High+2)
		s, e := checks.Own(m, weight, minutes, nominal)
		low, high := 1000*(load.Low-nominal), 1000*(load.High-nominal)
		if e != api.OK || s.Low*nominal > low || (s.Low+1)*nominal <= low || s.High*nominal < high || (s.High-1)*nominal >= high {
			t.Errorf("%+v: Own of %d to %d = %v, %d", m, load, nominal, s, e)
		}
	}
}

// P5.9, R1, R2: ErrMachine, then ErrArg, then ErrNone.
func TestOwnErrors(t *testing.T) {
	bad := worn()
	bad.Water = -1
	odd := worn(api.Balance{Load: 1500})
	for i, x := range []struct {
		m                        api.Machine
		weight, minutes, nominal int
		want                     api.Errno
	}{
		{bad, 0, 0, 1, api.ErrMachine},
		{bad, -1, -1, 0, api.ErrMachine},
		{bad, 0, 0, 0, api.ErrMachine},
		{api.Machine{Wrong: -1}, 0, 100, 1, api.ErrMachine},
		{odd, 0, 0, 1, api.ErrNone},
		{odd, 9999, 99, 999999999, api.ErrNone},
		{odd, -1, 0, 1, api.ErrArg},
		{odd, 10000, 0, 1, api.ErrArg},
		{odd, math.MinInt, 0, 1, api.ErrArg},
		{odd, math.MaxInt, 0, 1, api.ErrArg},
		{odd, 0, -1, 1, api.ErrArg},
		{odd, 0, 100, 1, api.ErrArg},
		{odd, 0, math.MaxInt, 1, api.ErrArg},
		{odd, 0, 0, 0, api.ErrArg},
		{odd, 0, 0, -1, api.ErrArg},
		{odd, 0, 0, 1000000000, api.ErrArg},
		{odd, 0, 0, math.MinInt, api.ErrArg},
		{odd, 0, 0, math.MaxInt, api.ErrArg},
		{worn(), 0, 0, 0, api.ErrArg},
		{worn(), 0, 0, 1000000000, api.ErrArg},
		{worn(), 10000, 0, 1, api.ErrArg},
		{worn(), 0, 100, 1, api.ErrArg},
	} {
		if s, e := checks.Own(x.m, x.weight, x.minutes, x.nominal); s != (api.Span{}) || e != x.want {
			t.Errorf("%d: Own = %v, %d, not %d", i, s, e, x.want)
		}
	}
}

// P1: no argument makes a function panic.
func TestAnyArguments(t *testing.T) {
	wild := slices.Concat(badYards(), edges())
	wild = append(wild, full(4), api.Yard{Machines: make([]api.Span, 1000), Compares: make([]api.CheckCompare, 1000), Wrong: math.MaxInt})
	numbers := []int{math.MinInt, -1, 0, 1, 2, 4, 5, 1000, math.MaxInt}
	for _, y := range wild {
		checks.Check(y)
		needNoTruth(y)
		needTruth(y, 0, 0)
		for _, a := range numbers {
			for _, b := range numbers {
				ofMachines(y, a, b)
			}
		}
	}
	for _, m := range []api.Machine{{}, worn(), {Wrong: math.MinInt}, {Levers: make([]api.Lever, 1000)}, {Leak: span(math.MaxInt, math.MinInt)}} {
		for _, a := range numbers {
			for _, b := range numbers {
				for _, c := range numbers {
					checks.Own(m, a, b, c)
				}
			}
		}
	}
}

// R3: a list that is nil and one that is empty are the same.
func TestNilAndEmpty(t *testing.T) {
	for i, y := range []api.Yard{{}, {Machines: []api.Span{}}, {Compares: []api.CheckCompare{}}, {Machines: []api.Span{}, Compares: []api.CheckCompare{}, Wrong: 3}} {
		if f := learn(t, y); !f.equal(facts{truth: true}) {
			t.Errorf("%d: %+v", i, f)
		}
		if l, e := checks.Cycle(y); len(l) > 0 || e != api.ErrNone {
			t.Errorf("%d: Cycle = %v, %d", i, l, e)
		}
	}
	for i, y := range []api.Yard{{Machines: []api.Span{span(1, 2)}}, {Machines: []api.Span{span(1, 2)}, Compares: []api.CheckCompare{}}} {
		if s, e := checks.Errors(y, 0); s != span(1, 2) || e != api.OK {
			t.Errorf("%d: Errors = %v, %d", i, s, e)
		}
	}
}

// R4: no argument is changed, and a list that is returned is new.
func TestMemory(t *testing.T) {
	for _, y := range append(edges(), full(2)) {
		// Room behind each list shows what is written there.
		y.Machines = append(slices.Clone(y.Machines), span(7, 8), span(9, 10))[:len(y.Machines)]
		y.Compares = append(slices.Clone(y.Compares), compare(7, 8, 9, 10))[:len(y.Compares)]
		before := y
		before.Machines = slices.Clone(y.Machines[:len(y.Machines)+2])
		before.Compares = slices.Clone(y.Compares[:len(y.Compares)+1])
		checks.Check(y)
		needNoTruth(y)
		needTruth(y, 0, 0)
		y.Machines = y.Machines[:len(y.Machines)+2]
		y.Compares = y.Compares[:len(y.Compares)+1]
		if !equal(y, before) {
			t.Errorf("%+v became %+v", before, y)
		}
	}
	m := worn()
	checks.Own(m, 30, 0, 5000)
	if w := worn(); !slices.Equal(m.Levers, w.Levers) || !slices.Equal(m.Balances, w.Balances) {
		t.Errorf("the machine became %+v", m)
	}
	y := exact(3, 1, compare(0, 1, 1, 1), compare(0, 2, 0, 0))
	for name, f := range map[string]func(api.Yard) ([]int, api.Errno){"Sure": checks.Sure, "Strange": checks.Strange, "Blamed": checks.Blamed} {
		a, e := f(y)
		b, g := f(y)
		for i := range a {
			a[i] = 77
		}
		if e != api.OK || g != api.OK || len(a) == 0 || slices.Contains(b, 77) {
			t.Errorf("%s = %v, %d and %v, %d", name, a, e, b, g)
		}
	}
	k, e := checks.Cycle(y)
	l, f := checks.Cycle(y)
	for i := range k {
		k[i] = api.CheckStep{From: 77}
	}
	if e != api.OK || f != api.OK || len(k) == 0 || !proves(y, l) {
		t.Errorf("Cycle = %v, %d and %v, %d", k, e, l, f)
	}
}
