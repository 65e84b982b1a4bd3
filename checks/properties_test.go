package checks_test

import (
	"slices"
	"testing"

	"shackle/api"
	"shackle/checks"
	"shackle/levers"
)

func inside(s, all api.Span) bool { return all.Low <= s.Low && s.High <= all.High }

func swapped(s api.Span) api.Span { return span(-s.High, -s.Low) }

// insideAll reports whether no span of f is wider than that of g.
func (f facts) insideAll(g facts) bool {
	for a := range f.errors {
		if !inside(f.errors[a], g.errors[a]) {
			return false
		}
		for b := range f.errors {
			if !inside(f.differ[a][b], g.differ[a][b]) {
				return false
			}
		}
	}
	return true
}

// P5.10
func TestEachTruth(t *testing.T) {
	yards(func(y api.Yard, d *dice) {
		f := learn(t, y)
		truths := modelTruths(y)
		if f.truth != (len(truths) > 0) {
			t.Fatalf("%+v: %t, %d truths", y, f.truth, len(truths))
		}
		for _, s := range truths {
			for a, n := range s.errors {
				if !inside(span(n, n), f.errors[a]) {
					t.Errorf("%+v: %+v is a truth, Errors of %d = %v", y, s, a, f.errors[a])
				}
				for b, m := range s.errors {
					if !inside(span(n-m, n-m), f.differ[a][b]) {
						t.Errorf("%+v: %+v is a truth, Differ of %d and %d = %v", y, s, a, b, f.differ[a][b])
					}
				}
			}
			for i := range y.Compares {
				isWrong := slices.Contains(s.wrong, i)
				if isWrong && slices.Contains(f.sure, i) || !isWrong && slices.Contains(f.strange, i) {
					t.Errorf("%+v: %+v is a truth, Sure = %v, Strange = %v", y, s, f.sure, f.strange)
				}
			}
		}
	})
}

// P5.11: one more comparison.
func TestOneMoreComparison(t *testing.T) {
	less, more := 0, 0
	yards(func(y api.Yard, d *dice) {
		if len(y.Compares) == api.MaxCompares || len(y.Machines) < 2 {
			return
		}
		z := clone(y)
		z.Compares = append(z.Compares, d.compare(d.errors(y), 3))
		f, g := learn(t, y), learn(t, z)
		if f.truth != (f.fewest <= y.Wrong) || g.truth != (g.fewest <= z.Wrong) || g.truth && !f.truth {
			t.Errorf("%+v: %t, %d; %+v: %t, %d", y, f.truth, f.fewest, z, g.truth, g.fewest)
		}
		if g.fewest < f.fewest || g.machines < f.machines || g.truth && !g.insideAll(f) {
			t.Errorf("%+v: %+v became %+v", z, f, g)
		}
		if g.truth && !f.insideAll(g) {
			less++
		}
		if g.fewest > f.fewest && g.machines > f.machines {
			more++
		}
	})
	if less < 50 || more < 20 {
		t.Errorf("only %d comparisons made something narrower, %d contradicted others", less, more)
	}
}

// wider returns yards of which one thing is wider.
func wider(y api.Yard) []api.Yard {
	var l []api.Yard
	add := func(change func(w *api.Yard)) {
		w := clone(y)
		change(&w)
		if checks.Check(w) == api.OK {
			l = append(l, w)
		}
	}
	add(func(w *api.Yard) { w.Wrong++ })
	for i := range y.Machines {
		add(func(w *api.Yard) { w.Machines[i].Low-- })
		add(func(w *api.Yard) { w.Machines[i].High++ })
		add(func(w *api.Yard) { w.Machines[i] = span(-60, 60) })
	}
	for i := range y.Compares {
		add(func(w *api.Yard) { w.Compares[i].Low-- })
		add(func(w *api.Yard) { w.Compares[i].High++ })
		add(func(w *api.Yard) { w.Compares[i].Low, w.Compares[i].High = -120, 120 })
	}
	return l
}

// P5.11: what is wider makes nothing narrower.
func TestWider(t *testing.T) {
	gained := 0
	yards(func(y api.Yard, d *dice) {
		f := learn(t, y)
		for _, w := range wider(y) {
			g := learn(t, w)
			if g.fewest > f.fewest || g.machines > f.machines || f.truth && (!g.truth || !f.insideAll(g)) {
				t.Errorf("%+v: %+v became %+v", w, f, g)
			}
			if g.truth && !f.truth {
				gained++
			}
		}
	})
	if gained < 50 {
		t.Errorf("only %d yards got a truth", gained)
	}
}

// P5.12
func TestDifferences(t *testing.T) {
	yards(func(y api.Yard, d *dice) {
		f := learn(t, y)
		for a := range f.errors {
			if f.differ[a][a] != span(0, 0) {
				t.Errorf("%+v: Differ of %d and %d = %v", y, a, a, f.differ[a][a])
			}
			for b := range f.errors {
				s := f.differ[a][b]
				if s != swapped(f.differ[b][a]) || !inside(s, span(f.errors[a].Low-f.errors[b].High, f.errors[a].High-f.errors[b].Low)) {
					t.Errorf("%+v: Differ of %d and %d = %v, the other way %v, Errors %v", y, a, b, s, f.differ[b][a], f.errors)
				}
				for c := range f.errors {
					r, q := f.differ[b][c], f.differ[a][c]
					if !inside(q, span(s.Low+r.Low, s.High+r.High)) {
						t.Errorf("%+v: Differ of %d, %d and %d = %v, %v, %v", y, a, b, c, s, r, q)
					}
				}
			}
		}
	})
}

// P5.13
func TestProof(t *testing.T) {
	proofs := 0
	yards(func(y api.Yard, d *dice) {
		f := learn(t, y)
		proof, e := checks.Cycle(y)
		if f.fewest == 0 && (len(proof) > 0 || e != api.ErrNone) || f.fewest > 0 && (!proves(y, proof) || e != api.OK) {
			t.Fatalf("%+v: Cycle = %v, %d, Fewest %d", y, proof, e, f.fewest)
		}
		if f.fewest == 0 {
			return
		}
		proofs++
		for _, s := range modelStates(y) {
			if !slices.ContainsFunc(proof, func(p api.CheckStep) bool { return slices.Contains(s.wrong, p.By) }) {
				t.Errorf("%+v: all of %v is right in %+v", y, proof, s)
			}
		}
	})
	if proofs < 100 {
		t.Errorf("only %d proofs", proofs)
	}
}

// without returns a yard without the comparisons of a machine.
func without(y api.Yard, machine int) api.Yard {
	y = clone(y)
	y.Compares = slices.DeleteFunc(y.Compares, func(c api.CheckCompare) bool { return c.A == machine || c.B == machine })
	return y
}

// P5.14
func TestBlamedMachines(t *testing.T) {
	var many [api.MaxMachines + 1]int
	yards(func(y api.Yard, d *dice) {
		f := learn(t, y)
		if f.machines > f.fewest || (f.machines == 0) != (f.fewest == 0) || (len(f.blamed) == 0) != (f.machines == 0) || len(f.blamed) < f.machines || !slices.IsSorted(f.blamed) {
			t.Errorf("%+v: %+v", y, f)
		}
		for i := range y.Machines {
			n, e := checks.Machines(without(y, i))
			if e != api.OK || slices.Contains(f.blamed, i) != (n == f.machines-1) {
				t.Errorf("%+v: Blamed = %v, without %d Machines is %d, not %d", y, f.blamed, i, n, f.machines)
			}
		}
		many[f.machines]++
	})
	if many[0] < 100 || many[1] < 100 || many[2] < 20 {
		t.Errorf("so many yards have so many machines: %v", many)
	}
}

// P5.15
func TestMoved(t *testing.T) {
	moves := 0
	yards(func(y api.Yard, d *dice) {
		f := learn(t, y)
		for _, by := range []int{-7, -1, 1, 2, 30, 60} {
			w, g := clone(y), f
			g.errors = slices.Clone(f.errors)
			for i := range w.Machines {
				w.Machines[i].Low += by
				w.Machines[i].High += by
			}
			for i := range g.errors {
				g.errors[i].Low += by
				g.errors[i].High += by
			}
			if checks.Check(w) != api.OK {
				continue
			}
			moves++
			if is := learn(t, w); !is.equal(g) {
				t.Errorf("%+v: %+v, not %+v", w, is, g)
			}
		}
	})
	if moves < 500 {
		t.Errorf("only %d moves", moves)
	}
}

// P5.16
func TestOwnHasZero(t *testing.T) {
	d := &dice{11}
	found := 0
	for range 500 {
		m := d.machine()
		weight, minutes := d.upTo(60), d.upTo(100)
		load, e := levers.Load(m, weight, minutes)
		if e != api.OK || load.Low < 1 {
			continue
		}
		found++
		for _, nominal := range []int{load.Low, d.from(load), load.High} {
			if s, e := checks.Own(m, weight, minutes, nominal); e != api.OK || !inside(span(0, 0), s) {
				t.Errorf("%+v: Own of %v to %d = %v, %d", m, load, nominal, s, e)
			}
		}
	}
	if found < 300 {
		t.Errorf("only %d machines", found)
	}
}
