package orders_test

import (
	"slices"
	"testing"

	"shackle/api"
	"shackle/orders"
)

// notMore reports whether a number is not greater than another one; none is greater than any number.
func notMore(a, b int) bool { return b == none || a != none && a <= b }

// notLess reports whether what is left is not less than something else; if there is no plan, nothing is less.
func notLess(a, b int) bool { return a >= b }

func isAmong(list, all []int) bool {
	return !slices.ContainsFunc(list, func(n int) bool { return !slices.Contains(all, n) })
}

func isIn(n int, s api.Span) bool { return s.Low <= n && n <= s.High }

// makes returns what Makes says of a plan.
func makes(t *testing.T, o api.Order, plan []int) int {
	t.Helper()
	n, e := orders.Makes(o, plan)
	if e != api.OK {
		t.Fatalf("%+v: Makes of %v: %d", o, plan, e)
	}
	return n
}

// P8.11
func TestEachTruth(t *testing.T) {
	made, not := 0, 0
	yards(func(o api.Order, d *dice) {
		m, f := modelOf(o), learn(t, o)
		for _, tons := range m.tons {
			for ship, n := range tons {
				if size, long := m.needs(n); !isIn(size, f.needs[ship][0]) || !isIn(long, f.needs[ship][1]) {
					t.Errorf("%+v: a ship %d of %d tons needs %d, %d; Needs = %v", o, ship, n, size, long, f.needs[ship])
				}
			}
			for _, longs := range m.longs {
				for i, plan := range m.plans {
					is := m.makesIn(plan, tons, longs)
					if is && f.makes[i] == api.Never || !is && f.makes[i] == api.Surely {
						t.Errorf("%+v: with %v, %v the plan %v makes the order: %t; Makes = %d", o, tons, longs, plan, is, f.makes[i])
					}
					if is {
						made++
					} else {
						not++
					}
				}
			}
		}
	})
	if made < 1000 || not < 1000 {
		t.Errorf("only %d times a plan makes the order, %d times it does not", made, not)
	}
}

// P8.12
func TestOneMoreStock(t *testing.T) {
	fewer, more, gained := 0, 0, 0
	yards(func(o api.Order, d *dice) {
		f := learn(t, o)
		some := around(o)
		for _, s := range []api.Stock{some[d.upTo(len(some))], stock(99, 999, 999)} {
			w := clone(o)
			w.Stocks = append(w.Stocks, s)
			for i, plan := range modelPlans(o) {
				if n := makes(t, w, append(slices.Clone(plan), -1)); n != f.makes[i] {
					t.Errorf("%+v: Makes of %v = %d, and %d with %v", o, plan, f.makes[i], n, s)
				}
			}
			g := learn(t, w)
			if !notMore(g.fewest, f.fewest) || !notMore(g.could, f.could) || !notLess(g.left, f.left) || !isAmong(g.alone, f.alone) {
				t.Errorf("%+v: %v; with %v: %v", o, f, s, g)
			}
			switch {
			case f.fewest == none && g.fewest != none:
				gained++
			case g.fewest < f.fewest:
				fewer++
			}
			if g.left > f.left {
				more++
			}
		}
	})
	if fewer < 20 || more < 100 || gained < 100 {
		t.Errorf("only %d times fewer are used, %d times more is left, %d orders can be made then", fewer, more, gained)
	}
}

// P8.13
func TestBetterKnown(t *testing.T) {
	fewer, told := 0, 0
	yards(func(o api.Order, d *dice) {
		f := learn(t, o)
		for _, w := range known(o, d) {
			g := learn(t, w)
			for i := range f.makes {
				if f.makes[i] != api.Perhaps && g.makes[i] != f.makes[i] {
					t.Errorf("%+v: Makes of %v = %d; %+v: %d", o, modelPlans(o)[i], f.makes[i], w, g.makes[i])
				}
				if f.makes[i] != g.makes[i] {
					told++
				}
			}
			if !notMore(g.fewest, f.fewest) || !notMore(f.could, g.could) || !isAmong(g.alone, f.alone) {
				t.Errorf("%+v: %v; %+v: %v", o, f, w, g)
			}
			if f.fewest != g.fewest {
				fewer++
			}
		}
	})
	if fewer < 50 || told < 100 {
		t.Errorf("only %d times Fewest was another one, %d times Makes", fewer, told)
	}
}

// exactly returns an order as it is in one of its truths.
func exactly(o api.Order, d *dice) api.Order {
	w := clone(o)
	for i, s := range w.Ships {
		n := d.from(s)
		w.Ships[i] = span(n, n)
	}
	for i, s := range w.Stocks {
		n := d.from(s.Long)
		w.Stocks[i].Long = span(n, n)
	}
	return w
}

// P8.14
func TestTheFewest(t *testing.T) {
	planned, less := 0, 0
	yards(func(o api.Order, d *dice) {
		f := learn(t, o)
		if !notMore(f.could, f.fewest) {
			t.Errorf("%+v: %v", o, f)
		}
		if f.could != f.fewest {
			less++
		}
		w := exactly(o, d)
		if g := learn(t, w); g.could != g.fewest {
			t.Errorf("%+v: %v", w, g)
		}
		plan, e := orders.Plan(o)
		if f.fewest == none {
			if len(plan) > 0 || e != api.ErrNone {
				t.Errorf("%+v: Plan = %v, %d", o, plan, e)
			}
			return
		}
		planned += len(f.needed)
		isUnused := func(i int) bool { return plan[i] < 0 }
		if e != api.OK || used(plan) != f.fewest || makes(t, o, plan) != api.Surely || slices.ContainsFunc(f.needed, isUnused) {
			t.Errorf("%+v: Plan = %v, %d; %v", o, plan, e, f)
		}
	})
	if planned < 50 || less < 50 {
		t.Errorf("only %d stocks are needed; %d orders can be made with fewer", planned, less)
	}
}

// P8.15
func TestOneShipLess(t *testing.T) {
	fewer, more, alone := 0, 0, 0
	yards(func(o api.Order, d *dice) {
		f := learn(t, o)
		if len(f.alone) > 0 {
			alone++
			if plan, e := orders.Plan(o); len(plan) > 0 || e != api.ErrNone {
				t.Errorf("%+v: Plan = %v, %d; %v", o, plan, e, f)
			}
		}
		if len(o.Ships) == 0 {
			return
		}
		w := clone(o)
		w.Ships = w.Ships[:len(o.Ships)-1]
		g := learn(t, w)
		if !notMore(g.fewest, f.fewest) || !notMore(g.could, f.could) || !notLess(g.left, f.left) {
			t.Errorf("%+v: %v; without the last ship: %v", o, f, g)
		}
		if f.fewest != g.fewest {
			fewer++
		}
		if f.left < g.left {
			more++
		}
	})
	if fewer < 50 || more < 50 || alone < 50 {
		t.Errorf("only %d times fewer are used, %d times more is left; %d orders have a ship alone", fewer, more, alone)
	}
}

// P8.16
func TestAnyOrder(t *testing.T) {
	tried := 0
	yards(func(o api.Order, d *dice) {
		f := learn(t, o)
		for range 3 {
			w := swapped(o, d)
			g := learn(t, w)
			if f.fewest != g.fewest || f.could != g.could || f.left != g.left || !slices.Equal(f.buy, g.buy) {
				t.Errorf("%+v: %v; %+v: %v", o, f, w, g)
			}
			if !equal(o, w) {
				tried++
			}
		}
	})
	if tried < 500 {
		t.Errorf("only %d other orders", tried)
	}
}

// isPlanned reports whether there is a Plan with one more stock.
func isPlanned(t *testing.T, o api.Order, s api.Stock) bool {
	t.Helper()
	o.Stocks = append(slices.Clone(o.Stocks), s)
	_, e := orders.Plan(o)
	if e != api.OK && e != api.ErrNone {
		t.Fatalf("%+v: Plan: %d", o, e)
	}
	return e == api.OK
}

// P8.17
func TestWhatIsBought(t *testing.T) {
	bought, nones := 0, 0
	yards(func(o api.Order, d *dice) {
		_, e := orders.Plan(o)
		for _, size := range sizes(o) {
			n := buy(t, o, size)
			if (n == 0) != (e == api.OK) {
				t.Errorf("%+v: Buy of %d = %d, Plan: %d", o, size, n, e)
			}
			if n == 0 {
				continue
			}
			if n == none {
				nones++
				if isPlanned(t, o, stock(size, api.MaxFathoms, api.MaxFathoms)) {
					t.Errorf("%+v: Buy of %d: ErrNone, though there is a plan", o, size)
				}
				continue
			}
			bought++
			for _, long := range []int{n, n + 1, n + 1 + d.upTo(30), api.MaxFathoms} {
				if long = min(long, api.MaxFathoms); !isPlanned(t, o, stock(size, long, long)) {
					t.Errorf("%+v: Buy of %d = %d, with %d there is no plan", o, size, n, long)
				}
			}
			if n > 1 && isPlanned(t, o, stock(size, n-1, n-1)) {
				t.Errorf("%+v: Buy of %d = %d, with one less there is a plan", o, size, n)
			}
		}
	})
	if bought < 300 || nones < 300 {
		t.Errorf("only %d times it is bought, %d times nothing is enough", bought, nones)
	}
}
