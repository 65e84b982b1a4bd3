package orders_test

import (
	"fmt"
	"slices"
	"testing"

	"shackle/api"
	"shackle/orders"
)

// These tests see only what package orders exports. What they expect is from a model that tries all tonnages, all
// lengths, and all plans, just as the document defines it.

func span(low, high int) api.Span { return api.Span{Low: low, High: high} }

func rate(tons, size, long int) api.Rate { return api.Rate{Tons: tons, Size: size, Long: long} }

func stock(size, low, high int) api.Stock { return api.Stock{Size: size, Long: span(low, high)} }

// example is O of the chapter's examples, with changes.
func example(changes ...func(o *api.Order)) api.Order {
	o := api.Order{
		Rates:   []api.Rate{rate(0, 10, 30), rate(200, 12, 50), rate(500, 14, 70)},
		Ships:   []api.Span{span(150, 210), span(600, 600)},
		Stocks:  []api.Stock{stock(12, 30, 31), stock(12, 25, 25), stock(14, 40, 42), stock(14, 29, 30), stock(14, 10, 10)},
		Shackle: 1,
	}
	for _, change := range changes {
		change(&o)
	}
	return o
}

// three is Q of the chapter's examples.
func three() api.Order {
	return example(func(o *api.Order) { o.Ships = append(o.Ships, span(600, 600)) })
}

// clone returns an order that shares no memory with o.
func clone(o api.Order) api.Order {
	o.Rates, o.Ships, o.Stocks = slices.Clone(o.Rates), slices.Clone(o.Ships), slices.Clone(o.Stocks)
	return o
}

func equal(a, b api.Order) bool {
	return slices.Equal(a.Rates, b.Rates) && slices.Equal(a.Ships, b.Ships) && slices.Equal(a.Stocks, b.Stocks) && a.Shackle == b.Shackle
}

// choices returns all lists that have a number of each span.
func choices(spans []api.Span) [][]int {
	all := [][]int{nil}
	for _, s := range spans {
		var longer [][]int
		for _, c := range all {
			for n := s.Low; n <= s.High; n++ {
				longer = append(longer, append(slices.Clone(c), n))
			}
		}
		all = longer
	}
	return all
}

func modelPlans(o api.Order) [][]int {
	return choices(slices.Repeat([]api.Span{span(-1, len(o.Ships)-1)}, len(o.Stocks)))
}

func used(plan []int) int {
	n := 0
	for _, ship := range plan {
		if ship >= 0 {
			n++
		}
	}
	return n
}

// model is an order, and what there can be in its truths and plans.
type model struct {
	api.Order
	tons, longs, plans [][]int
}

func modelOf(o api.Order) model {
	var longs []api.Span
	for _, s := range o.Stocks {
		longs = append(longs, s.Long)
	}
	return model{o, choices(o.Ships), choices(longs), modelPlans(o)}
}

// needs returns the size and the length that a ship of some tonnage needs.
func (m model) needs(tons int) (size, long int) {
	for i := len(m.Rates) - 1; i >= 0; i-- {
		if m.Rates[i].Tons <= tons {
			return m.Rates[i].Size, m.Rates[i].Long
		}
	}
	return 0, 0
}

// makesIn reports whether a plan makes the order in a truth.
func (m model) makesIn(plan, tons, longs []int) bool {
	for ship, t := range tons {
		size, long := m.needs(t)
		together, last := 0, -1
		for i, to := range plan {
			if to != ship {
				continue
			}
			if last >= 0 && m.Stocks[i].Size != m.Stocks[last].Size || m.Stocks[i].Size < size {
				return false
			}
			if last >= 0 {
				together += m.Shackle
			}
			together += longs[i]
			last = i
		}
		if together < long {
			return false
		}
	}
	return true
}

func (m model) makes(plan []int) int {
	made, not := false, false
	for _, tons := range m.tons {
		for _, longs := range m.longs {
			if m.makesIn(plan, tons, longs) {
				made = true
			} else {
				not = true
			}
			if made && not {
				return api.Perhaps
			}
		}
	}
	if not {
		return api.Never
	}
	return api.Surely
}

// isSure reports whether a plan makes the order in each truth.
func (m model) isSure(plan []int) bool {
	for _, tons := range m.tons {
		for _, longs := range m.longs {
			if !m.makesIn(plan, tons, longs) {
				return false
			}
		}
	}
	return true
}

const none = -1 // stands for a number that is not there

// facts is what is so of an order. If no plan surely makes it, fewest and left are none, and needed is empty.
type facts struct {
	needs               [][2]api.Span // of each ship: the size and the length
	makes               []int         // of each plan
	fewest, could, left int
	needed, alone       []int
	buy                 []int // of each size that is tried
}

// String leaves out makes, of which there can be thousands, but for how many there are of each kind.
func (f facts) String() string {
	var many [api.Perhaps + 1]int
	for _, n := range f.makes {
		many[n]++
	}
	return fmt.Sprintf("needs %v, makes %v, fewest %d, could %d, left %d, needed %v, alone %v, buy %v", f.needs, many[1:], f.fewest, f.could, f.left, f.needed, f.alone, f.buy)
}

func (f facts) equal(g facts) bool {
	return slices.Equal(f.needs, g.needs) && slices.Equal(f.makes, g.makes) && f.fewest == g.fewest && f.could == g.could && f.left == g.left &&
		slices.Equal(f.needed, g.needed) && slices.Equal(f.alone, g.alone) && slices.Equal(f.buy, g.buy)
}

// sizes returns the sizes that are tried to be bought.
func sizes(o api.Order) []int {
	l := []int{1, api.MaxSize}
	for _, r := range o.Rates {
		l = append(l, r.Size)
	}
	for _, s := range o.Stocks {
		l = append(l, s.Size)
	}
	slices.Sort(l)
	return slices.Compact(l)
}

func (m model) modelNeeds() [][2]api.Span {
	var l [][2]api.Span
	for _, s := range m.Ships {
		var sizes, longs []int
		for t := s.Low; t <= s.High; t++ {
			size, long := m.needs(t)
			sizes, longs = append(sizes, size), append(longs, long)
		}
		l = append(l, [2]api.Span{span(slices.Min(sizes), slices.Max(sizes)), span(slices.Min(longs), slices.Max(longs))})
	}
	return l
}

func modelFacts(o api.Order) facts {
	m := modelOf(o)
	f := facts{needs: m.modelNeeds(), fewest: none, could: none, left: none}
	for _, plan := range m.plans {
		n := m.makes(plan)
		f.makes = append(f.makes, n)
		if n != api.Never && (f.could == none || used(plan) < f.could) {
			f.could = used(plan)
		}
		if n != api.Surely {
			continue
		}
		if f.fewest == none || used(plan) < f.fewest {
			f.fewest = used(plan)
		}
		left := 0
		for i, to := range plan {
			if to < 0 {
				left += o.Stocks[i].Long.Low
			}
		}
		f.left = max(f.left, left)
	}
	for i := range o.Stocks {
		isSpared := func(n int) bool {
			return f.makes[n] == api.Surely && used(m.plans[n]) == f.fewest && m.plans[n][i] < 0
		}
		if f.fewest != none && !slices.ContainsFunc(numbers(len(m.plans)), isSpared) {
			f.needed = append(f.needed, i)
		}
	}
	for ship := range o.Ships {
		w := o
		w.Ships = o.Ships[ship : ship+1]
		one := modelOf(w)
		if !slices.ContainsFunc(one.plans, one.isSure) {
			f.alone = append(f.alone, ship)
		}
	}
	for _, size := range sizes(o) {
		f.buy = append(f.buy, modelBuy(m, size))
	}
	return f
}

// numbers returns the numbers below many.
func numbers(many int) []int {
	var l []int
	for n := range many {
		l = append(l, n)
	}
	return l
}

// modelBuy leaves out lengths that are longer than what any rate asks, but for the greatest one.
func modelBuy(m model, size int) int {
	if slices.ContainsFunc(m.plans, m.isSure) {
		return 0
	}
	greatest := 1
	for _, r := range m.Rates {
		greatest = max(greatest, r.Long)
	}
	w := m.Order
	w.Stocks = append(slices.Clone(w.Stocks), stock(size, 1, 1))
	plans := modelPlans(w)
	for _, long := range append(numbers(greatest + 1)[1:], api.MaxFathoms) {
		w.Stocks[len(m.Stocks)].Long = span(long, long)
		longer := model{w, m.tons, nil, plans}
		for _, l := range m.longs {
			longer.longs = append(longer.longs, append(slices.Clone(l), long))
		}
		if slices.ContainsFunc(plans, longer.isSure) {
			return long
		}
	}
	return none
}

// orNone returns none for ErrNone.
func orNone(t *testing.T, n int, e api.Errno) int {
	t.Helper()
	if e == api.ErrNone && n == 0 {
		return none
	}
	if e != api.OK {
		t.Errorf("%d, %d", n, e)
	}
	return n
}

func buy(t *testing.T, o api.Order, size int) int {
	t.Helper()
	n, e := orders.Buy(o, size)
	return orNone(t, n, e)
}

// learn returns the facts of an order as the functions say them.
func learn(t *testing.T, o api.Order) facts {
	t.Helper()
	var f facts
	if e := orders.Check(o); e != api.OK {
		t.Fatalf("Check(%+v) = %d", o, e)
	}
	for ship := range o.Ships {
		size, long, e := orders.Needs(o, ship)
		if e != api.OK {
			t.Errorf("%+v: Needs of %d: %d", o, ship, e)
		}
		f.needs = append(f.needs, [2]api.Span{size, long})
	}
	for _, plan := range modelPlans(o) {
		n, e := orders.Makes(o, plan)
		if e != api.OK {
			t.Errorf("%+v: Makes of %v: %d", o, plan, e)
		}
		f.makes = append(f.makes, n)
	}
	n, e := orders.Fewest(o)
	f.fewest = orNone(t, n, e)
	n, e = orders.Could(o)
	f.could = orNone(t, n, e)
	n, e = orders.Left(o)
	f.left = orNone(t, n, e)
	want := api.OK
	if f.fewest == none {
		want = api.ErrNone
	}
	var g api.Errno
	f.needed, e = orders.Needed(o)
	f.alone, g = orders.Alone(o)
	if e != want || g != api.OK {
		t.Errorf("%+v: Needed = %v, %d; Alone = %v, %d", o, f.needed, e, f.alone, g)
	}
	for _, size := range sizes(o) {
		f.buy = append(f.buy, buy(t, o, size))
	}
	return f
}

// ask holds each function of the package against what is so of an order.
func ask(t *testing.T, o api.Order) facts {
	t.Helper()
	want := modelFacts(o)
	if f := learn(t, o); !f.equal(want) {
		t.Errorf("%+v: %v, not %v", o, f, want)
	}
	plan, e := orders.Plan(o)
	if want.fewest == none {
		if len(plan) > 0 || e != api.ErrNone {
			t.Errorf("%+v: Plan = %v, %d", o, plan, e)
		}
		return want
	}
	if len(plan) != len(o.Stocks) || used(plan) != want.fewest || e != api.OK || !modelOf(o).isSure(plan) {
		t.Errorf("%+v: Plan = %v, %d, Fewest %d", o, plan, e, want.fewest)
	}
	return want
}
