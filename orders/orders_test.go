package orders_test

import (
	"math"
	"slices"
	"testing"

	"shackle/api"
	"shackle/orders"
)

// goodOrders returns valid orders that are at the limits.
func goodOrders() []api.Order {
	return []api.Order{
		{},
		{Shackle: 9},
		example(), three(), full(),
		{Rates: []api.Rate{rate(0, 1, 0), rate(1, 99, 999), rate(2, 1, 0), rate(9997, 50, 5), rate(9998, 99, 999), rate(9999, 1, 0)}},
		{Rates: []api.Rate{rate(9999, 99, 999)}},
		{Ships: []api.Span{span(0, 9999), span(0, 0), span(9999, 9999)}},
		{Stocks: slices.Repeat([]api.Stock{stock(1, 1, 1)}, 7)},
		{Stocks: slices.Repeat([]api.Stock{stock(99, 999, 999)}, 7), Shackle: 9},
		{Stocks: []api.Stock{stock(5, 1, 999)}},
	}
}

// badSpans returns spans that are not within others.
func badSpans(low, high int) []api.Span {
	return []api.Span{span(low-1, high), span(low, high+1), span(low-1, low-1), span(high+1, high+1), span(low+1, low), span(high, high-1), span(math.MinInt, low), span(low, math.MaxInt), span(math.MaxInt, math.MinInt)}
}

// badOrders returns orders that differ from a valid one in one thing.
func badOrders() []api.Order {
	var l []api.Order
	bad := func(change func(o *api.Order)) { l = append(l, example(change), full(change)) }
	for i := range 3 {
		for _, n := range []int{math.MinInt, -1, 10000, math.MaxInt} {
			bad(func(o *api.Order) { o.Rates[i].Tons = n })
		}
		for _, n := range []int{math.MinInt, -1, 0, 100, math.MaxInt} {
			bad(func(o *api.Order) { o.Rates[i].Size = n })
		}
		for _, n := range []int{math.MinInt, -1, 1000, math.MaxInt} {
			bad(func(o *api.Order) { o.Rates[i].Long = n })
		}
	}
	for i := range 2 {
		bad(func(o *api.Order) { o.Rates[i+1].Tons = o.Rates[i].Tons })
		bad(func(o *api.Order) { o.Rates[i+1].Tons = o.Rates[i].Tons - 1 })
		for _, s := range badSpans(0, 9999) {
			bad(func(o *api.Order) { o.Ships[i] = s })
		}
	}
	for i := range 5 {
		for _, n := range []int{math.MinInt, -1, 0, 100, math.MaxInt} {
			bad(func(o *api.Order) { o.Stocks[i].Size = n })
		}
		for _, s := range badSpans(1, 999) {
			bad(func(o *api.Order) { o.Stocks[i].Long = s })
		}
	}
	for _, n := range []int{math.MinInt, -1, 10, math.MaxInt} {
		bad(func(o *api.Order) { o.Shackle = n })
	}
	bad(func(o *api.Order) {
		o.Rates = nil
		for tons := range 7 {
			o.Rates = append(o.Rates, rate(tons, 1, 0))
		}
	})
	bad(func(o *api.Order) { o.Ships = slices.Repeat(o.Ships[:1], 4) })
	bad(func(o *api.Order) { o.Stocks = slices.Repeat(o.Stocks[:1], 8) })
	bad(func(o *api.Order) { o.Stocks = slices.Repeat(o.Stocks[:1], 100) })
	return l
}

// badPlans returns lists that are no plans of an order.
func badPlans(o api.Order) [][]int {
	n := len(o.Stocks)
	l := [][]int{slices.Repeat([]int{-1}, n+1), slices.Repeat([]int{-1}, 1000)}
	if n > 0 {
		l = append(l, nil, slices.Repeat([]int{-1}, n-1))
	}
	for i := range n {
		for _, ship := range []int{math.MinInt, -2, len(o.Ships), len(o.Ships) + 1, math.MaxInt} {
			plan := slices.Repeat([]int{-1}, n)
			plan[i] = ship
			l = append(l, plan)
		}
	}
	return l
}

// answer is what any of the functions returns, for tests of errors.
type answer struct {
	name  string
	e     api.Errno
	empty bool
}

func ofShip(o api.Order, ship int) []answer {
	size, long, e := orders.Needs(o, ship)
	return []answer{{"Needs", e, size == span(0, 0) && long == span(0, 0)}}
}

func ofPlan(o api.Order, plan []int) []answer {
	n, e := orders.Makes(o, plan)
	return []answer{{"Makes", e, n == 0}}
}

// ofSure returns what the functions say that need a plan which surely makes the order.
func ofSure(o api.Order) []answer {
	fewest, e := orders.Fewest(o)
	plan, f := orders.Plan(o)
	needed, g := orders.Needed(o)
	left, h := orders.Left(o)
	return []answer{{"Fewest", e, fewest == 0}, {"Plan", f, len(plan) == 0}, {"Needed", g, len(needed) == 0}, {"Left", h, left == 0}}
}

func ofCould(o api.Order) []answer {
	n, e := orders.Could(o)
	return []answer{{"Could", e, n == 0}}
}

func ofAlone(o api.Order) []answer {
	l, e := orders.Alone(o)
	return []answer{{"Alone", e, len(l) == 0}}
}

func ofSize(o api.Order, size int) []answer {
	n, e := orders.Buy(o, size)
	return []answer{{"Buy", e, n == 0}}
}

// mustAll demands an error, and nothing beside it.
func mustAll(t *testing.T, o api.Order, l []answer, want api.Errno) {
	t.Helper()
	for _, a := range l {
		if a.e != want || want != api.OK && !a.empty {
			t.Errorf("%+v: %+v, not %d", o, a, want)
		}
	}
}

// P8.1, R1, R2, R5, R7: ErrOrder comes first, whatever the other arguments are.
func TestErrOrder(t *testing.T) {
	for _, o := range goodOrders() {
		if e := orders.Check(o); e != api.OK {
			t.Errorf("Check(%+v) = %d", o, e)
		}
	}
	for _, o := range badOrders() {
		if e := orders.Check(o); e != api.ErrOrder {
			t.Errorf("Check(%+v) = %d", o, e)
		}
		for _, n := range []int{-1, 0, 1, 9, 100} {
			mustAll(t, o, slices.Concat(ofShip(o, n), ofSize(o, n)), api.ErrOrder)
		}
		for _, plan := range [][]int{nil, {0}, {0, 0, 1, 1, -1}, {0, 0, 1, 1, -1, -1, -1}, {-2}} {
			mustAll(t, o, ofPlan(o, plan), api.ErrOrder)
		}
		mustAll(t, o, slices.Concat(ofSure(o), ofCould(o), ofAlone(o)), api.ErrOrder)
	}
}

// R1, R2: ErrArg comes before ErrNone, and whether there is a plan or not.
func TestErrArg(t *testing.T) {
	for _, o := range append(goodOrders(), plain(30, 1), either()) {
		for _, ship := range []int{math.MinInt, -1, len(o.Ships), len(o.Ships) + 1, math.MaxInt} {
			mustAll(t, o, ofShip(o, ship), api.ErrArg)
		}
		for ship := range o.Ships {
			if _, _, e := orders.Needs(o, ship); e != api.OK {
				t.Errorf("%+v: Needs of %d: %d", o, ship, e)
			}
		}
		for _, plan := range badPlans(o) {
			mustAll(t, o, ofPlan(o, plan), api.ErrArg)
		}
		mustAll(t, o, ofPlan(o, slices.Repeat([]int{len(o.Ships) - 1}, len(o.Stocks))), api.OK)
		for _, size := range []int{math.MinInt, -1, 0, 100, math.MaxInt} {
			mustAll(t, o, ofSize(o, size), api.ErrArg)
		}
		for _, size := range []int{1, 99} {
			if _, e := orders.Buy(o, size); e == api.ErrArg {
				t.Errorf("%+v: Buy of %d: %d", o, size, e)
			}
		}
	}
}

// R2, P8.4 to P8.10: which functions need a plan, and of what kind. Alone, Needs and Makes need none.
func TestErrNone(t *testing.T) {
	few := plain(50, 1, stock(10, 24, 26), stock(10, 24, 25)) // can make the order, not surely
	for _, o := range []api.Order{few, three(), plain(30, 1), plain(30, 1, stock(9, 40, 40))} {
		mustAll(t, o, ofSure(o), api.ErrNone)
		mustAll(t, o, slices.Concat(ofPlan(o, slices.Repeat([]int{0}, len(o.Stocks))), ofShip(o, 0), ofAlone(o)), api.OK)
	}
	if n, e := orders.Could(few); n != 2 || e != api.OK {
		t.Errorf("Could = %d, %d", n, e)
	}
	for _, o := range []api.Order{three(), plain(30, 1), plain(53, 1, few.Stocks...)} {
		mustAll(t, o, ofCould(o), api.ErrNone)
	}
	for _, size := range []int{1, 12, 13} {
		mustAll(t, three(), ofSize(three(), size), api.ErrNone)
	}
	two := api.Order{Rates: []api.Rate{rate(0, 10, 1)}, Ships: []api.Span{span(7, 7), span(7, 7)}}
	mustAll(t, two, ofSize(two, 99), api.ErrNone)
}

// The chapter's examples.
func TestExamples(t *testing.T) {
	for ship, want := range [][2]api.Span{{span(10, 12), span(30, 50)}, {span(14, 14), span(70, 70)}} {
		size, long, e := orders.Needs(example(), ship)
		if size != want[0] || long != want[1] || e != api.OK {
			t.Errorf("Needs of %d = %v, %v, %d", ship, size, long, e)
		}
	}
	for i, x := range []struct {
		plan []int
		want int
	}{{[]int{0, 0, 1, 1, -1}, api.Surely}, {[]int{0, -1, 1, 1, -1}, api.Perhaps}, {[]int{-1, -1, 1, 1, -1}, api.Never}} {
		if n, e := orders.Makes(example(), x.plan); n != x.want || e != api.OK {
			t.Errorf("%d: Makes of %v = %d, %d", i, x.plan, n, e)
		}
	}
	for _, x := range []struct {
		name string
		f    func(api.Order) (int, api.Errno)
		want int
	}{{"Fewest", orders.Fewest, 4}, {"Could", orders.Could, 3}, {"Left", orders.Left, 10}} {
		if n, e := x.f(example()); n != x.want || e != api.OK {
			t.Errorf("%s = %d, %d", x.name, n, e)
		}
	}
	for _, x := range []struct {
		name string
		f    func(api.Order) ([]int, api.Errno)
		o    api.Order
		want []int
	}{{"Plan", orders.Plan, example(), []int{0, 0, 1, 1, -1}}, {"Needed", orders.Needed, example(), []int{0, 1, 2, 3}}, {"Alone", orders.Alone, example(), nil}, {"Alone of Q", orders.Alone, three(), nil}} {
		if l, e := x.f(x.o); !slices.Equal(l, x.want) || e != api.OK {
			t.Errorf("%s = %v, %d", x.name, l, e)
		}
	}
	for i, x := range []struct {
		o          api.Order
		size, want int
		e          api.Errno
	}{{example(), 14, 0, api.OK}, {three(), 14, 59, api.OK}, {three(), 12, 0, api.ErrNone}} {
		if n, e := orders.Buy(x.o, x.size); n != x.want || e != x.e {
			t.Errorf("%d: Buy = %d, %d", i, n, e)
		}
	}
	if n, e := orders.Fewest(three()); n != 0 || e != api.ErrNone {
		t.Errorf("Fewest of Q = %d, %d", n, e)
	}
}

// P8.2 to P8.10: each function says what the model says.
func TestModel(t *testing.T) {
	made, could, nones, bought, alone := 0, 0, 0, 0, 0
	yards(func(o api.Order, d *dice) {
		f := ask(t, o)
		switch {
		case f.fewest > 0:
			made++
		case f.fewest == none && f.could != none:
			could++
		case f.could == none:
			nones++
		}
		if slices.Max(f.buy) > 1 {
			bought++
		}
		alone += len(f.alone)
	})
	if made < 40 || could < 20 || nones < 40 || bought < 40 || alone < 40 {
		t.Errorf("only %d orders are made, %d could be, %d not; %d if something is bought; %d ships are alone", made, could, nones, bought, alone)
	}
}

// R7: orders with as many rates, ships and stocks as there can be.
func TestFull(t *testing.T) {
	if f := ask(t, full()); f.fewest != 6 || f.could != 5 {
		t.Errorf("%v", f)
	}
	rich := full(func(o *api.Order) { o.Stocks[5] = stock(5, 9, 9) })
	if f := ask(t, rich); f.fewest != 5 || len(f.needed) == 5 {
		t.Errorf("%v", f)
	}
	poor := full(func(o *api.Order) { o.Ships[1] = span(8, 8) })
	if f := ask(t, poor); f.fewest != none || slices.Max(f.buy) < 2 {
		t.Errorf("%v", f)
	}
}

// P8.3: size and length are those of one and the same tonnage, though Needs tells only their bounds.
func TestEitherNeed(t *testing.T) {
	for i, x := range []struct {
		s    api.Stock
		want int
	}{
		{stock(12, 30, 31), api.Surely}, {stock(12, 29, 30), api.Perhaps}, {stock(12, 10, 29), api.Perhaps}, {stock(12, 9, 9), api.Never}, {stock(11, 30, 30), api.Perhaps}, {stock(11, 10, 29), api.Never}, {stock(8, 29, 30), api.Perhaps}, {stock(7, 30, 30), api.Never},
	} {
		if n, e := orders.Makes(either(x.s), []int{0}); n != x.want || e != api.OK {
			t.Errorf("%d: Makes with %v = %d, %d", i, x.s, n, e)
		}
	}
	if size, long, e := orders.Needs(either(), 0); size != span(8, 12) || long != span(10, 30) || e != api.OK {
		t.Errorf("Needs = %v, %v, %d", size, long, e)
	}
}

// P8.3: nothing is asked of the size of no stocks, but a length is; and stocks of a size that is too small are never
// enough, even if no length is needed.
func TestNoStocks(t *testing.T) {
	for i, x := range []struct {
		o    api.Order
		plan []int
		want int
	}{
		{api.Order{}, nil, api.Surely}, {plain(0, 9), nil, api.Surely}, {plain(1, 9), nil, api.Never}, {plain(0, 0, stock(9, 5, 5)), []int{0}, api.Never}, {plain(0, 0, stock(9, 5, 5)), []int{-1}, api.Surely}, {plain(0, 0, stock(10, 5, 5)), []int{0}, api.Surely}, {plain(0, 0, stock(10, 5, 5), stock(11, 5, 5)), []int{0, 0}, api.Never},
		{api.Order{Ships: []api.Span{span(3, 4)}, Rates: []api.Rate{rate(4, 5, 1)}}, nil, api.Perhaps}, {api.Order{Ships: []api.Span{span(3, 4)}, Rates: []api.Rate{rate(4, 5, 0)}}, nil, api.Surely},
		{api.Order{Stocks: []api.Stock{stock(9, 5, 5)}}, []int{-1}, api.Surely},
	} {
		if n, e := orders.Makes(x.o, x.plan); n != x.want || e != api.OK {
			t.Errorf("%d: Makes = %d, %d", i, n, e)
		}
	}
}

// P8.3: a shackle joins each stock to the one before it.
func TestShackles(t *testing.T) {
	three := []api.Stock{stock(10, 24, 26), stock(12, 9, 9), stock(10, 24, 25), stock(10, 3, 3)}
	for shackle := range api.MaxShackle + 1 {
		for _, x := range []struct {
			plan      []int
			low, high int
		}{{[]int{0, -1, -1, -1}, 24, 26}, {[]int{0, -1, 0, -1}, 48 + shackle, 51 + shackle}, {[]int{0, -1, 0, 0}, 51 + 2*shackle, 54 + 2*shackle}} {
			for long := x.low - 1; long <= x.high+1; long++ {
				want := api.Perhaps
				if long <= x.low {
					want = api.Surely
				}
				if long > x.high {
					want = api.Never
				}
				if n, e := orders.Makes(plain(long, shackle, three...), x.plan); n != want || e != api.OK {
					t.Errorf("the shackle %d, the length %d: Makes of %v = %d, %d", shackle, long, x.plan, n, e)
				}
			}
		}
	}
}

// P8.10: the stock that is bought counts also if there are MaxStocks already, and can be as long as MaxFathoms.
func TestBuy(t *testing.T) {
	seven := slices.Repeat([]api.Stock{stock(10, 7, 9)}, api.MaxStocks)
	for i, x := range []struct {
		o          api.Order
		size, want int
		e          api.Errno
	}{
		{plain(61, 2, seven...), 10, 0, api.OK}, {plain(62, 2, seven...), 10, 1, api.OK}, {plain(64, 2, seven...), 10, 1, api.OK}, {plain(65, 2, seven...), 10, 2, api.OK}, {plain(999, 0, seven...), 10, 950, api.OK}, {plain(999, 0, seven...), 11, 999, api.OK}, {plain(999, 0, seven...), 9, 0, api.ErrNone},
		{plain(999, 9), 10, 999, api.OK}, {plain(999, 9, stock(10, 989, 999)), 10, 1, api.OK}, {plain(999, 9, stock(10, 988, 999)), 10, 2, api.OK}, {plain(20, 9, stock(10, 19, 19)), 10, 1, api.OK},
		{plain(999, 9, stock(9, 999, 999)), 9, 0, api.ErrNone}, {plain(0, 9), 1, 0, api.OK},
	} {
		if n, e := orders.Buy(x.o, x.size); n != x.want || e != x.e {
			t.Errorf("%d: Buy = %d, %d", i, n, e)
		}
	}
}

// P1: no argument makes a function panic.
func TestAnyArguments(t *testing.T) {
	wild := slices.Concat(badOrders(), goodOrders(), edges()[:12])
	wild = append(wild, api.Order{Rates: make([]api.Rate, 1000), Ships: make([]api.Span, 1000), Stocks: make([]api.Stock, 1000), Shackle: math.MinInt})
	for _, o := range wild {
		orders.Check(o)
		ofSure(o)
		ofCould(o)
		ofAlone(o)
		for _, plan := range badPlans(example()) {
			ofPlan(o, plan)
		}
		for _, n := range []int{math.MinInt, -1, 0, 1, 3, 99, 100, math.MaxInt} {
			ofShip(o, n)
			ofSize(o, n)
			ofPlan(o, []int{n})
		}
	}
}

// R3: a list that is nil and one that is empty are the same.
func TestNilAndEmpty(t *testing.T) {
	with := func(o api.Order, change func(o *api.Order)) (api.Order, api.Order) {
		w := clone(o)
		change(&w)
		return o, w
	}
	try := func(a, b api.Order) {
		t.Helper()
		f, g := ask(t, a), ask(t, b)
		if !f.equal(g) {
			t.Errorf("%+v: %v; %+v: %v", a, f, b, g)
		}
	}
	try(with(api.Order{Ships: []api.Span{span(3, 5)}, Stocks: []api.Stock{stock(3, 4, 5)}}, func(o *api.Order) { o.Rates = []api.Rate{} }))
	try(with(api.Order{Rates: []api.Rate{rate(1, 2, 3)}, Stocks: []api.Stock{stock(3, 4, 5)}}, func(o *api.Order) { o.Ships = []api.Span{} }))
	try(with(plain(3, 1), func(o *api.Order) { o.Stocks = []api.Stock{} }))
	for _, o := range []api.Order{{}, plain(0, 1), {Stocks: []api.Stock{}}} {
		for _, plan := range [][]int{nil, {}} {
			if n, e := orders.Makes(o, plan); n != api.Surely || e != api.OK {
				t.Errorf("%+v: Makes = %d, %d", o, n, e)
			}
		}
	}
}

// R4: no argument is changed, and a list that is returned is new.
func TestMemory(t *testing.T) {
	for _, o := range append(edges(), full()) {
		// Room behind each list shows what is written there.
		o.Rates = append(slices.Clone(o.Rates), rate(7, 8, 9))[:len(o.Rates)]
		o.Ships = append(slices.Clone(o.Ships), span(7, 8))[:len(o.Ships)]
		o.Stocks = append(slices.Clone(o.Stocks), stock(7, 8, 9))[:len(o.Stocks)]
		whole := func() api.Order {
			return clone(api.Order{Rates: o.Rates[:len(o.Rates)+1], Ships: o.Ships[:len(o.Ships)+1], Stocks: o.Stocks[:len(o.Stocks)+1], Shackle: o.Shackle})
		}
		before := whole()
		plan := append(slices.Repeat([]int{-1}, len(o.Stocks)), 77)
		was := slices.Clone(plan)
		orders.Check(o)
		ofSure(o)
		ofCould(o)
		ofAlone(o)
		ofShip(o, 0)
		ofSize(o, 10)
		ofPlan(o, plan[:len(o.Stocks)])
		if after := whole(); !equal(after, before) || !slices.Equal(plan, was) {
			t.Errorf("%+v became %+v; the plan %v", before, after, plan)
		}
	}
	poor := example(func(o *api.Order) { o.Rates[2].Long = 90 })
	for name, f := range map[string]func() ([]int, api.Errno){
		"Plan":   func() ([]int, api.Errno) { return orders.Plan(example()) },
		"Needed": func() ([]int, api.Errno) { return orders.Needed(example()) },
		"Alone":  func() ([]int, api.Errno) { return orders.Alone(poor) },
	} {
		a, e := f()
		b, g := f()
		for i := range a {
			a[i] = 77
		}
		if e != api.OK || g != api.OK || len(a) == 0 || slices.Contains(b, 77) {
			t.Errorf("%s = %v, %d and %v, %d", name, a, e, b, g)
		}
	}
}
