package orders_test

import (
	"slices"

	"shackle/api"
)

// dice gives the same numbers in each run.
type dice struct{ state uint64 }

// upTo returns a number from 0 to n-1.
func (d *dice) upTo(n int) int {
	d.state = d.state*6364136223846793005 + 1442695040888963407
	return int(d.state>>33) % n
}

// from returns a number of a span.
func (d *dice) from(s api.Span) int { return s.Low + d.upTo(s.High-s.Low+1) }

// order returns a valid order with so many ships and stocks. What is asked by its rates is often, but not always, more
// for greater ships.
func (d *dice) order(ships, stocks int) api.Order {
	tons := []int{0, 200, api.MaxTons - 21}[d.upTo(3)]
	size := []int{1, 40, api.MaxSize - 2}[d.upTo(3)]
	o := api.Order{Shackle: d.upTo(4)}
	if d.upTo(8) == 0 {
		o.Shackle = d.upTo(api.MaxShackle + 1)
	}
	isSorted := d.upTo(3) > 0
	next := tons + d.upTo(5)
	for i := range d.upTo(6) {
		r := rate(next, size+d.upTo(3), d.upTo(14))
		if isSorted {
			r.Size, r.Long = size+i/2, 3*i+d.upTo(3)
		}
		o.Rates = append(o.Rates, r)
		next += 1 + d.upTo(4)
	}
	for range ships {
		low := tons + d.upTo(13)
		o.Ships = append(o.Ships, span(low, low+d.upTo(4)))
	}
	for range stocks {
		low := 1 + d.upTo(12)
		o.Stocks = append(o.Stocks, stock(size+d.upTo(3), low, low+d.upTo(3)))
	}
	return o
}

// yards calls f with some orders, and all the edges that the chapter names.
func yards(f func(o api.Order, d *dice)) {
	d := &dice{1}
	for _, o := range edges() {
		f(o, d)
	}
	for range 1000 {
		f(d.order(d.upTo(4), d.upTo(5)), d)
	}
	for range 20 {
		f(d.order(1, 5), d)
	}
}

// plain is an order of one ship that surely needs a length of the size 10.
func plain(long, shackle int, stocks ...api.Stock) api.Order {
	return api.Order{Rates: []api.Rate{rate(0, 10, long)}, Ships: []api.Span{span(5, 5)}, Stocks: stocks, Shackle: shackle}
}

// either is an order of one ship that needs a size of 12 and a length of 10, or of 8 and 30.
func either(stocks ...api.Stock) api.Order {
	return api.Order{Rates: []api.Rate{rate(10, 12, 10), rate(20, 8, 30)}, Ships: []api.Span{span(19, 20)}, Stocks: stocks}
}

// full is an order with as many rates, ships and stocks as there can be.
func full(changes ...func(o *api.Order)) api.Order {
	o := api.Order{
		Rates:   []api.Rate{rate(0, 5, 3), rate(4, 5, 9), rate(5, 5, 12), rate(7, 6, 12), rate(8, 6, 14), rate(9999, 99, 30)},
		Ships:   []api.Span{span(3, 4), span(6, 6), span(7, 7)},
		Stocks:  []api.Stock{stock(5, 4, 4), stock(5, 5, 6), stock(6, 8, 8), stock(5, 8, 8), stock(6, 4, 4), stock(5, 2, 2), stock(99, 1, 1)},
		Shackle: 2,
	}
	for _, change := range changes {
		change(&o)
	}
	return o
}

func edges() []api.Order {
	l := []api.Order{
		{},
		{Rates: []api.Rate{}, Ships: []api.Span{}, Stocks: []api.Stock{}, Shackle: 9},
		{Ships: []api.Span{span(0, 9), span(9999, 9999)}, Stocks: []api.Stock{stock(1, 1, 2), stock(99, 999, 999)}}, // no rates: nothing is needed
		{Rates: []api.Rate{rate(9999, 99, 999)}, Ships: []api.Span{span(9990, 9999), span(0, 9)}, Stocks: []api.Stock{stock(99, 999, 999), stock(99, 998, 999)}},
		{Rates: []api.Rate{rate(0, 99, 999)}, Ships: []api.Span{span(9990, 9999)}, Stocks: []api.Stock{stock(99, 980, 999), stock(99, 10, 19)}, Shackle: 9}, // all is at the limits
		{Rates: []api.Rate{rate(3, 2, 5), rate(5, 1, 0)}, Ships: []api.Span{span(0, 2), span(2, 3), span(4, 5)}, Stocks: []api.Stock{stock(1, 5, 5), stock(2, 4, 6)}},
		{Rates: []api.Rate{rate(0, 10, 5)}, Ships: []api.Span{span(7, 7), span(7, 7)}}, // one length is not enough for both
		{Rates: []api.Rate{rate(0, 10, 5)}, Ships: []api.Span{span(7, 7), span(7, 7)}, Stocks: []api.Stock{stock(10, 2, 2), stock(12, 2, 2)}},
		{Rates: []api.Rate{rate(0, 10, 4), rate(1, 10, 20)}, Ships: []api.Span{span(0, 0), span(1, 1)}, Stocks: []api.Stock{stock(10, 5, 5), stock(11, 19, 19)}}, // which one is lengthened makes a difference
		example(), three(), plain(0, 3), plain(0, 3, stock(9, 5, 5), stock(99, 1, 5)), plain(6, 1),
		plain(14, 0, stock(10, 8, 8), stock(11, 8, 8)), plain(14, 2, stock(10, 8, 8), stock(11, 8, 8)), plain(14, 2, stock(10, 6, 6), stock(10, 6, 7)),
		plain(14, 3, stock(10, 6, 6), stock(10, 6, 6)), plain(14, 1, stock(10, 6, 6), stock(10, 6, 6)), plain(15, 1, stock(9, 15, 15), stock(10, 14, 14), stock(11, 13, 15)),
		plain(9, 1, stock(10, 9, 9), stock(10, 9, 9), stock(10, 3, 3)), plain(9, 1, stock(10, 9, 9), stock(10, 4, 4), stock(10, 4, 4)), plain(9, 0, stock(10, 3, 3), stock(10, 4, 4), stock(12, 5, 5), stock(12, 5, 5), stock(12, 1, 1)),
		either(), either(stock(10, 10, 29)), either(stock(8, 30, 30)), either(stock(11, 29, 30)), either(stock(12, 9, 10)), either(stock(12, 10, 30)), either(stock(7, 30, 30)), either(stock(12, 30, 30), stock(8, 30, 30)), either(stock(8, 29, 30), stock(12, 9, 9), stock(12, 20, 21)),
	}
	for n := range 6 { // a shackle makes up for what is missing; the stock that is bought has at least the length 1
		l = append(l, plain(20, n, stock(10, 9, 9), stock(10, 8, 9)), plain(20, n, stock(10, 18, 18)), plain(20, n, stock(12, 5, 5), stock(12, 5, 5), stock(12, 5, 5)))
	}
	for tons := range 8 { // before, at, and behind each rate
		for wide := range 4 {
			l = append(l, api.Order{Rates: []api.Rate{rate(2, 3, 4), rate(3, 2, 6), rate(5, 4, 5)}, Ships: []api.Span{span(tons, tons+wide)}, Stocks: []api.Stock{stock(3, 4, 6), stock(4, 5, 5)}})
		}
	}
	return l
}

// around returns stocks with sizes and lengths around those that an order asks.
func around(o api.Order) []api.Stock {
	l := []api.Stock{stock(1, 1, 1), stock(1, 1, 999)}
	greatest := 1
	for _, r := range o.Rates {
		greatest = max(greatest, r.Size)
	}
	for _, r := range o.Rates {
		long := max(r.Long, 1)
		l = append(l, stock(greatest, long, long), stock(r.Size, max(long/2, 1), long), stock(max(greatest-1, 1), long, long))
	}
	return l
}

// swapped returns an order with two of its ships, or two of its stocks, in each other's place.
func swapped(o api.Order, d *dice) api.Order {
	w := clone(o)
	if n := len(w.Ships); n > 0 {
		a, b := d.upTo(n), d.upTo(n)
		w.Ships[a], w.Ships[b] = w.Ships[b], w.Ships[a]
	}
	if n := len(w.Stocks); n > 0 {
		a, b := d.upTo(n), d.upTo(n)
		w.Stocks[a], w.Stocks[b] = w.Stocks[b], w.Stocks[a]
	}
	return w
}

// known returns orders that are the same, but for a tonnage or a length that is better known.
func known(o api.Order, d *dice) []api.Order {
	var l []api.Order
	add := func(s api.Span, put func(w *api.Order, s api.Span)) {
		low := d.from(s)
		for _, n := range []api.Span{span(s.Low, s.Low), span(s.High, s.High), span(low, d.from(span(low, s.High)))} {
			w := clone(o)
			put(&w, n)
			if !equal(w, o) {
				l = append(l, w)
			}
		}
	}
	for i, s := range o.Ships {
		add(s, func(w *api.Order, s api.Span) { w.Ships[i] = s })
	}
	for i, s := range o.Stocks {
		add(s.Long, func(w *api.Order, s api.Span) { w.Stocks[i].Long = s })
	}
	return slices.CompactFunc(l, equal)
}
