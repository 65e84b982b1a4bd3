package orders_test

import (
	"slices"
	"testing"

	"shackle/api"
	"shackle/orders"
	"shackle/repairs"
	"shackle/stretch"
)

// repaired returns a cable that is often good after few links are cut out.
func (d *dice) repaired() api.RepairCable {
	c := api.RepairCable{Need: 40, Gap: 1 + d.upTo(2), Doubt: d.upTo(3), Joins: d.upTo(7), Least: 1}
	for range d.upTo(api.MaxRepair + 1) {
		low := 40 - d.upTo(2)*d.upTo(9)
		c.Links = append(c.Links, span(low, low+d.upTo(4)))
	}
	return c
}

// piecesOf returns how many links each piece has that a repair leaves.
func piecesOf(many int, cut []int) []int {
	var pieces []int
	from := 0
	for _, link := range append(slices.Clone(cut), many) {
		if link > from {
			pieces = append(pieces, link-from)
		}
		from = link + 1
	}
	return pieces
}

// P0.14: the pieces that a plan leaves are just long enough for an order of their length with all shackles, and all of
// them are needed.
func TestPiecesOfCable(t *testing.T) {
	d := &dice{5}
	joined := 0
	for range 500 {
		c := d.repaired()
		cut, e := repairs.Plan(c)
		if e == api.ErrNone {
			continue
		}
		shackles, f := repairs.Shackles(c, cut)
		if e != api.OK || f != api.OK {
			t.Fatalf("%+v: Plan = %v, %d; Shackles = %d, %d", c, cut, e, shackles, f)
		}
		shackle, fathoms := d.upTo(api.MaxShackle+1), 1+d.upTo(15)
		pieces := piecesOf(len(c.Links), cut)
		long := shackles * shackle
		o := plain(0, shackle)
		for _, many := range pieces {
			o.Stocks = append(o.Stocks, stock(10, many*fathoms, many*fathoms))
			long += many * fathoms
		}
		o.Rates[0].Long = long
		fewest, e := orders.Fewest(o)
		needed, f := orders.Needed(o)
		if fewest != len(pieces) || e != api.OK || !slices.Equal(needed, numbers(len(pieces))) || f != api.OK {
			t.Errorf("%+v: Plan = %v; %+v: Fewest = %d, %d; Needed = %v, %d", c, cut, o, fewest, e, needed, f)
		}
		o.Rates[0].Long++
		if n, e := orders.Fewest(o); n != 0 || e != api.ErrNone {
			t.Errorf("%+v: Plan = %v; %+v: Fewest = %d, %d", c, cut, o, n, e)
		}
		if len(pieces) > 1 {
			joined++
		}
	}
	if joined < 100 {
		t.Errorf("only %d cables of more than one piece", joined)
	}
}

// measured returns a pull of a cable that is about so long, measured a few times with rods that are worn.
func (d *dice) measured(long int) api.Pull {
	p := api.Pull{Iron: d.upTo(20), Guess: span(max(long-d.upTo(20), 1), min(long+d.upTo(20), api.MaxFathoms))}
	for range 1 + d.upTo(2) {
		rod := 20 + d.upTo(60)
		p.Rods = append(p.Rods, api.Rod{Long: rod, Wear: d.upTo(3), Grow: d.upTo(20)})
	}
	for range 1 + d.upTo(3) {
		i := d.upTo(len(p.Rods))
		rod := p.Rods[i].Long - d.upTo(p.Rods[i].Wear+1)
		low := d.upTo(40) - 20
		p.Readings = append(p.Readings, api.Reading{When: 1 + d.upTo(2), Rod: i, Count: long / rod, Rest: long % rod, Off: d.upTo(4), Warm: span(low, low+d.upTo(9))})
	}
	p.Wrong = d.upTo(2)
	return p
}

// P0.15: a stock that was measured makes an order for a length surely just if this is at most the least one of
// stretch.Lengths, and never just if it is above the greatest one.
func TestMeasuredStock(t *testing.T) {
	d := &dice{6}
	doubtful, gaps := 0, 0
	for range 300 {
		p := d.measured(1 + d.upTo(api.MaxFathoms))
		when := 1 + d.upTo(2)
		lengths, e := stretch.Lengths(p, when)
		if e == api.ErrNone {
			continue
		}
		if e != api.OK || len(lengths) == 0 {
			t.Fatalf("%+v: Lengths = %v, %d", p, lengths, e)
		}
		least, greatest := lengths[0], lengths[len(lengths)-1]
		for long := max(least-3, 0); long <= min(greatest+3, api.MaxFathoms); long++ {
			want := api.Perhaps
			if long <= least {
				want = api.Surely
			}
			if long > greatest {
				want = api.Never
			}
			o := plain(long, d.upTo(api.MaxShackle+1), stock(10, least, greatest))
			if n, e := orders.Makes(o, []int{0}); n != want || e != api.OK {
				t.Errorf("%+v: Lengths = %v; with the length %d Makes = %d, %d", p, lengths, long, n, e)
			}
			if want == api.Perhaps {
				doubtful++
			}
		}
		if greatest-least >= len(lengths) {
			gaps++
		}
	}
	if doubtful < 300 || gaps < 5 {
		t.Errorf("only %d lengths were doubtful, %d stocks cannot be of each length between", doubtful, gaps)
	}
}
