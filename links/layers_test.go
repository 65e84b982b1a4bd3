package links_test

import (
	"slices"
	"testing"

	"shackle/api"
	"shackle/bars"
	"shackle/links"
)

// welding returns a chain with a link of each piece of a plan, in order, each welded at a place that may be any one.
func welding(d *dice, plan []int) api.Chain {
	var c api.Chain
	for length, bar := range plan {
		c.Deeds = append(c.Deeds, weld(d.upTo(length+1), d.upTo(3), bar, d.upTo(5)))
	}
	return c
}

// P0.10: the bar of each link is that of its piece, and there are as many bars in the cable as bars.Least says.
func TestBarsOfCable(t *testing.T) {
	d := &dice{3}
	planned := 0
	for _, s := range stores(d) {
		plan, e := bars.Plan(s)
		least, f := bars.Least(s)
		if e == api.ErrNone && f == e {
			continue
		}
		if e != api.OK || f != api.OK {
			t.Fatalf("%+v: %d, %d", s, e, f)
		}
		planned++
		c := welding(d, plan)
		// With known ends, each link has one place.
		for i := range c.Deeds {
			if c.Deeds[i].From == 2 {
				c.Deeds[i].From = d.upTo(2)
			}
		}
		var all []int
		for piece, bar := range plan {
			where, e := links.Where(c, piece)
			if e != api.OK || len(where) != 1 {
				t.Fatalf("%+v: Where(%d) = %v, %d", c, piece, where, e)
			}
			l, e := links.Bars(c, where[0])
			if e != api.OK || !slices.Equal(l, []int{bar}) {
				t.Errorf("%+v: Bars(%d) = %v, %d, not %d", c, where[0], l, e, bar)
			}
			all = append(all, l...)
		}
		slices.Sort(all)
		if n := len(slices.Compact(all)); n != least {
			t.Errorf("%+v: %d bars are in the cable, Least is %d", s, n, least)
		}
	}
	if planned < 50 {
		t.Errorf("only %d plans", planned)
	}
}

// P0.10, also if the ends are not known: in the cable are the bars of the plan, and no others.
func TestBarsOfUnknownEnds(t *testing.T) {
	d := &dice{4}
	for _, s := range stores(d) {
		plan, e := bars.Plan(s)
		if e != api.OK {
			continue
		}
		c := welding(d, plan)
		for piece, bar := range plan {
			where, e := links.Where(c, piece)
			if e != api.OK || len(where) == 0 || where[0] < 0 {
				t.Fatalf("%+v: Where(%d) = %v, %d", c, piece, where, e)
			}
			for _, at := range where {
				if l, e := links.Bars(c, at); e != api.OK || !slices.Contains(l, bar) {
					t.Errorf("%+v: Bars(%d) = %v, %d, without %d", c, at, l, e, bar)
				}
			}
		}
	}
}

// stores returns the store S of the chapter of bars, and others.
func stores(d *dice) []api.BarStore {
	l := []api.BarStore{{}, {
		Bars:   []api.Bar{{Heat: 3, Long: 100}, {Heat: 5, Long: 60}, {Heat: 3, Long: 45}},
		Kerf:   5,
		Pieces: []api.BarPiece{{Long: 50, Heats: []int{3, 5}}, {Long: 45, Heats: []int{3}}, {Long: 40, Heats: []int{3, 8}}},
	}}
	for range 100 {
		s := api.BarStore{Kerf: d.upTo(3), Wrong: d.upTo(4)}
		for range 2 + d.upTo(3) {
			s.Bars = append(s.Bars, api.Bar{Heat: d.upTo(2), Long: 8 + d.upTo(12)})
		}
		for range d.upTo(6) {
			s.Pieces = append(s.Pieces, api.BarPiece{Long: 1 + d.upTo(8), Heats: []int{d.upTo(2)}})
		}
		l = append(l, s)
	}
	return l
}
