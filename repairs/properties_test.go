package repairs_test

import (
	"slices"
	"testing"

	"shackle/api"
	"shackle/repairs"
)

func contains(all [][]int, cut []int) bool {
	return slices.ContainsFunc(all, func(c []int) bool { return slices.Equal(c, cut) })
}

// notMore reports whether a number is not greater than another one; none is greater than any number.
func notMore(a, b int) bool { return b == none || a != none && a <= b }

// P7.9
func TestEachRepair(t *testing.T) {
	tried := 0
	cables(func(c api.RepairCable, d *dice) {
		f := learn(t, c)
		for _, cut := range f.good {
			tried++
			if len(cut) < f.fewest {
				t.Errorf("%+v: %v is good, Fewest = %d", c, cut, f.fewest)
			}
			shackles, e := repairs.Shackles(c, cut)
			for i, p := range prices() {
				if e != api.OK || p[0]*len(cut)+p[1]*shackles < f.cheapest[i] {
					t.Errorf("%+v: %v is good, with %d shackles, %d; Cheapest with the prices %v = %d", c, cut, shackles, e, p, f.cheapest[i])
				}
			}
			if len(cut) > f.fewest {
				continue
			}
			if slices.ContainsFunc(f.must, func(link int) bool { return !slices.Contains(cut, link) }) || slices.ContainsFunc(f.spared, func(link int) bool { return slices.Contains(cut, link) }) {
				t.Errorf("%+v: %v is good, Fewest = %d, Must = %v, Spared = %v", c, cut, f.fewest, f.must, f.spared)
			}
		}
	})
	if tried < 1000 {
		t.Errorf("only %d good repairs", tried)
	}
}

// easier returns cables of which less is asked, in one thing.
func easier(c api.RepairCable) []api.RepairCable {
	var l []api.RepairCable
	add := func(change func(w *api.RepairCable)) {
		w := clone(c)
		change(&w)
		if repairs.Check(w) == api.OK {
			l = append(l, w)
		}
	}
	add(func(w *api.RepairCable) { w.Need-- })
	add(func(w *api.RepairCable) { w.Need = 0 })
	add(func(w *api.RepairCable) { w.Gap-- })
	add(func(w *api.RepairCable) { w.Gap = 1 })
	add(func(w *api.RepairCable) { w.Least-- })
	add(func(w *api.RepairCable) { w.Least = 1 })
	add(func(w *api.RepairCable) { w.Doubt++ })
	add(func(w *api.RepairCable) { w.Joins++ })
	for link := range c.Links {
		add(func(w *api.RepairCable) { w.Links[link].Low++ })
		add(func(w *api.RepairCable) { w.Links[link].High++ })
		add(func(w *api.RepairCable) { w.Links[link] = span(api.MaxHold, api.MaxHold) })
	}
	return l
}

// P7.10
func TestLessIsAsked(t *testing.T) {
	fewer, gained := 0, 0
	cables(func(c api.RepairCable, d *dice) {
		if len(c.Links) > 8 {
			return
		}
		f := learn(t, c)
		for _, w := range easier(c) {
			g := learn(t, w)
			if slices.ContainsFunc(f.good, func(cut []int) bool { return !contains(g.good, cut) }) {
				t.Errorf("%+v: %v are good; %+v: %v are", c, f.good, w, g.good)
			}
			if !notMore(g.fewest, f.fewest) {
				t.Errorf("%+v: Fewest = %d; %+v: %d", c, f.fewest, w, g.fewest)
			}
			for i, p := range prices() {
				if !notMore(g.cheapest[i], f.cheapest[i]) {
					t.Errorf("%+v: Cheapest with the prices %v = %d; %+v: %d", c, p, f.cheapest[i], w, g.cheapest[i])
				}
			}
			switch {
			case f.fewest == none && g.fewest != none:
				gained++
			case g.fewest < f.fewest:
				fewer++
			}
		}
	})
	if fewer < 100 || gained < 50 {
		t.Errorf("only %d times fewer links are cut out, %d cables could be repaired then", fewer, gained)
	}
}

// backwards returns links of a cable with so many links, counted from its other end.
func backwards(list []int, many int) []int {
	var l []int
	for _, link := range slices.Backward(list) {
		l = append(l, many-1-link)
	}
	return l
}

// P7.11
func TestBackwards(t *testing.T) {
	cables(func(c api.RepairCable, d *dice) {
		many := len(c.Links)
		w := clone(c)
		slices.Reverse(w.Links)
		f, g := learn(t, c), learn(t, w)
		for _, cut := range modelRepairs(many) {
			other := backwards(cut, many)
			n, e := repairs.Shackles(c, cut)
			m, h := repairs.Shackles(w, other)
			if contains(f.good, cut) != contains(g.good, other) || n != m || e != api.OK || h != api.OK {
				t.Errorf("%+v: %v backwards: Shackles = %d, %d; %d, %d", c, cut, n, e, m, h)
			}
		}
		if f.fewest != g.fewest || !slices.Equal(backwards(f.must, many), g.must) || !slices.Equal(backwards(f.spared, many), g.spared) || !slices.Equal(f.cheapest, g.cheapest) || f.strong != g.strong {
			t.Errorf("%+v: %+v, backwards %+v", c, f, g)
		}
	})
}

// P7.12
func TestLonger(t *testing.T) {
	tried, gained := 0, 0
	cables(func(c api.RepairCable, d *dice) {
		last := len(c.Links) - 1
		if len(c.Links) == 0 || len(c.Links) == api.MaxRepair {
			return
		}
		w := clone(c)
		w.Links = append(w.Links, span(c.Need, api.MaxHold))
		for _, cut := range modelRepairs(len(c.Links)) {
			if slices.Contains(cut, last) {
				continue
			}
			was, e := repairs.Good(c, cut)
			is, f := repairs.Good(w, cut)
			n, g := repairs.Shackles(c, cut)
			m, h := repairs.Shackles(w, cut)
			if was && !is || n != m || e != api.OK || f != api.OK || g != api.OK || h != api.OK {
				t.Errorf("%+v: Good of %v = %t, %d, and %t, %d with one more link; Shackles = %d, %d, and %d, %d", c, cut, was, e, is, f, n, g, m, h)
			}
			// Only that there are too few links, in all or in the last piece, can have made it bad.
			if is && !was {
				pieces := modelPieces(c, cut)
				if len(c.Links)-len(cut) >= c.Least && len(pieces[len(pieces)-1]) >= c.Gap {
					t.Errorf("%+v: %v is good only with one more link", c, cut)
				}
				gained++
			}
			if was {
				tried++
			}
		}
	})
	if tried < 500 || gained < 50 {
		t.Errorf("only %d good repairs, %d were not good before", tried, gained)
	}
}

// P7.13
func TestPrices(t *testing.T) {
	cheapest := func(c api.RepairCable, link, shackle int) int {
		n, e := repairs.Cheapest(c, link, shackle)
		return orNone(t, n, e)
	}
	differ := 0
	cables(func(c api.RepairCable, d *dice) {
		n, e := repairs.Fewest(c)
		if fewest := orNone(t, n, e); cheapest(c, 1, 0) != fewest {
			t.Errorf("%+v: Cheapest = %d, Fewest = %d", c, cheapest(c, 1, 0), fewest)
		}
		if cheapest(c, 1, 0) == none {
			return
		}
		link, shackle, k := d.upTo(30), d.upTo(30), d.upTo(35)
		n = cheapest(c, link, shackle)
		if m := cheapest(c, k*link, k*shackle); m != k*n {
			t.Errorf("%+v: Cheapest with the prices %d and %d = %d, with %d times the prices %d", c, link, shackle, n, k, m)
		}
		for _, p := range [][2]int{{link + 1, shackle}, {link, shackle + 1}, {999, shackle}, {link, 999}, {link + k, shackle + k}} {
			m := cheapest(c, p[0], p[1])
			if m < n {
				t.Errorf("%+v: Cheapest with the prices %d and %d = %d, with %v %d", c, link, shackle, n, p, m)
			}
			if m > n {
				differ++
			}
		}
	})
	if differ < 300 {
		t.Errorf("only %d times it was greater", differ)
	}
}

// P7.14
func TestStrongIsGreatest(t *testing.T) {
	found := 0
	cables(func(c api.RepairCable, d *dice) {
		before := none
		for cuts := range api.MaxRepair + 1 {
			n, e := repairs.Strong(c, cuts)
			strong := orNone(t, n, e)
			if strong < before {
				t.Errorf("%+v: Strong of %d cuts = %d, with one fewer %d", c, cuts, strong, before)
			}
			if strong > before {
				found++
			}
			before = strong
			for _, need := range slices.Concat(modelNeeds(c), []int{strong + 1}) {
				if need < strong || need > api.MaxHold {
					continue
				}
				w := c
				w.Need = need
				n, e := repairs.Fewest(w)
				fewest := orNone(t, n, e)
				if isEnough := fewest != none && fewest <= cuts; isEnough != (need == strong) {
					t.Errorf("%+v: Strong of %d cuts = %d; with the need %d Fewest = %d", c, cuts, strong, need, fewest)
				}
			}
		}
	})
	if found < 500 {
		t.Errorf("only %d times it was greater", found)
	}
}
