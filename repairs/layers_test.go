package repairs_test

import (
	"slices"
	"testing"

	"shackle/api"
	"shackle/levers"
	"shackle/links"
	"shackle/repairs"
)

// welded returns a chain with so many links, each welded at a place that may be any one, counted from a known end.
func (d *dice) welded(many, turns int) api.Chain {
	var c api.Chain
	for length := range many {
		c.Deeds = append(c.Deeds, api.Deed{What: api.Weld, At: d.upTo(length + 1), From: d.upTo(2), Bar: d.upTo(100), Smith: d.upTo(100)})
	}
	for range turns {
		c.Deeds = slices.Insert(c.Deeds, d.upTo(len(c.Deeds)+1), api.Deed{What: api.Turn})
	}
	return c
}

// linksOf returns the links of a chain with known ends, from the head to the tail.
func linksOf(t *testing.T, c api.Chain) []int {
	t.Helper()
	many, e := links.Length(c)
	if e != api.OK {
		t.Fatalf("%+v: Length = %d", c, e)
	}
	var all []int
	for at := range many {
		who, e := links.Who(c, at)
		if e != api.OK || len(who) != 1 {
			t.Fatalf("%+v: Who of %d = %v, %d", c, at, who, e)
		}
		all = append(all, who[0])
	}
	return all
}

// P0.3: if the links of a plan are cut out of a cable, the last one first, it has just those that the plan leaves.
func TestLinksThatAreCutOut(t *testing.T) {
	cut := 0
	cables(func(c api.RepairCable, d *dice) {
		plan, e := repairs.Plan(c)
		turns := d.upTo(3)
		if e != api.OK || len(c.Links)+turns+len(plan) > api.MaxDeeds {
			return
		}
		chain := d.welded(len(c.Links), turns)
		before := linksOf(t, chain)
		var left []int
		for at, link := range before {
			if !slices.Contains(plan, at) {
				left = append(left, link)
			}
		}
		for _, at := range slices.Backward(plan) {
			chain.Deeds = append(chain.Deeds, api.Deed{What: api.Cut, At: at})
		}
		if after := linksOf(t, chain); !slices.Equal(after, left) {
			t.Errorf("%+v: Plan = %v, the links %v became %v", c, plan, before, after)
		}
		if len(plan) > 1 {
			cut++
		}
	})
	if cut < 100 {
		t.Errorf("only %d cables", cut)
	}
}

// setting is a short arm of each lever, and a leak.
type setting struct {
	shorts []int
	leak   int
}

func settingsOf(m api.Machine) []setting {
	var all []setting
	for leak := m.Leak.Low; leak <= m.Leak.High; leak++ {
		with := []setting{{leak: leak}}
		for _, l := range m.Levers {
			var longer []setting
			for _, s := range with {
				for n := l.Short.Low; n <= l.Short.High; n++ {
					longer = append(longer, setting{append(slices.Clone(s.shorts), n), leak})
				}
			}
			with = longer
		}
		all = append(all, with...)
	}
	return all
}

// load returns what a weight pulls, so many minutes after the tank was filled: a number, divided by another one.
func (s setting) load(m api.Machine, weight, minutes int) (of, by int) {
	of, by = weight+max(m.Water-minutes*s.leak, 0), 1
	for i, short := range s.shorts {
		of *= m.Levers[i].Long
		by *= short
	}
	return of, by
}

// truthsOf returns the settings of a machine in which at most Wrong balances are not right.
func truthsOf(m api.Machine) []setting {
	return slices.DeleteFunc(settingsOf(m), func(s setting) bool {
		wrong := 0
		for _, b := range m.Balances {
			of, by := s.load(m, b.Weight, b.Minutes)
			if of < (b.Load-b.Off)*by || of > (b.Load+b.Off)*by {
				wrong++
			}
		}
		return wrong > m.Wrong
	})
}

// machine returns a valid machine.
func (d *dice) machine() api.Machine {
	m := api.Machine{Water: d.upTo(100), Leak: span(d.upTo(3), 2+d.upTo(2)), Wrong: d.upTo(2)}
	for range d.upTo(3) {
		low := 3 + d.upTo(20)
		m.Levers = append(m.Levers, api.Lever{Long: 1 + d.upTo(60), Short: span(low, low+d.upTo(4))})
	}
	settings := settingsOf(m)
	for range d.upTo(3) {
		b := api.Balance{Weight: d.upTo(100), Minutes: d.upTo(30)}
		of, by := settings[d.upTo(len(settings))].load(m, b.Weight, b.Minutes)
		b.Load = of / by
		b.Off = d.upTo(b.Load/20 + 2)
		m.Balances = append(m.Balances, b)
	}
	return m
}

// sure returns a cable of which no link is doubtful for a need.
func (d *dice) sure(need int) api.RepairCable {
	c := api.RepairCable{Need: need, Gap: 1 + d.upTo(2), Doubt: d.upTo(13), Joins: d.upTo(4), Least: 1}
	for range 1 + d.upTo(9) {
		s := span(min(need+d.upTo(3), api.MaxHold), api.MaxHold)
		if d.upTo(3) == 0 && need > 0 {
			s = span(d.upTo(need), need-1)
		}
		c.Links = append(c.Links, s)
	}
	return c
}

// P0.4: no link that is left holds less than what is pulled, in any truth, if the cable was repaired for the greatest load.
func TestPullOnRepairedCable(t *testing.T) {
	d := &dice{3}
	repaired, tight := 0, 0
	for range 500 {
		m := d.machine()
		weight, minutes := d.upTo(200), d.upTo(40)
		load, e := levers.Load(m, weight, minutes)
		if e != api.OK || load.High > api.MaxHold {
			continue
		}
		c := d.sure(load.High)
		cut, e := repairs.Plan(c)
		if e == api.ErrNone {
			continue
		}
		if e != api.OK {
			t.Fatalf("%+v: Plan = %d", c, e)
		}
		repaired++
		for link, hold := range c.Links {
			if slices.Contains(cut, link) {
				continue
			}
			for _, truth := range truthsOf(m) {
				of, by := truth.load(m, weight, minutes)
				if hold.Low*by < of {
					t.Errorf("%+v: %+v pulls %d/%d, but the link %d holds %d; Plan = %v", c, m, of, by, link, hold.Low, cut)
				}
				if (hold.Low-1)*by < of {
					tight++
				}
			}
		}
	}
	if repaired < 200 || tight < 100 {
		t.Errorf("only %d cables were repaired, %d links hold just enough", repaired, tight)
	}
}
