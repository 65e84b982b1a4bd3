package links_test

import (
	"slices"

	"shackle/api"
)

// dice gives the same numbers in each run.
type dice struct{ state uint64 }

// upTo returns a number from 0 to n-1.
func (d *dice) upTo(n int) int {
	d.state = d.state*6364136223846793005 + 1442695040888963407
	return int(d.state>>33) % n
}

// deed returns a deed that is valid for a cable of so many links.
func (d *dice) deed(length int) api.Deed {
	switch n := d.upTo(10); {
	case n < 2 && length > 0:
		return cut(d.upTo(length), d.upTo(3))
	case n == 2:
		return turn()
	case n < 5:
		return prove()
	}
	return weld(d.upTo(length+1), d.upTo(3), d.upTo(3), d.upTo(3))
}

// sight returns a sight that is valid for a chain, and often right in some truth; false if its cable never has links.
func (d *dice) sight(c api.Chain) (api.Sight, bool) {
	pasts := modelPasts(c)
	p := pasts[d.upTo(len(pasts))]
	after := d.upTo(len(c.Deeds) + 1)
	cable := p.cables[after]
	if len(cable) == 0 {
		return api.Sight{}, false
	}
	at := d.upTo(len(cable))
	was := modelLinks(c)[cable[at]]
	s := sight(after, at, 0, was.Bar, was.Smith)
	if d.upTo(2) == 0 {
		s.At, s.From = len(cable)-1-at, 1
	}
	switch d.upTo(5) {
	case 0:
		s.Bar = -1
	case 1:
		s.Smith = -1
	case 2:
		s.Bar = d.upTo(4) - 1
		s.Smith = d.upTo(4) - 1
	}
	return s, true
}

// deeds returns deeds that are valid one after the other.
func (d *dice) deeds(many int) []api.Deed {
	var l []api.Deed
	length := 0
	for range many {
		next := d.deed(length)
		switch next.What {
		case api.Weld:
			length++
		case api.Cut:
			length--
		}
		l = append(l, next)
	}
	return l
}

// chain returns a valid chain.
func (d *dice) chain(maxDeeds, maxSights int) api.Chain {
	c := api.Chain{Deeds: d.deeds(d.upTo(maxDeeds + 1))}
	for range d.upTo(maxSights + 1) {
		if s, ok := d.sight(c); ok {
			c.Sights = append(c.Sights, s)
		}
	}
	c.Wrong = d.upTo(len(c.Sights)/2 + 1)
	return c
}

// chains calls f with some chains, and all the edges that the chapter names.
func chains(f func(c api.Chain, d *dice)) {
	d := &dice{1}
	for _, c := range edges() {
		f(c, d)
	}
	for range 2000 {
		f(d.chain(9, 5), d)
	}
}

func edges() []api.Chain {
	two := []api.Deed{weld(0, 2, 1, 1), weld(0, 2, 2, 2)}
	l := []api.Chain{
		{}, // no deeds
		{Deeds: []api.Deed{}, Sights: []api.Sight{}, Wrong: 8},
		{Deeds: []api.Deed{turn(), prove(), turn()}},                                                                  // a cable without links
		{Deeds: []api.Deed{weld(0, 0, 1, 1), cut(0, 0)}},                                                              // all cut out
		{Deeds: []api.Deed{weld(0, 2, 1, 1), prove(), cut(0, 2), prove()}, Sights: []api.Sight{sight(2, 0, 1, 1, 1)}}, // all cut out, and seen before
		{Deeds: []api.Deed{weld(0, 2, 1, 1), cut(0, 2), turn()}, Sights: []api.Sight{sight(1, 0, 0, 2, 1)}},           // no truth and no links
		{Deeds: two}, // an end that makes no difference
		{Deeds: append(slices.Clone(two), weld(1, 2, 0, 0), prove(), turn(), cut(0, 2), prove())},
		{Deeds: append(slices.Clone(two), weld(2, 0, 99, 99), weld(3, 1, 0, 0)), Sights: []api.Sight{sight(4, 3, 0, 99, 99), sight(4, 0, 0, 0, 0), sight(1, 0, 0, 1, -1)}},
		{Deeds: two, Sights: []api.Sight{sight(2, 0, 0, 2, -1), sight(2, 0, 0, -1, 2), sight(2, 1, 1, -1, -1), sight(2, 0, 1, 1, 1)}},
		{Deeds: two, Sights: []api.Sight{sight(2, 0, 0, 0, -1)}}, // 0 was read, which is no bar of these
		{Deeds: two, Sights: []api.Sight{sight(2, 0, 0, -1, 0)}},
		{Deeds: []api.Deed{weld(0, 0, 0, 0), weld(0, 1, 0, 1)}, Sights: []api.Sight{sight(2, 0, 0, 0, 0), sight(2, 0, 1, -1, 1)}},
		{Deeds: []api.Deed{weld(0, 0, 1, 1), weld(1, 0, 2, 2), weld(1, 2, 3, 3), cut(1, 2), cut(0, 2)}},
		{Deeds: []api.Deed{weld(0, 0, 1, 1), prove(), weld(0, 2, 2, 2), prove(), cut(0, 2), prove(), turn(), prove()}},
		{Deeds: []api.Deed{weld(0, 0, 1, 1), weld(1, 2, 2, 2), weld(1, 1, 3, 3)}},
	}
	for wrong := range api.MaxMarks + 1 {
		l = append(l, example(wrong), example(wrong, sightS()), example(wrong, sightS(), sightT()), example(wrong, sightT(), sightS(), sightS()),
			api.Chain{Deeds: two, Sights: slices.Repeat([]api.Sight{sight(2, 0, 0, 1, -1), sight(2, 0, 0, -1, 2)}, 4), Wrong: wrong},
			api.Chain{Deeds: two, Sights: slices.Repeat([]api.Sight{sight(1, 0, 0, 9, -1)}, 8), Wrong: wrong})
	}
	return l
}
