package proofs

import (
	"slices"

	"shackle/api"
	"shackle/links"
)

// unknown is the end that a place was counted from, if this can be either one: the head (0) or the tail (1).
const unknown = 2

// story is what the deeds did to a cable in a truth of its chain.
type story struct {
	broke  []int // the link that broke at each trial
	tested []set // the links that each trial proves if it pulls enough
	last   []int // the links of the cable when all deeds are done, from the head
}

// set is a set of links: the bit of a link is 1 if it is in the set.
type set uint

func (s set) has(link int) bool {
	return s>>link&1 == 1
}

func (s set) with(link int) set {
	return s | 1<<link
}

// allStories returns the story of each truth of the chain.
func (f file) allStories() []story {
	var all []story
	for c := range f.knownChains {
		if _, e := links.Many(c); e == api.OK {
			all = append(all, f.story(c))
		}
	}
	return all
}

// knownChains yields the chain with each choice of the ends that are not known.
func (f file) knownChains(yield func(api.Chain) bool) {
	var either []int
	for i, d := range f.Chain.Deeds {
		if d.From == unknown {
			either = append(either, i)
		}
	}
	for ends := range 1 << len(either) {
		c := f.Chain
		c.Deeds = slices.Clone(c.Deeds)
		for bit, deed := range either {
			c.Deeds[deed].From = ends >> bit & 1
		}
		if !yield(c) {
			return
		}
	}
}

// story returns what the deeds of a chain did whose ends are known.
func (f file) story(c api.Chain) story {
	s := story{last: cableAfter(c.Deeds)}
	for trial, deed := range f.proofs {
		cable := cableAfter(c.Deeds[:deed])
		broke := none
		var tested set
		for at, link := range cable {
			if at == f.Trials[trial].Broke {
				broke = link
			} else {
				tested = tested.with(link)
			}
		}
		s.broke = append(s.broke, broke)
		s.tested = append(s.tested, tested)
	}
	return s
}

// cableAfter returns the links of a cable after deeds whose ends are known, so that just one can be at each place.
func cableAfter(deeds []api.Deed) []int {
	cable := make([]int, lengthAfter(deeds))
	for at := range len(cable) {
		who, _ := links.Who(api.Chain{Deeds: deeds}, at)
		cable[at] = who[0]
	}
	return cable
}
