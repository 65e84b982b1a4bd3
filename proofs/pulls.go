package proofs

import (
	"slices"

	"shackle/api"
)

// Package levers bounds one load, but failures and proofs need the loads of all trials together, and a machine can
// have 21000000000 settings. With one leak, however, all loads are divided by the same product of short arms: the less
// it is, the greater all loads are, the fewer trials are failures, and the more links are proved. So, of the truths
// with one leak, only those with the least and with the greatest product can make a difference.

// setting is a leak, and the product of all short arms.
type setting struct {
	leak, product int
}

// load is a fraction, whose product is above 0.
type load struct {
	force, product int
}

func (l load) atLeast(n int) bool {
	return l.force >= n*l.product
}

func (l load) atMost(n int) bool {
	return l.force <= n*l.product
}

// force returns the pull of a weight, times all long arms.
func (f file) force(leak, weight, minutes int) int {
	force := weight + max(f.Machine.Water-minutes*leak, 0)
	for _, l := range f.Machine.Levers {
		force *= l.Long
	}
	return force
}

func (f file) load(s setting, weight, minutes int) load {
	return load{f.force(s.leak, weight, minutes), s.product}
}

// allPulls returns the loads of all trials in each truth of the machine that can make a difference.
func (f file) allPulls() [][]load {
	var all [][]load
	for s := range f.settings {
		loads := make([]load, len(f.Trials))
		for trial, t := range f.Trials {
			loads[trial] = f.load(s, t.Weight, t.Minutes)
		}
		all = append(all, loads)
	}
	return all
}

// settings yields the truths of the machine that can make a difference.
func (f file) settings(yield func(setting) bool) {
	p := productsOf(f.Machine.Levers)
	for leak := f.Machine.Leak.Low; leak <= f.Machine.Leak.High; leak++ {
		least, greatest, found := f.ends(p, leak)
		if !found {
			continue
		}
		if !yield(setting{leak, least}) || greatest > least && !yield(setting{leak, greatest}) {
			return
		}
	}
}

// ends returns the least and the greatest product of short arms in a truth with a leak.
func (f file) ends(p products, leak int) (least, greatest int, found bool) {
	// As products grow, a balance becomes right as soon as the load is no more than the most it can be, and it is right
	// as long as the load is at least the least it can be. So the least product of a truth is the first one at all, or
	// the first one with which some balance has become right; and the greatest one likewise, from the other end.
	starts, stops := []int{p.least()}, []int{p.greatest()}
	for _, b := range f.Machine.Balances {
		force := f.force(leak, b.Weight, b.Minutes)
		if most := b.Load + b.Off; most > 0 {
			starts = append(starts, roundedUp(force, most))
		}
		if least := b.Load - b.Off; least > 0 {
			stops = append(stops, force/least)
		}
	}
	least = p.greatest()
	for i := range starts {
		if n, ok := p.from(starts[i]); ok && f.isTruth(setting{leak, n}) {
			least, found = min(least, n), true
		}
	}
	for i := range stops {
		if n, ok := p.upTo(stops[i]); ok && f.isTruth(setting{leak, n}) {
			greatest = max(greatest, n)
		}
	}
	if !found {
		return 0, 0, false
	}
	return least, greatest, true
}

// isTruth reports whether a setting is a truth of the machine.
func (f file) isTruth(s setting) bool {
	wrong := 0
	for _, b := range f.Machine.Balances {
		if l := f.load(s, b.Weight, b.Minutes); !l.atLeast(b.Load-b.Off) || !l.atMost(b.Load+b.Off) {
			wrong++
		}
	}
	return wrong <= f.Machine.Wrong
}

func roundedUp(n, by int) int {
	return (n + by - 1) / by
}

// products is all products of short arms.
type products struct {
	arms  api.Span // of one lever
	pairs []int    // the products of the short arms of both others, ascending
}

func productsOf(levers []api.Lever) products {
	// A lever that is not there is one whose arms are 1.
	var arms [api.MaxLevers]api.Span
	for i := range arms {
		arms[i] = api.Span{Low: 1, High: 1}
	}
	for i, l := range levers {
		arms[i] = l.Short
	}
	return products{arms[0], pairsOf(arms[1], arms[2])}
}

// pairsOf returns all products of numbers of two spans, each once, ascending.
func pairsOf(a, b api.Span) []int {
	is := make([]bool, a.High*b.High+1)
	for x := a.Low; x <= a.High; x++ {
		for y := b.Low; y <= b.High; y++ {
			is[x*y] = true
		}
	}
	var list []int
	for n := range is {
		if is[n] {
			list = append(list, n)
		}
	}
	return list
}

func (p products) least() int {
	return p.arms.Low * p.pairs[0]
}

func (p products) greatest() int {
	return p.arms.High * p.pairs[len(p.pairs)-1]
}

// from returns the least product that is at least n, if there is one.
func (p products) from(n int) (least int, found bool) {
	for arm := p.arms.Low; arm <= p.arms.High; arm++ {
		i, _ := slices.BinarySearch(p.pairs, roundedUp(n, arm))
		if i == len(p.pairs) {
			continue
		}
		if product := arm * p.pairs[i]; !found || product < least {
			least, found = product, true
		}
	}
	return least, found
}

// upTo returns the greatest product that is at most n, if there is one.
func (p products) upTo(n int) (greatest int, found bool) {
	for arm := p.arms.Low; arm <= p.arms.High; arm++ {
		i, _ := slices.BinarySearch(p.pairs, n/arm+1)
		if i > 0 {
			greatest, found = max(greatest, arm*p.pairs[i-1]), true
		}
	}
	return greatest, found
}
