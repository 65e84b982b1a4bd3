package proofs

import (
	"shackle/api"
	"shackle/levers"
	"shackle/links"
)

func within(n, low, high int) bool {
	return low <= n && n <= high
}

func (f file) valid() bool {
	if links.Check(f.Chain) != api.OK || levers.Check(f.Machine) != api.OK {
		return false
	}
	if !within(f.Need, 0, api.MaxLoad) || !within(f.Rule, 1, api.MaxDeeds) {
		return false
	}
	many := 0
	for trial, deed := range f.proofs {
		if trial >= len(f.Trials) || !validTrial(f.Trials[trial], lengthAfter(f.Chain.Deeds[:deed])) {
			return false
		}
		many++
	}
	return many == len(f.Trials)
}

// validTrial reports whether a trial is valid for a cable that has so many links then.
func validTrial(t api.ProofTrial, length int) bool {
	return within(t.Weight, 0, api.MaxWeight) && within(t.Minutes, 0, api.MaxMinutes) && within(t.Broke, none, length-1)
}

// lengthAfter returns how many links a cable has after deeds, which must be the first ones of a valid chain.
func lengthAfter(deeds []api.Deed) int {
	length, _ := links.Length(api.Chain{Deeds: deeds})
	return length
}
