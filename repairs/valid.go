package repairs

import "shackle/api"

// limit is a number, and between which ones it must be.
type limit struct {
	number, low, high int
}

func within(n, low, high int) bool {
	return low <= n && n <= high
}

func valid(c api.RepairCable) bool {
	if len(c.Links) > api.MaxRepair {
		return false
	}
	for _, hold := range c.Links {
		if hold.Low < 0 || hold.Low > hold.High || hold.High > api.MaxHold {
			return false
		}
	}
	limits := [...]limit{
		{c.Need, 0, api.MaxHold},
		{c.Gap, 1, api.MaxRepair},
		{c.Doubt, 0, api.MaxRepair},
		{c.Joins, 0, api.MaxRepair},
		{c.Least, 1, api.MaxRepair},
	}
	for _, l := range limits {
		if !within(l.number, l.low, l.high) {
			return false
		}
	}
	return true
}

// isRepair reports whether links are some of a cable, strictly ascending.
func isRepair(c api.RepairCable, cut []int) bool {
	next := 0
	for _, link := range cut {
		if !within(link, next, len(c.Links)-1) {
			return false
		}
		next = link + 1
	}
	return true
}
