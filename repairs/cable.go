package repairs

import (
	"slices"

	"shackle/api"
)

// cable is a valid cable.
type cable struct {
	api.RepairCable
}

// open returns a cable, if it is valid and what is asked of it is allowed.
func open(c api.RepairCable, allowed bool) (cable, api.Errno) {
	if e := Check(c); e != api.OK {
		return cable{}, e
	}
	if !allowed {
		return cable{}, api.ErrArg
	}
	return cable{c}, api.OK
}

// openRepair returns a cable, and a repair of it, if both are valid.
func openRepair(c api.RepairCable, cut []int) (cable, set, api.Errno) {
	v, e := open(c, isRepair(c, cut))
	if e != api.OK {
		return cable{}, 0, e
	}
	var repair set
	for _, link := range cut {
		repair = repair.with(link)
	}
	return v, repair, api.OK
}

// openShortest returns a cable, if it is valid, and all its shortest repairs.
func openShortest(c api.RepairCable) (cable, []set, api.Errno) {
	v, e := open(c, true)
	if e != api.OK {
		return cable{}, nil, e
	}
	fewest, e := v.least(set.count)
	if e != api.OK {
		return cable{}, nil, e
	}
	var list []set
	for cut := range v.good {
		if cut.count() == fewest {
			list = append(list, cut)
		}
	}
	return v, list, api.OK
}

// all returns all links.
func (c cable) all() set {
	return 1<<len(c.Links) - 1
}

// isGood reports whether a repair is good.
func (c cable) isGood(cut set) bool {
	left, doubtful := 0, 0
	for link, hold := range c.Links {
		if cut.has(link) {
			continue
		}
		left++
		if hold.High < c.Need {
			return false
		}
		if hold.Low < c.Need {
			doubtful++
		}
	}
	isTooShort := func(piece int) bool { return piece < c.Gap }
	return doubtful <= c.Doubt && left >= c.Least && c.shackles(cut) <= c.Joins && !slices.ContainsFunc(c.pieces(cut), isTooShort)
}

// pieces returns how many links each piece of a repair has.
func (c cable) pieces(cut set) []int {
	var pieces []int
	for link := range c.Links {
		switch {
		case cut.has(link):
		case link == 0 || cut.has(link-1):
			pieces = append(pieces, 1)
		default:
			pieces[len(pieces)-1]++
		}
	}
	return pieces
}

func (c cable) shackles(cut set) int {
	return max(len(c.pieces(cut))-1, 0)
}

// good yields all good repairs.
func (c cable) good(yield func(set) bool) {
	for cut := range c.all() + 1 {
		if c.isGood(cut) && !yield(cut) {
			return
		}
	}
}

// least returns the least price of a good repair.
func (c cable) least(price func(set) int) (int, api.Errno) {
	const none = -1
	least := none
	for cut := range c.good {
		if n := price(cut); least == none || n < least {
			least = n
		}
	}
	if least == none {
		return 0, api.ErrNone
	}
	return least, api.OK
}

// needs yields, the greatest one first, all needs above which some link is doubtful or too weak that is not so with the
// need itself. Between two of them nothing changes, and above all of them each link is too weak: so the greatest need
// that leaves enough is one of them.
func (c cable) needs(yield func(int) bool) {
	var list []int
	for _, hold := range c.Links {
		list = append(list, hold.Low, hold.High)
	}
	slices.Sort(list)
	for _, need := range slices.Backward(slices.Compact(list)) {
		if !yield(need) {
			return
		}
	}
}
