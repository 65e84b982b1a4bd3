package orders

import (
	"maps"
	"slices"
)

// unused stands for a ship, if a stock is used for none.
const unused = -1

// plan has for each stock the ship for which it is used, or unused.
type plan []int

// used returns how many stocks are used in a plan.
func (p plan) used() int {
	used := 0
	for _, ship := range p {
		if ship != unused {
			used++
		}
	}
	return used
}

// longer returns all plans for one more stock: each plan, with each use of this stock behind it. Plans that begin alike
// must not share the memory behind their beginning.
func longer(ships int, plans ...plan) []plan {
	var list []plan
	for _, p := range plans {
		for ship := unused; ship < ships; ship++ {
			list = append(list, append(p[:len(p):len(p)], ship))
		}
	}
	return list
}

// fewest returns, of some plans, those in which as few stocks as can be are used.
func fewest(plans ...plan) []plan {
	var list []plan
	for _, p := range plans {
		if len(list) > 0 && p.used() < list[0].used() {
			list = nil
		}
		if len(list) == 0 || p.used() == list[0].used() {
			list = append(list, p)
		}
	}
	return list
}

// needed returns all of so many stocks that are used in each one of some plans, ascending.
func needed(stocks int, plans ...plan) []int {
	inAll := map[int]bool{}
	for stock := range stocks {
		inAll[stock] = true
	}
	for _, p := range plans {
		for stock, ship := range p {
			if ship == unused {
				delete(inAll, stock)
			}
		}
	}
	return slices.Sorted(maps.Keys(inAll))
}
