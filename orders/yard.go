package orders

import (
	"slices"

	"shackle/api"
)

// yard is a valid order, and all that each of its ships can need.
type yard struct {
	api.Order
	needs []map[need]bool
}

// open returns a yard, if its order is valid and what is asked of it is allowed.
func open(o api.Order, allowed bool) (yard, api.Errno) {
	if e := Check(o); e != api.OK {
		return yard{}, e
	}
	if !allowed {
		return yard{}, api.ErrArg
	}
	y := yard{Order: o}
	for _, tons := range o.Ships {
		y.needs = append(y.needs, needsOf(o.Rates, tons))
	}
	return y, api.OK
}

// openSure returns a yard, if its order is valid, and all plans that surely make the order.
func openSure(o api.Order) (yard, []plan, api.Errno) {
	y, e := open(o, true)
	if e != api.OK {
		return yard{}, nil, e
	}
	plans := y.sure()
	if len(plans) == 0 {
		return yard{}, nil, api.ErrNone
	}
	return y, plans, api.OK
}

// alone returns the yard as if there were no ship but one.
func (y yard) alone(ship int) yard {
	y.Ships = y.Ships[ship : ship+1]
	y.needs = y.needs[ship : ship+1]
	return y
}

// plans returns all plans of which something is so.
func (y yard) plans(is func(plan) bool) []plan {
	list := []plan{{}}
	for range y.Stocks {
		list = longer(len(y.Ships), list...)
	}
	return slices.DeleteFunc(list, func(p plan) bool { return !is(p) })
}

// sure returns all plans that surely make the order.
func (y yard) sure() []plan {
	return y.plans(func(p plan) bool { return y.makes(p) == api.Surely })
}

// cable returns the stocks that a plan uses for a ship.
func (y yard) cable(p plan, ship int) cable {
	var c cable
	for stock, to := range p {
		if to == ship {
			c = c.joined(y.Stocks[stock], y.Shackle)
		}
	}
	return c
}

// makes returns whether a plan makes the order. What one ship needs and gets has nothing to do with another one, so
// that the order is made in some truth if for each ship there is one.
func (y yard) makes(p plan) int {
	made := api.Surely
	for ship, needs := range y.needs {
		switch y.cable(p, ship).suits(needs) {
		case api.Never:
			return api.Never
		case api.Perhaps:
			made = api.Perhaps
		}
	}
	return made
}

// left returns the sum of the least lengths of all stocks that a plan does not use.
func (y yard) left(p plan) int {
	left := 0
	for stock, ship := range p {
		if ship == unused {
			left += y.Stocks[stock].Long.Low
		}
	}
	return left
}

// lacks returns how long one more stock of a size must be, at least, so that a plan surely makes the order if it is used
// for a ship, too. It reports false if there is no such length.
func (y yard) lacks(p plan, ship, size int) (int, bool) {
	for other, needs := range y.needs {
		if other != ship && y.cable(p, other).suits(needs) != api.Surely {
			return 0, false
		}
	}
	return y.cable(p, ship).joined(api.Stock{Size: size}, y.Shackle).lacks(y.needs[ship])
}
