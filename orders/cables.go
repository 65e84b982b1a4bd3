package orders

import "shackle/api"

// cable is the stocks that are used for a ship: how many, their least and greatest size, and how long they can be when
// shackles join them.
type cable struct {
	stocks      int
	sizes, long api.Span
}

// joined returns a cable with one more stock.
func (c cable) joined(s api.Stock, shackle int) cable {
	if c.stocks == 0 {
		return cable{1, api.Span{Low: s.Size, High: s.Size}, s.Long}
	}
	return cable{
		c.stocks + 1,
		api.Span{Low: min(c.sizes.Low, s.Size), High: max(c.sizes.High, s.Size)},
		api.Span{Low: c.long.Low + shackle + s.Long.Low, High: c.long.High + shackle + s.Long.High},
	}
}

// isOfSize reports whether all stocks of a cable have the same size, which is at least the one that is needed.
func (c cable) isOfSize(size int) bool {
	return c.stocks == 0 || c.sizes.Low == c.sizes.High && c.sizes.Low >= size
}

// suits returns whether a cable has what a ship needs.
func (c cable) suits(needs map[need]bool) int {
	always, ever := true, false
	for n := range needs {
		isOfSize := c.isOfSize(n.size)
		always = always && isOfSize && c.long.Low >= n.long
		ever = ever || isOfSize && c.long.High >= n.long
	}
	switch {
	case always:
		return api.Surely
	case ever:
		return api.Perhaps
	}
	return api.Never
}

// lacks returns how long the last stock of a cable, which is joined as if it had no length, must be at least, so that the
// cable surely has what a ship needs. It reports false if the sizes are wrong; otherwise there is such a length, because
// none that is needed is above MaxFathoms.
func (c cable) lacks(needs map[need]bool) (int, bool) {
	least := 1
	for n := range needs {
		if !c.isOfSize(n.size) {
			return 0, false
		}
		least = max(least, n.long-c.long.Low)
	}
	return least, true
}
