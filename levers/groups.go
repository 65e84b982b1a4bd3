package levers

import (
	"slices"

	"shackle/api"
)

// There can be 21000000000 settings. But the load depends on the leak and on the product of the short arms only, and
// the less this product, the greater the load: so it is enough to know the ends of groups of settings.

// group is settings with the same leak and the same short arm of one lever, in which the same balances are right.
type group struct {
	least, greatest setting // those with the least and the greatest product of short arms
	many            int
}

// groups yields groups of all settings, whichever balances are right in them.
func (w *work) groups(yield func(group) bool) {
	arms := w.shorts[w.lever]
	for leak := w.Leak.Low; leak <= w.Leak.High; leak++ {
		for _, products := range w.alike(leak) {
			for arm := arms.Low; arm <= arms.High; arm++ {
				if g := w.group(leak, arm, products); g.many > 0 && !yield(g) {
					return
				}
			}
		}
	}
}

// group returns the settings with a leak, a short arm of the lever, and a product of short arms that is in a span.
func (w *work) group(leak, arm int, products api.Span) group {
	first := w.pairs.below(roundedUp(products.Low, arm))
	end := w.pairs.below(products.High/arm + 1)
	if first >= end {
		return group{}
	}
	return group{
		least:    w.setting(leak, arm, w.pairs.arms[first]),
		greatest: w.setting(leak, arm, w.pairs.arms[end-1]),
		many:     w.pairs.many[end] - w.pairs.many[first],
	}
}

func (w *work) setting(leak, arm int, pair [2]int) setting {
	s := setting{leak: leak}
	s.arms[w.lever] = arm
	for i, other := range w.others {
		s.arms[other] = pair[i]
	}
	return s
}

// alike returns spans of the product of short arms, within each of which the same balances are right, with a leak.
func (w *work) alike(leak int) []api.Span {
	low, high := 1, 1
	for _, s := range w.shorts {
		low *= s.Low
		high *= s.High
	}
	starts := []int{low}
	for _, b := range w.Balances {
		force := w.force(b.Weight, b.Minutes, leak)
		// With greater products, the load comes to the most that is right, then it falls below the least.
		if most := b.Load + b.Off; most > 0 {
			starts = append(starts, roundedUp(force, most))
		}
		if least := b.Load - b.Off; least > 0 {
			starts = append(starts, force/least+1)
		}
	}
	slices.Sort(starts)
	var spans []api.Span
	for _, next := range append(starts, high+1) {
		next = min(next, high+1)
		if next > low {
			spans = append(spans, api.Span{Low: low, High: next - 1})
			low = next
		}
	}
	return spans
}

func roundedUp(n, by int) int {
	return (n + by - 1) / by
}

// pairs is the products of the short arms of two levers, each product once, ascending.
type pairs struct {
	arms  [][2]int // two arms of each product
	many  []int    // how many pairs of arms have one of the first products: of none, of one, and so on
	least int      // the least product
	less  []int    // how many products are less than each number, from the least product to one more than the greatest one
}

func newPairs(a, b api.Span) pairs {
	p := pairs{least: a.Low * b.Low, many: []int{0}}
	room := a.High*b.High - p.least + 1
	ways, arm := make([]int, room), make([]int, room)
	for x := a.Low; x <= a.High; x++ {
		for y := b.Low; y <= b.High; y++ {
			ways[x*y-p.least]++
			arm[x*y-p.least] = x
		}
	}
	p.less = make([]int, 1, room+1)
	for i, n := range ways {
		if n > 0 {
			p.arms = append(p.arms, [2]int{arm[i], (p.least + i) / arm[i]})
			p.many = append(p.many, p.many[len(p.many)-1]+n)
		}
		p.less = append(p.less, len(p.arms))
	}
	return p
}

// below returns how many products are less than a number.
func (p pairs) below(n int) int {
	return p.less[min(max(n-p.least, 0), len(p.less)-1)]
}
