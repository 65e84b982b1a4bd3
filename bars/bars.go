// Package bars is layer 1: of which bar of iron each piece can be (see shared/doc/01-bars.md).
package bars

import (
	"slices"

	"shackle/api"
)

// Check returns ErrStore unless a store is valid.
func Check(s api.BarStore) api.Errno {
	if !valid(s) {
		return api.ErrStore
	}
	return api.OK
}

// Fits reports whether a sawing is a truth.
func Fits(s api.BarStore, sawing []int) (bool, api.Errno) {
	if e := Check(s); e != api.OK {
		return false, e
	}
	if !isSawing(s, sawing) {
		return false, api.ErrArg
	}
	for bar := range s.Bars {
		if rest(s, sawing, bar) < 0 {
			return false, api.OK
		}
	}
	return wrongMarks(s, sawing) <= s.Wrong, api.OK
}

// Fewest returns the least number of wrong marks in a sawing that fits.
func Fewest(s api.BarStore) (int, api.Errno) {
	if e := Check(s); e != api.OK {
		return 0, e
	}
	fewest, found := len(s.Pieces), false
	for sawing := range sawings(s, len(s.Pieces)) {
		fewest, found = min(fewest, wrongMarks(s, sawing)), true
		if fewest == 0 {
			break
		}
	}
	if !found {
		return 0, api.ErrNone
	}
	return fewest, api.OK
}

// Many returns the number of truths.
func Many(s api.BarStore) (int, api.Errno) {
	if e := Check(s); e != api.OK {
		return 0, e
	}
	many := 0
	for range truths(s) {
		many++
	}
	if many == 0 {
		return 0, api.ErrNone
	}
	return many, api.OK
}

// Of returns all bars of which a piece can be.
func Of(s api.BarStore, piece int) ([]int, api.Errno) {
	if e := Check(s); e != api.OK {
		return nil, e
	}
	if !isPiece(s, piece) {
		return nil, api.ErrArg
	}
	var can [api.MaxBars]bool
	for sawing := range truths(s) {
		can[sawing[piece]] = true
	}
	of := numbers(can[:])
	if len(of) == 0 {
		return nil, api.ErrNone
	}
	return of, api.OK
}

// Heats returns the heats of all bars of which a piece can be.
func Heats(s api.BarStore, piece int) ([]int, api.Errno) {
	of, e := Of(s, piece)
	if e != api.OK {
		return nil, e
	}
	var can [api.MaxHeat + 1]bool
	for _, bar := range of {
		can[s.Bars[bar].Heat] = true
	}
	return numbers(can[:]), api.OK
}

// Strange returns all pieces whose mark surely is wrong.
func Strange(s api.BarStore) ([]int, api.Errno) {
	if e := Check(s); e != api.OK {
		return nil, e
	}
	found := false
	var strange [api.MaxPieces]bool
	for piece := range s.Pieces {
		strange[piece] = true
	}
	for sawing := range truths(s) {
		found = true
		for piece, bar := range sawing {
			strange[piece] = strange[piece] && isWrong(s, piece, bar)
		}
	}
	if !found {
		return nil, api.ErrNone
	}
	return numbers(strange[:]), api.OK
}

// Alike returns whether two pieces are of one bar.
func Alike(s api.BarStore, a, b int) (int, api.Errno) {
	if e := Check(s); e != api.OK {
		return 0, e
	}
	if !isPiece(s, a) || !isPiece(s, b) {
		return 0, api.ErrArg
	}
	return known(s, func(sawing []int) bool { return sawing[a] == sawing[b] })
}

// Rest returns the least and the greatest rest that a bar can have.
func Rest(s api.BarStore, bar int) (api.Span, api.Errno) {
	if e := Check(s); e != api.OK {
		return api.Span{}, e
	}
	if bar < 0 || bar >= len(s.Bars) {
		return api.Span{}, api.ErrArg
	}
	span, found := api.Span{Low: api.MaxIron}, false
	for sawing := range truths(s) {
		left := rest(s, sawing, bar)
		span, found = api.Span{Low: min(span.Low, left), High: max(span.High, left)}, true
	}
	if !found {
		return api.Span{}, api.ErrNone
	}
	return span, api.OK
}

// Room returns whether one more piece of a length could be cut from some bar.
func Room(s api.BarStore, long int) (int, api.Errno) {
	if e := Check(s); e != api.OK {
		return 0, e
	}
	if !within(long, 1, api.MaxIron) {
		return 0, api.ErrArg
	}
	return known(s, func(sawing []int) bool { return hasRoom(s, sawing, long) })
}

// Plan returns a truth in which as few bars as can be have pieces.
func Plan(s api.BarStore) ([]int, api.Errno) {
	if e := Check(s); e != api.OK {
		return nil, e
	}
	var plan []int
	least, found := 0, false
	for sawing := range truths(s) {
		if n := used(sawing); !found || n < least {
			plan, least, found = slices.Clone(sawing), n, true
		}
	}
	if !found {
		return nil, api.ErrNone
	}
	return plan, api.OK
}

// Least returns in how few bars the pieces of a truth can be.
func Least(s api.BarStore) (int, api.Errno) {
	plan, e := Plan(s)
	if e != api.OK {
		return 0, e
	}
	return used(plan), api.OK
}
