package bars

import (
	"iter"
	"slices"

	"shackle/api"
)

// truths yields each truth of a store, as sawings does.
func truths(s api.BarStore) iter.Seq[[]int] {
	return sawings(s, s.Wrong)
}

// sawings yields each sawing that fits, and in which at most so many marks are wrong.
// All of them are in the same memory: a loop that keeps one keeps a copy.
func sawings(s api.BarStore, wrong int) iter.Seq[[]int] {
	return func(yield func([]int) bool) {
		saw(s, wrong, make([]int, 0, api.MaxPieces), yield)
	}
}

// saw yields each sawing that begins with the bars of the first pieces, and reports whether the loop goes on.
func saw(s api.BarStore, wrong int, first []int, yield func([]int) bool) bool {
	piece := len(first)
	if piece == len(s.Pieces) {
		return yield(first)
	}
	for bar := range s.Bars {
		left := wrong
		if isWrong(s, piece, bar) {
			left--
		}
		// The third index leaves no room behind a whole sawing, so that nothing which a loop appends comes into this memory.
		next := append(first[:piece:len(s.Pieces)], bar)
		if left < 0 || rest(s, next, bar) < 0 {
			continue
		}
		if !saw(s, left, next, yield) {
			return false
		}
	}
	return true
}

// known returns whether the answer to a question is yes in each truth, in none, or in some.
func known(s api.BarStore, ask func(sawing []int) bool) (int, api.Errno) {
	yes, no := false, false
	for sawing := range truths(s) {
		if ask(sawing) {
			yes = true
		} else {
			no = true
		}
		if yes && no {
			return api.Perhaps, api.OK
		}
	}
	switch {
	case yes:
		return api.Surely, api.OK
	case no:
		return api.Never, api.OK
	}
	return 0, api.ErrNone
}

// rest returns what the pieces of a sawing leave of a bar; it is below 0 if they do not fit.
// The sawing can be that of the first pieces only.
func rest(s api.BarStore, sawing []int, bar int) int {
	left, cuts := s.Bars[bar].Long, -1
	for piece, of := range sawing {
		if of == bar {
			left -= s.Pieces[piece].Long
			cuts++
		}
	}
	return left - max(cuts, 0)*s.Kerf
}

// hasRoom reports whether one more piece of a length could be cut from some bar.
func hasRoom(s api.BarStore, sawing []int, long int) bool {
	for bar := range s.Bars {
		need := long
		if slices.Contains(sawing, bar) {
			need += s.Kerf
		}
		if rest(s, sawing, bar) >= need {
			return true
		}
	}
	return false
}

// isWrong reports whether the mark of a piece is wrong if it is of a bar.
func isWrong(s api.BarStore, piece, bar int) bool {
	return !slices.Contains(s.Pieces[piece].Heats, s.Bars[bar].Heat)
}

// wrongMarks returns how many marks are wrong in a sawing.
func wrongMarks(s api.BarStore, sawing []int) int {
	wrong := 0
	for piece, bar := range sawing {
		if isWrong(s, piece, bar) {
			wrong++
		}
	}
	return wrong
}

// used returns how many bars have pieces in a sawing.
func used(sawing []int) int {
	var has [api.MaxBars]bool
	n := 0
	for _, bar := range sawing {
		if !has[bar] {
			has[bar] = true
			n++
		}
	}
	return n
}

// numbers returns the numbers at which a list is true, ascending.
func numbers(list []bool) []int {
	var at []int
	for n, is := range list {
		if is {
			at = append(at, n)
		}
	}
	return at
}
