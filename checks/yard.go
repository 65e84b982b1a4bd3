package checks

import (
	"slices"

	"shackle/api"
)

const (
	ground    = -1 // stands for a machine; its error is 0, so that the error of a machine is its difference from the ground
	noCompare = -1 // stands for a comparison, in a step by what the error of a machine can be
)

// edge is a step, and what it says: by how much the error of its To is greater, at most, than that of its From.
type edge struct {
	api.CheckStep
	most int
}

// yard is a valid yard, and all steps that there can be in a proof.
type yard struct {
	api.Yard
	edges []edge
}

// open returns a yard, if it is valid and what is asked of it is allowed.
func open(y api.Yard, allowed bool) (yard, api.Errno) {
	if e := Check(y); e != api.OK {
		return yard{}, e
	}
	if !allowed {
		return yard{}, api.ErrArg
	}
	v := yard{Yard: y}
	for machine, s := range y.Machines {
		v.addEdges(ground, machine, noCompare, s)
	}
	for i, c := range y.Compares {
		v.addEdges(c.B, c.A, i, spanOf(c))
	}
	return v, api.OK
}

// addEdges adds both steps by which a number of a span is how much the error of to is greater than that of from.
func (v *yard) addEdges(from, to, by int, s api.Span) {
	v.edges = append(v.edges,
		edge{api.CheckStep{From: from, To: to, By: by}, s.High},
		edge{api.CheckStep{From: to, To: from, By: by}, -s.Low})
}

// blamed returns the smallest sets of machines without whose comparisons the yard agrees with itself.
func (v yard) blamed() []set {
	return smallest(len(v.Machines), func(s set) bool {
		return v.agrees(func(compare int) bool {
			c := v.Compares[compare]
			return s.has(c.A) || s.has(c.B)
		})
	})
}

// truths yields differences of which all states are truths, and each truth is a state of some of them.
func (v yard) truths(yield func(differences) bool) {
	for s := range sets(len(v.Compares)) {
		if s.count() > v.Wrong {
			return
		}
		if d := v.without(s.has); d.possible() && !yield(d) {
			return
		}
	}
}

// differ returns the least and the greatest number by which the error of a is greater than that of b in a truth.
func (v yard) differ(a, b int) (api.Span, api.Errno) {
	var all api.Span
	found := false
	for d := range v.truths {
		s := d.of(a, b)
		if found {
			s = api.Span{Low: min(all.Low, s.Low), High: max(all.High, s.High)}
		}
		all, found = s, true
	}
	if !found {
		return api.Span{}, api.ErrNone
	}
	return all, api.OK
}

// never returns all comparisons for which there is no truth that can be as it is asked, ascending.
func (v yard) never(can func(api.CheckCompare, api.Span) bool) ([]int, api.Errno) {
	found := false
	all := set(1)<<len(v.Compares) - 1
	var some set
	for d := range v.truths {
		found = true
		for i, c := range v.Compares {
			if can(c, d.of(c.A, c.B)) {
				some = some.with(i)
			}
		}
	}
	if !found {
		return nil, api.ErrNone
	}
	return (all &^ some).numbers(), api.OK
}

// canBeRight reports whether a comparison is right with some difference of a span.
func canBeRight(c api.CheckCompare, s api.Span) bool {
	return c.Low <= s.High && s.Low <= c.High
}

// canBeWrong reports whether a comparison is not right with some difference of a span.
func canBeWrong(c api.CheckCompare, s api.Span) bool {
	return s.Low < c.Low || c.High < s.High
}

// proof returns the steps of a proof, if there is one.
func (v yard) proof() []api.CheckStep {
	last, at, found := v.walk()
	if !found {
		return nil
	}
	// Where the walk came last can be beside the circle, but so many steps back is surely on it.
	for range places {
		at = last[placeOf(at)].From
	}
	var steps []api.CheckStep
	for to := at; len(steps) == 0 || to != at; {
		step := last[placeOf(to)]
		steps = append(steps, step.CheckStep)
		to = step.From
	}
	slices.Reverse(steps)
	return steps
}

// walk goes all edges in turn, from every place at once, as long as they lead anywhere by less than it was known. If
// they still do after as many turns as there are places, the walk goes in a circle: it reports so, and returns where
// it came last, and the last edge to each place.
func (v yard) walk() (last [places]edge, at int, found bool) {
	var most [places]int
	for range places {
		found = false
		for _, e := range v.edges {
			n := most[placeOf(e.From)] + e.most
			if to := placeOf(e.To); n < most[to] {
				most[to], last[to] = n, e
				at, found = e.To, true
			}
		}
	}
	return last, at, found
}
