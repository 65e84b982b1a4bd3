package checks_test

import (
	"slices"

	"shackle/api"
)

// dice gives the same numbers in each run.
type dice struct{ state uint64 }

// upTo returns a number from 0 to n-1.
func (d *dice) upTo(n int) int {
	d.state = d.state*6364136223846793005 + 1442695040888963407
	return int(d.state>>33) % n
}

// from returns a number of a span.
func (d *dice) from(s api.Span) int { return s.Low + d.upTo(s.High-s.Low+1) }

// compare returns a comparison that is often right with some errors, and says a difference to some number.
func (d *dice) compare(errors []int, off int) api.CheckCompare {
	a := d.upTo(len(errors))
	b := (a + 1 + d.upTo(len(errors)-1)) % len(errors)
	by := errors[a] - errors[b]
	if d.upTo(3) == 0 {
		by += d.upTo(2*off+5) - off - 2
	}
	by = min(max(by, -120), 120)
	return compare(a, b, max(by-d.upTo(off), -120), min(by+d.upTo(off), 120))
}

// errors returns errors of all machines.
func (d *dice) errors(y api.Yard) []int {
	var l []int
	for _, s := range y.Machines {
		l = append(l, d.from(s))
	}
	return l
}

// yard returns a valid yard with not too many states.
func (d *dice) yard() api.Yard {
	var y api.Yard
	around := []int{-60, -57, -3, 0, 2, 55}[d.upTo(6)]
	for range d.upTo(api.MaxMachines + 1) {
		low := around + d.upTo(4)
		y.Machines = append(y.Machines, span(low, min(low+d.upTo(4), 60)))
	}
	if len(y.Machines) > 1 {
		errors := d.errors(y)
		for range d.upTo(api.MaxCompares + 1) {
			y.Compares = append(y.Compares, d.compare(errors, 1+d.upTo(3)))
		}
	}
	y.Wrong = d.upTo(len(y.Compares)/2 + 1)
	return y
}

// yards calls f with some yards, and all the edges that the chapter names.
func yards(f func(y api.Yard, d *dice)) {
	d := &dice{1}
	for _, y := range edges() {
		f(y, d)
	}
	for range 500 {
		f(d.yard(), d)
	}
}

func edges() []api.Yard {
	any := span(-60, 60)
	two := func(a, b api.Span, compares ...api.CheckCompare) api.Yard {
		return api.Yard{Machines: []api.Span{a, b}, Compares: compares}
	}
	ring := []api.CheckCompare{compare(0, 1, 1, 1), compare(1, 2, 1, 1), compare(2, 0, 1, 1)}
	l := []api.Yard{
		{}, // no machines: one state
		{Machines: []api.Span{}, Compares: []api.CheckCompare{}, Wrong: 8},
		{Machines: []api.Span{any}},
		{Machines: []api.Span{span(60, 60), span(-60, -60)}},
		{Machines: []api.Span{span(3, 3), span(-2, 1), span(-60, -59), span(0, 0), span(58, 60)}},
		two(any, any, compare(1, 0, 119, 120)),
		two(any, any, compare(0, 1, -120, -120)),
		two(any, any, compare(0, 1, -120, 120)),
		two(any, any, compare(0, 1, 5, 5), compare(1, 0, -5, -5)),
		two(any, any, compare(0, 1, 5, 5), compare(1, 0, 5, 5)),
		two(span(0, 5), span(0, 5), compare(0, 1, 5, 9)),
		two(span(0, 5), span(0, 5), compare(0, 1, 6, 9)), // against the errors that machines can have
		two(span(0, 5), span(1, 5), compare(0, 1, 5, 9)),
		two(span(0, 5), span(0, 4), compare(0, 1, -9, -5)),
		two(span(-3, 3), span(-3, 3), compare(0, 1, 6, 6)),
		two(span(-60, -60), span(60, 60), compare(0, 1, -119, 120)),
		two(span(-60, -60), span(60, 60), compare(1, 0, 120, 120), compare(0, 1, -120, -120)),
		exact(3, 0, ring...),
		exact(3, 0, compare(0, 1, 0, 1), compare(1, 2, 0, 1), compare(2, 0, 0, 1)), // they are right just if all are 0
		{Machines: slices.Repeat([]api.Span{span(0, 12)}, 3), Compares: []api.CheckCompare{compare(0, 1, 0, 1), compare(1, 2, 0, 1), compare(2, 0, 0, 1)}},
		{Machines: slices.Repeat([]api.Span{span(0, 12)}, 3), Compares: ring, Wrong: 1},
		{Machines: slices.Repeat([]api.Span{span(0, 4)}, 5), Compares: []api.CheckCompare{compare(4, 3, 1, 1), compare(3, 2, 1, 1), compare(2, 1, 1, 1), compare(1, 0, 1, 1)}},
		{Machines: slices.Repeat([]api.Span{span(0, 3)}, 5), Compares: []api.CheckCompare{compare(4, 3, 1, 1), compare(3, 2, 1, 1), compare(2, 1, 1, 1), compare(1, 0, 1, 1)}, Wrong: 1},
		{Machines: slices.Repeat([]api.Span{span(0, 1)}, 4), Compares: []api.CheckCompare{compare(0, 1, 2, 3), compare(2, 3, 2, 3)}, Wrong: 1}, // two circles that have no machine in common
	}
	for wrong := range api.MaxCompares + 1 {
		l = append(l, example(wrong),
			exact(2, wrong, slices.Repeat([]api.CheckCompare{compare(0, 1, 1, 1)}, 8)...),
			exact(2, wrong, slices.Repeat([]api.CheckCompare{compare(0, 1, 0, 0), compare(1, 0, -1, -1)}, 4)...),
			exact(5, wrong, compare(0, 1, 1, 1), compare(0, 2, 1, 1), compare(0, 3, 1, 1), compare(0, 4, 1, 1), compare(1, 2, 0, 0), compare(3, 4, 1, 2)),
			api.Yard{Machines: slices.Repeat([]api.Span{span(-2, 2)}, 4), Compares: append(slices.Clone(ring), compare(0, 3, 0, 0), compare(1, 3, 1, 1), compare(2, 3, 2, 2), compare(3, 0, 4, 4), compare(1, 0, 1, 1)), Wrong: wrong})
	}
	return l
}
