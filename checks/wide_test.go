package checks_test

import (
	"math/bits"
	"slices"
	"testing"

	"shackle/api"
)

// Five machines with wide spans have too many states to try them all. This model narrows the span of each machine by
// that of another one, comparison by comparison, until nothing changes; what is left at both ends is so in some state.

// rule says, as a comparison does, that the error of a less that of b is of a span, also of one that no comparison can have.
type rule struct {
	a, b int
	by   api.Span
}

// narrowed returns what is left of spans if all rules hold; false if there is nothing.
func narrowed(spans []api.Span, rules []rule) ([]api.Span, bool) {
	spans = slices.Clone(spans)
	for {
		before := slices.Clone(spans)
		for _, r := range rules {
			a, b := &spans[r.a], &spans[r.b]
			*a = span(max(a.Low, b.Low+r.by.Low), min(a.High, b.High+r.by.High))
			*b = span(max(b.Low, a.Low-r.by.High), min(b.High, a.High-r.by.Low))
			if a.Low > a.High || b.Low > b.High {
				return nil, false
			}
		}
		if slices.Equal(spans, before) {
			return spans, true
		}
	}
}

// rulesWithout returns the rules of all comparisons but some.
func rulesWithout(y api.Yard, left []int) []rule {
	var l []rule
	for i, c := range y.Compares {
		if !slices.Contains(left, i) {
			l = append(l, rule{c.A, c.B, span(c.Low, c.High)})
		}
	}
	return l
}

// leavings returns each list of numbers of comparisons that can be left out.
func leavings(y api.Yard) [][]int {
	var all [][]int
	for set := range uint(1) << len(y.Compares) {
		var left []int
		for i := range y.Compares {
			if set>>i&1 == 1 {
				left = append(left, i)
			}
		}
		all = append(all, left)
	}
	slices.SortFunc(all, func(a, b []int) int { return len(a) - len(b) })
	return all
}

func wideFacts(y api.Yard) facts {
	agrees := func(left []int) bool {
		_, ok := narrowed(y.Machines, rulesWithout(y, left))
		return ok
	}
	f := facts{fewest: -1}
	f.machines, f.blamed = modelBlamed(y, agrees)
	right, wrong := make([]bool, len(y.Compares)), make([]bool, len(y.Compares))
	for _, left := range leavings(y) {
		if f.fewest < 0 && agrees(left) {
			f.fewest = len(left)
		}
		if len(left) <= y.Wrong && agrees(left) {
			f.widen(y, left)
			for i := range y.Compares {
				right[i] = right[i] || !slices.Contains(left, i)
				wrong[i] = wrong[i] || canBeWrong(y, left, i)
			}
		}
	}
	if f.truth {
		for i := range y.Compares {
			if !wrong[i] {
				f.sure = append(f.sure, i)
			}
			if !right[i] {
				f.strange = append(f.strange, i)
			}
		}
	}
	return f
}

// canBeWrong reports whether, if some comparisons are left out, one of these can be wrong.
func canBeWrong(y api.Yard, left []int, i int) bool {
	c := y.Compares[i]
	const far = 1000
	for _, by := range []api.Span{span(-far, c.Low-1), span(c.High+1, far)} {
		if _, ok := narrowed(y.Machines, append(rulesWithout(y, left), rule{c.A, c.B, by})); ok {
			return true
		}
	}
	return false
}

// widen takes into account all that is so if some comparisons are left out.
func (f *facts) widen(y api.Yard, left []int) {
	rules := rulesWithout(y, left)
	spans, _ := narrowed(y.Machines, rules)
	if !f.truth {
		f.truth = true
		f.errors = spans
		for a := range spans {
			f.differ = append(f.differ, make([]api.Span, len(spans)))
			for b := range spans {
				f.differ[a][b] = span(spans[a].Low-spans[b].Low, spans[a].Low-spans[b].Low)
				if a != b {
					f.differ[a][b] = span(1000, -1000)
				}
			}
		}
	}
	for b, s := range spans {
		f.errors[b] = both(f.errors[b], s)
		for n := s.Low; n <= s.High; n++ {
			with := slices.Clone(spans)
			with[b] = span(n, n)
			with, _ = narrowed(with, rules)
			for a, s := range with {
				f.differ[a][b] = both(f.differ[a][b], span(s.Low-n, s.High-n))
			}
		}
	}
}

func both(a, b api.Span) api.Span { return span(min(a.Low, b.Low), max(a.High, b.High)) }

// wide returns a yard with many machines, whose errors are hardly known.
func (d *dice) wide() api.Yard {
	y := api.Yard{Wrong: d.upTo(3)}
	var errors []int
	for range 3 + d.upTo(3) {
		s := span(d.upTo(121)-60, d.upTo(121)-60)
		if s.Low > s.High {
			s.Low, s.High = s.High, s.Low
		}
		if d.upTo(2) == 0 {
			s = span(-60, 60)
		}
		y.Machines = append(y.Machines, s)
		errors = append(errors, d.from(s))
	}
	for range d.upTo(api.MaxCompares + 1) {
		y.Compares = append(y.Compares, d.compare(errors, 1+d.upTo(30)))
	}
	return y
}

// P5.2 to P5.8: wide spans of five machines, and eight comparisons.
func TestWideSpans(t *testing.T) {
	d := &dice{7}
	truths := 0
	for range 120 {
		y := d.wide()
		f := wideFacts(y)
		ask(t, y, f)
		if f.truth && f.fewest > 0 {
			truths++
		}
	}
	if truths < 10 {
		t.Errorf("only %d yards with wrong comparisons", truths)
	}
	for wrong := range api.MaxCompares + 1 {
		y := full(wrong)
		ask(t, y, wideFacts(y))
	}
}

// full returns a yard with as much as there can be; not all can be right.
func full(wrong int) api.Yard {
	return api.Yard{
		Machines: slices.Repeat([]api.Span{span(-60, 60)}, 5),
		Compares: []api.CheckCompare{compare(0, 1, 20, 30), compare(1, 2, 20, 30), compare(2, 3, 20, 30), compare(3, 4, 20, 30), compare(4, 0, -70, -50), compare(0, 4, 120, 120), compare(2, 0, -55, -50), compare(1, 4, -120, -100)},
		Wrong:    wrong,
	}
}

// The models agree with each other.
func TestModels(t *testing.T) {
	yards(func(y api.Yard, d *dice) {
		if bits.Len(uint(len(modelStates(y)))) > 12 {
			return
		}
		if f, g := modelFacts(y), wideFacts(y); !f.equal(g) {
			t.Errorf("%+v: %+v and %+v", y, f, g)
		}
	})
}
