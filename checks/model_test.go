package checks_test

import (
	"math/bits"
	"slices"
	"testing"

	"shackle/api"
	"shackle/checks"
)

// These tests see only what package checks exports. What they expect is from a model that tries all errors of all
// machines, just as the document defines it; a second one, for spans with many errors, is in wide_test.go.

func span(low, high int) api.Span { return api.Span{Low: low, High: high} }

func compare(a, b, low, high int) api.CheckCompare {
	return api.CheckCompare{A: a, B: b, Low: low, High: high}
}

// example is Y of the chapter's examples, with another Wrong.
func example(wrong int) api.Yard {
	return api.Yard{
		Machines: []api.Span{span(-10, 10), span(-10, 10), span(0, 0)},
		Compares: []api.CheckCompare{compare(0, 2, 2, 4), compare(1, 0, 1, 3), compare(1, 2, 8, 9), compare(1, 2, 8, 10)},
		Wrong:    wrong,
	}
}

// exact has so many machines without errors.
func exact(many, wrong int, compares ...api.CheckCompare) api.Yard {
	return api.Yard{Machines: make([]api.Span, many), Compares: compares, Wrong: wrong}
}

// clone returns a yard that shares no memory with y.
func clone(y api.Yard) api.Yard {
	y.Machines = slices.Clone(y.Machines)
	y.Compares = slices.Clone(y.Compares)
	return y
}

func equal(a, b api.Yard) bool {
	return slices.Equal(a.Machines, b.Machines) && slices.Equal(a.Compares, b.Compares) && a.Wrong == b.Wrong
}

// modelState is an error of each machine, and the comparisons that are not right with them.
type modelState struct {
	errors []int
	wrong  []int
}

func modelStates(y api.Yard) []modelState {
	all := []modelState{{}}
	for _, s := range y.Machines {
		var more []modelState
		for _, state := range all {
			for n := s.Low; n <= s.High; n++ {
				more = append(more, modelState{errors: append(slices.Clone(state.errors), n)})
			}
		}
		all = more
	}
	for k := range all {
		for i, c := range y.Compares {
			if by := all[k].errors[c.A] - all[k].errors[c.B]; by < c.Low || by > c.High {
				all[k].wrong = append(all[k].wrong, i)
			}
		}
	}
	return all
}

func modelTruths(y api.Yard) []modelState {
	return slices.DeleteFunc(modelStates(y), func(s modelState) bool { return len(s.wrong) > y.Wrong })
}

// facts is what is so of a yard. Without a truth, errors, differ, sure and strange are empty.
type facts struct {
	fewest        int
	truth         bool
	errors        []api.Span
	differ        [][]api.Span
	sure, strange []int
	machines      int
	blamed        []int
}

func (f facts) equal(g facts) bool {
	return f.fewest == g.fewest && f.truth == g.truth && slices.Equal(f.errors, g.errors) && slices.EqualFunc(f.differ, g.differ, slices.Equal) &&
		slices.Equal(f.sure, g.sure) && slices.Equal(f.strange, g.strange) && f.machines == g.machines && slices.Equal(f.blamed, g.blamed)
}

func modelFacts(y api.Yard) facts {
	states, truths := modelStates(y), modelTruths(y)
	f := facts{fewest: len(y.Compares), truth: len(truths) > 0}
	for _, s := range states {
		f.fewest = min(f.fewest, len(s.wrong))
	}
	f.machines, f.blamed = modelBlamed(y, func(left []int) bool {
		return slices.ContainsFunc(states, func(s modelState) bool { return !slices.ContainsFunc(s.wrong, not(left)) })
	})
	if !f.truth {
		return f
	}
	for a := range y.Machines {
		f.errors = append(f.errors, modelSpan(truths, func(s modelState) int { return s.errors[a] }))
		var row []api.Span
		for b := range y.Machines {
			row = append(row, modelSpan(truths, func(s modelState) int { return s.errors[a] - s.errors[b] }))
		}
		f.differ = append(f.differ, row)
	}
	for i := range y.Compares {
		isWrong := func(s modelState) bool { return slices.Contains(s.wrong, i) }
		isRight := func(s modelState) bool { return !isWrong(s) }
		if !slices.ContainsFunc(truths, isWrong) {
			f.sure = append(f.sure, i)
		}
		if !slices.ContainsFunc(truths, isRight) {
			f.strange = append(f.strange, i)
		}
	}
	return f
}

func not(l []int) func(int) bool { return func(n int) bool { return !slices.Contains(l, n) } }

// modelSpan returns the least and the greatest number that is so in truths.
func modelSpan(truths []modelState, of func(modelState) int) api.Span {
	var l []int
	for _, s := range truths {
		l = append(l, of(s))
	}
	return span(slices.Min(l), slices.Max(l))
}

// modelBlamed returns how many machines there are in the least sets with which a yard agrees with itself if all their comparisons are left out, and the machines of all these sets.
func modelBlamed(y api.Yard, agrees func(left []int) bool) (least int, all []int) {
	least = len(y.Machines) + 1
	var of uint
	for set := range uint(1) << len(y.Machines) {
		var left []int
		for i, c := range y.Compares {
			if set>>c.A&1 == 1 || set>>c.B&1 == 1 {
				left = append(left, i)
			}
		}
		switch n := bits.OnesCount(set); {
		case n > least || !agrees(left):
		case n < least:
			least, of = n, set
		default:
			of |= set
		}
	}
	for i := range y.Machines {
		if of>>i&1 == 1 {
			all = append(all, i)
		}
	}
	return least, all
}

// learn returns the facts of a yard as the functions say them.
func learn(t *testing.T, y api.Yard) facts {
	t.Helper()
	must := func(e api.Errno) {
		t.Helper()
		if e != api.OK {
			t.Fatalf("%+v: %d", y, e)
		}
	}
	var f facts
	var e api.Errno
	must(checks.Check(y))
	f.fewest, e = checks.Fewest(y)
	must(e)
	f.machines, e = checks.Machines(y)
	must(e)
	f.blamed, e = checks.Blamed(y)
	must(e)
	f.sure, e = checks.Sure(y)
	if e == api.ErrNone {
		mustAll(t, y, needTruth(y, 0, 0), api.ErrNone)
		return f
	}
	must(e)
	f.truth = true
	f.strange, e = checks.Strange(y)
	must(e)
	for a := range y.Machines {
		s, e := checks.Errors(y, a)
		must(e)
		f.errors = append(f.errors, s)
		var row []api.Span
		for b := range y.Machines {
			s, e := checks.Differ(y, a, b)
			must(e)
			row = append(row, s)
		}
		f.differ = append(f.differ, row)
	}
	return f
}

// ask holds each function of the package against what is so of a yard.
func ask(t *testing.T, y api.Yard, want facts) {
	t.Helper()
	if f := learn(t, y); !f.equal(want) {
		t.Errorf("%+v: %+v, not %+v", y, f, want)
	}
	proof, e := checks.Cycle(y)
	if want.fewest == 0 && (len(proof) > 0 || e != api.ErrNone) || want.fewest > 0 && (!proves(y, proof) || e != api.OK) {
		t.Errorf("%+v: Cycle = %+v, %d, Fewest %d", y, proof, e, want.fewest)
	}
}

// proves reports whether steps are a proof.
func proves(y api.Yard, steps []api.CheckStep) bool {
	sum := 0
	for i, s := range steps {
		n, ok := says(y, s)
		if !ok || s.To != steps[(i+1)%len(steps)].From {
			return false
		}
		sum += n
	}
	return sum < 0
}

// says returns the number that a step says; false if it says none.
func says(y api.Yard, s api.CheckStep) (int, bool) {
	isMachine := func(n int) bool { return n >= 0 && n < len(y.Machines) }
	switch {
	case s.By == -1 && s.From == -1 && isMachine(s.To):
		return y.Machines[s.To].High, true
	case s.By == -1 && s.To == -1 && isMachine(s.From):
		return -y.Machines[s.From].Low, true
	case s.By < 0 || s.By >= len(y.Compares):
		return 0, false
	}
	switch c := y.Compares[s.By]; {
	case s.To == c.A && s.From == c.B:
		return c.High, true
	case s.To == c.B && s.From == c.A:
		return -c.Low, true
	}
	return 0, false
}
