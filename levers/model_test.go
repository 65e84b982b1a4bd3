package levers_test

import (
	"slices"
	"testing"

	"shackle/api"
	"shackle/levers"
)

// These tests see only what package levers exports. What they expect is from a model that tries each setting there
// is, just as the document defines it.

func span(low, high int) api.Span { return api.Span{Low: low, High: high} }

func lever(long, low, high int) api.Lever { return api.Lever{Long: long, Short: span(low, high)} }

func balance(weight, minutes, load, off int) api.Balance {
	return api.Balance{Weight: weight, Minutes: minutes, Load: load, Off: off}
}

// example is M of the chapter's examples, with more balances, of which so many can be wrong.
func example(wrong int, more ...api.Balance) api.Machine {
	balances := append([]api.Balance{balance(10, 5, 2500, 250)}, more...)
	return api.Machine{Levers: []api.Lever{lever(100, 10, 11), lever(50, 5, 5)}, Water: 20, Leak: span(1, 2), Balances: balances, Wrong: wrong}
}

// odd is the balance with which M becomes N.
func odd() api.Balance { return balance(0, 0, 1500, 0) }

// clone returns a machine that shares no memory with m.
func clone(m api.Machine) api.Machine {
	m.Levers = slices.Clone(m.Levers)
	m.Balances = slices.Clone(m.Balances)
	return m
}

func equal(a, b api.Machine) bool {
	return slices.Equal(a.Levers, b.Levers) && slices.Equal(a.Balances, b.Balances) && a.Water == b.Water && a.Leak == b.Leak && a.Wrong == b.Wrong
}

// fraction is a load: at least 0, divided by at least 1.
type fraction struct{ of, by int }

func (f fraction) low() int { return f.of / f.by }

func (f fraction) high() int {
	if f.of%f.by == 0 {
		return f.of / f.by
	}
	return f.of/f.by + 1
}

func (f fraction) atLeast(n int) bool { return f.of >= n*f.by }

func (f fraction) atMost(n int) bool { return f.of <= n*f.by }

// modelSetting is a setting, and whether each balance is right in it.
type modelSetting struct {
	shorts []int
	leak   int
	right  []bool
}

func (s modelSetting) wrongs() int {
	n := 0
	for _, is := range s.right {
		if !is {
			n++
		}
	}
	return n
}

// modelLoad returns the load of a weight, so many minutes after the tank was filled.
func modelLoad(m api.Machine, s modelSetting, weight, minutes int) fraction {
	water := m.Water
	for range minutes {
		water -= s.leak
	}
	if water < 0 {
		water = 0
	}
	f := fraction{weight + water, 1}
	for i, l := range m.Levers {
		f.of *= l.Long
		f.by *= s.shorts[i]
	}
	return f
}

// modelShorts returns each list with a short arm of each lever.
func modelShorts(levers []api.Lever) [][]int {
	all := [][]int{{}}
	for _, l := range levers {
		var longer [][]int
		for _, shorts := range all {
			for n := l.Short.Low; n <= l.Short.High; n++ {
				longer = append(longer, append(slices.Clone(shorts), n))
			}
		}
		all = longer
	}
	return all
}

func modelSettings(m api.Machine) []modelSetting {
	var all []modelSetting
	for _, shorts := range modelShorts(m.Levers) {
		for leak := m.Leak.Low; leak <= m.Leak.High; leak++ {
			s := modelSetting{shorts: shorts, leak: leak}
			for _, b := range m.Balances {
				load := modelLoad(m, s, b.Weight, b.Minutes)
				s.right = append(s.right, load.atLeast(b.Load-b.Off) && load.atMost(b.Load+b.Off))
			}
			all = append(all, s)
		}
	}
	return all
}

func modelTruths(m api.Machine) []modelSetting {
	var truths []modelSetting
	for _, s := range modelSettings(m) {
		if s.wrongs() <= m.Wrong {
			truths = append(truths, s)
		}
	}
	return truths
}

// modelAll returns what is so in settings, ascending.
func modelAll(settings []modelSetting, of func(s modelSetting) int) []int {
	var l []int
	for _, s := range settings {
		l = append(l, of(s))
	}
	slices.Sort(l)
	return slices.Compact(l)
}

func modelFewest(m api.Machine) int { return modelAll(modelSettings(m), modelSetting.wrongs)[0] }

func modelStrange(m api.Machine, truths []modelSetting) []int {
	var l []int
	for i := range m.Balances {
		if len(truths) > 0 && !slices.ContainsFunc(truths, func(s modelSetting) bool { return s.right[i] }) {
			l = append(l, i)
		}
	}
	return l
}

func modelBounds(m api.Machine, truths []modelSetting, weight, minutes int) api.Span {
	if len(truths) == 0 {
		return api.Span{}
	}
	load := func(s modelSetting) fraction { return modelLoad(m, s, weight, minutes) }
	low := modelAll(truths, func(s modelSetting) int { return load(s).low() })
	high := modelAll(truths, func(s modelSetting) int { return load(s).high() })
	return span(low[0], high[len(high)-1])
}

// modelSurely reports whether the load is at least some load in each truth.
func modelSurely(m api.Machine, truths []modelSetting, weight, minutes, load int) bool {
	return !slices.ContainsFunc(truths, func(s modelSetting) bool { return !modelLoad(m, s, weight, minutes).atLeast(load) })
}

// modelPulled returns 0 if there is no truth.
func modelPulled(m api.Machine, truths []modelSetting, weight, minutes, load int) int {
	some := slices.ContainsFunc(truths, func(s modelSetting) bool { return modelLoad(m, s, weight, minutes).atLeast(load) })
	switch {
	case len(truths) == 0:
		return 0
	case !some:
		return api.Never
	case modelSurely(m, truths, weight, minutes, load):
		return api.Surely
	}
	return api.Perhaps
}

// modelWeight returns -1 if there is no such weight.
func modelWeight(m api.Machine, truths []modelSetting, minutes, load int) int {
	for weight := 0; len(truths) > 0 && weight <= api.MaxWeight; weight++ {
		if modelSurely(m, truths, weight, minutes, load) {
			return weight
		}
	}
	return -1
}

// modelUntil returns -1 if there are no such minutes.
func modelUntil(m api.Machine, truths []modelSetting, weight, load int) int {
	until := -1
	for minutes := range api.MaxMinutes + 1 {
		if len(truths) > 0 && modelSurely(m, truths, weight, minutes, load) {
			until = minutes
		}
	}
	return until
}

// none is the error of the functions that need a truth.
func none(truths []modelSetting) api.Errno {
	if len(truths) == 0 {
		return api.ErrNone
	}
	return api.OK
}

// ask holds each function of the package against the model.
func ask(t *testing.T, m api.Machine, d *dice) {
	t.Helper()
	truths := modelTruths(m)
	if e := levers.Check(m); e != api.OK {
		t.Fatalf("%+v: Check = %d", m, e)
	}
	if n, e := levers.Fewest(m); n != modelFewest(m) || e != api.OK {
		t.Errorf("%+v: Fewest = %d, %d, not %d", m, n, e, modelFewest(m))
	}
	if n, e := levers.Many(m); n != len(truths) || e != none(truths) {
		t.Errorf("%+v: Many = %d, %d, not %d", m, n, e, len(truths))
	}
	askLists(t, m, truths)
	for _, weight := range []int{0, 1 + d.upTo(60), 60 + d.upTo(9940)} {
		for _, minutes := range []int{0, 1 + d.upTo(20), 99} {
			askPull(t, m, truths, weight, minutes)
		}
	}
}

func askLists(t *testing.T, m api.Machine, truths []modelSetting) {
	t.Helper()
	list := func(name string, l []int, e api.Errno, want []int) {
		t.Helper()
		if !slices.Equal(l, want) || e != none(truths) {
			t.Errorf("%+v: %s = %v, %d, not %v", m, name, l, e, want)
		}
	}
	for i := range m.Levers {
		l, e := levers.Shorts(m, i)
		list("Shorts", l, e, modelAll(truths, func(s modelSetting) int { return s.shorts[i] }))
	}
	l, e := levers.Leaks(m)
	list("Leaks", l, e, modelAll(truths, func(s modelSetting) int { return s.leak }))
	l, e = levers.Strange(m)
	list("Strange", l, e, modelStrange(m, truths))
}

// askPull asks for the load of a weight, and for loads that are just reached, or just not.
func askPull(t *testing.T, m api.Machine, truths []modelSetting, weight, minutes int) {
	t.Helper()
	bounds := modelBounds(m, truths, weight, minutes)
	if s, e := levers.Load(m, weight, minutes); s != bounds || e != none(truths) {
		t.Errorf("%+v: Load(%d, %d) = %v, %d, not %v", m, weight, minutes, s, e, bounds)
	}
	for _, load := range []int{0, bounds.Low - 1, bounds.Low, bounds.Low + 1, (bounds.Low + bounds.High) / 2, bounds.High - 1, bounds.High, bounds.High + 1} {
		load = min(max(load, 0), api.MaxLoad)
		want := modelPulled(m, truths, weight, minutes, load)
		if n, e := levers.Pulled(m, weight, minutes, load); n != want || e != none(truths) {
			t.Errorf("%+v: Pulled(%d, %d, %d) = %d, %d, not %d", m, weight, minutes, load, n, e, want)
		}
	}
	load := min(bounds.Low+1, api.MaxLoad)
	number := func(name string, n int, e api.Errno, want int) {
		t.Helper()
		if want < 0 && (n != 0 || e != api.ErrNone) || want >= 0 && (n != want || e != api.OK) {
			t.Errorf("%+v: %s of %d, %d, %d = %d, %d, not %d", m, name, weight, minutes, load, n, e, want)
		}
	}
	n, e := levers.Weight(m, minutes, load)
	number("Weight", n, e, modelWeight(m, truths, minutes, load))
	load = min(bounds.Low, api.MaxLoad)
	n, e = levers.Until(m, weight, load)
	number("Until", n, e, modelUntil(m, truths, weight, load))
}
