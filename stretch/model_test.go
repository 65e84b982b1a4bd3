package stretch_test

import (
	"slices"
	"testing"

	"shackle/api"
	"shackle/stretch"
)

// These tests see only what package stretch exports. What they expect is from a model that tries all lengths before
// and after with all lengths of rods, just as the document defines it.

func span(low, high int) api.Span { return api.Span{Low: low, High: high} }

func rod(long, wear, grow int) api.Rod { return api.Rod{Long: long, Wear: wear, Grow: grow} }

func reading(when, rod, count, rest, off, low, high int) api.Reading {
	return api.Reading{When: when, Rod: rod, Count: count, Rest: rest, Off: off, Warm: span(low, high)}
}

// example is P of the chapter's examples, with more readings, of which so many can be wrong.
func example(wrong int, more ...api.Reading) api.Pull {
	readings := append([]api.Reading{reading(1, 0, 10, 0, 2, 0, 0), reading(2, 0, 10, 30, 2, 0, 0)}, more...)
	return api.Pull{Iron: 12, Guess: span(9900, 10200), Rods: []api.Rod{rod(1000, 1, 12), rod(500, 0, 20)}, Readings: readings, Wrong: wrong}
}

// warm is the reading with which P becomes Q.
func warm() api.Reading { return reading(1, 1, 20, 0, 1, 20, 20) }

// odd is the reading with which P has no truth.
func odd() api.Reading { return reading(1, 0, 5, 0, 9, 0, 0) }

// clone returns a pull that shares no memory with p.
func clone(p api.Pull) api.Pull {
	p.Rods = slices.Clone(p.Rods)
	p.Readings = slices.Clone(p.Readings)
	return p
}

func equal(a, b api.Pull) bool {
	return a.Iron == b.Iron && a.Guess == b.Guess && a.Wrong == b.Wrong && slices.Equal(a.Rods, b.Rods) && slices.Equal(a.Readings, b.Readings)
}

// modelSetting is lengths before and after and of rods, and whether each reading is right with them.
type modelSetting struct {
	before, after int
	rods          []int
	right         []bool
}

func (s modelSetting) stretch() int { return s.after - s.before }

func (s modelSetting) wrongs() int {
	n := 0
	for _, is := range s.right {
		if !is {
			n++
		}
	}
	return n
}

// modelRight reports whether a reading is right if what it measured, and its rod, have lengths.
func modelRight(p api.Pull, r api.Reading, length, rod int) bool {
	for warm := r.Warm.Low; warm <= r.Warm.High; warm++ {
		apart := length*(1000000+p.Iron*warm) - (r.Count*rod+r.Rest)*(1000000+p.Rods[r.Rod].Grow*warm)
		if apart < 0 {
			apart = -apart
		}
		if apart <= r.Off*1000000 {
			return true
		}
	}
	return false
}

// modelRods returns each list with a length of each rod.
func modelRods(rods []api.Rod) [][]int {
	all := [][]int{{}}
	for _, r := range rods {
		var longer [][]int
		for _, l := range all {
			for n := r.Long - r.Wear; n <= r.Long; n++ {
				longer = append(longer, append(slices.Clone(l), n))
			}
		}
		all = longer
	}
	return all
}

func modelSettings(p api.Pull) []modelSetting {
	var all []modelSetting
	for _, rods := range modelRods(p.Rods) {
		for before := p.Guess.Low; before <= p.Guess.High; before++ {
			for after := p.Guess.Low; after <= p.Guess.High; after++ {
				s := modelSetting{before: before, after: after, rods: rods}
				for _, r := range p.Readings {
					length := before
					if r.When == api.After {
						length = after
					}
					s.right = append(s.right, modelRight(p, r, length, rods[r.Rod]))
				}
				all = append(all, s)
			}
		}
	}
	return all
}

// modelOf returns all settings, and those that are truths.
func modelOf(p api.Pull) (settings, truths []modelSetting) {
	settings = modelSettings(p)
	for _, s := range settings {
		if s.wrongs() <= p.Wrong {
			truths = append(truths, s)
		}
	}
	return settings, truths
}

func modelTruths(p api.Pull) []modelSetting {
	_, truths := modelOf(p)
	return truths
}

// modelAll returns what is so in settings, ascending.
func modelAll(settings []modelSetting, of func(s modelSetting) int) []int {
	var l []int
	for _, s := range settings {
		l = append(l, of(s))
	}
	slices.Sort(l)
	return slices.Compact(l)
}

func modelStrange(p api.Pull, truths []modelSetting) []int {
	var l []int
	for i := range p.Readings {
		if len(truths) > 0 && !slices.ContainsFunc(truths, func(s modelSetting) bool { return s.right[i] }) {
			l = append(l, i)
		}
	}
	return l
}

// modelStretch returns the span 0 to 0 if there is no truth.
func modelStretch(truths []modelSetting) api.Span {
	if len(truths) == 0 {
		return api.Span{}
	}
	l := modelAll(truths, modelSetting.stretch)
	return span(l[0], l[len(l)-1])
}

// modelHolds returns 0 if there is no truth.
func modelHolds(truths []modelSetting, part int) int {
	yes := 0
	for _, s := range truths {
		if 1000*s.stretch() <= part*s.before {
			yes++
		}
	}
	switch {
	case len(truths) == 0:
		return 0
	case yes == len(truths):
		return api.Surely
	case yes == 0:
		return api.Never
	}
	return api.Perhaps
}

// modelBest returns -1 if there is no such part.
func modelBest(truths []modelSetting) int {
	for part := range api.MaxPart + 1 {
		if modelHolds(truths, part) == api.Surely {
			return part
		}
	}
	return -1
}

// modelSpread returns how many lengths a rod has in truths, and by how much stretches differ at most if one of them is known.
func modelSpread(truths []modelSetting, rod int) (lengths, spread int) {
	all := modelAll(truths, func(s modelSetting) int { return s.rods[rod] })
	for _, long := range all {
		var with []modelSetting
		for _, s := range truths {
			if s.rods[rod] == long {
				with = append(with, s)
			}
		}
		of := modelStretch(with)
		spread = max(spread, of.High-of.Low)
	}
	return len(all), spread
}

// modelNext returns -1 if there is no such rod.
func modelNext(p api.Pull, truths []modelSetting) int {
	next, least := -1, 0
	for i := range p.Rods {
		lengths, spread := modelSpread(truths, i)
		if lengths > 1 && (next < 0 || spread < least) {
			next, least = i, spread
		}
	}
	return next
}

// none is the error of the functions that need a truth.
func none(truths []modelSetting) api.Errno {
	if len(truths) == 0 {
		return api.ErrNone
	}
	return api.OK
}

// ask holds each function of the package against the model.
func ask(t *testing.T, p api.Pull) {
	t.Helper()
	settings, truths := modelOf(p)
	if e := stretch.Check(p); e != api.OK {
		t.Fatalf("%+v: Check = %d", p, e)
	}
	if n, e := stretch.Fewest(p); n != modelAll(settings, modelSetting.wrongs)[0] || e != api.OK {
		t.Errorf("%+v: Fewest = %d, %d, not %d", p, n, e, modelAll(settings, modelSetting.wrongs)[0])
	}
	if n, e := stretch.Many(p); n != len(truths) || e != none(truths) {
		t.Errorf("%+v: Many = %d, %d, not %d", p, n, e, len(truths))
	}
	askLists(t, p, truths)
	if s, e := stretch.Stretch(p); s != modelStretch(truths) || e != none(truths) {
		t.Errorf("%+v: Stretch = %v, %d, not %v", p, s, e, modelStretch(truths))
	}
	number := func(name string, n int, e api.Errno, want int) {
		t.Helper()
		if want < 0 && (n != 0 || e != api.ErrNone) || want >= 0 && (n != want || e != api.OK) {
			t.Errorf("%+v: %s = %d, %d, not %d", p, name, n, e, want)
		}
	}
	best := modelBest(truths)
	n, e := stretch.Best(p)
	number("Best", n, e, best)
	n, e = stretch.Next(p)
	number("Next", n, e, modelNext(p, truths))
	for _, part := range []int{0, 1, best / 2, best - 1, best, best + 1, 500, 1000} {
		part = min(max(part, 0), api.MaxPart)
		if n, e := stretch.Holds(p, part); n != modelHolds(truths, part) || e != none(truths) {
			t.Errorf("%+v: Holds(%d) = %d, %d, not %d", p, part, n, e, modelHolds(truths, part))
		}
	}
}

func askLists(t *testing.T, p api.Pull, truths []modelSetting) {
	t.Helper()
	list := func(name string, l []int, e api.Errno, want []int) {
		t.Helper()
		if !slices.Equal(l, want) || e != none(truths) {
			t.Errorf("%+v: %s = %v, %d, not %v", p, name, l, e, want)
		}
	}
	l, e := stretch.Lengths(p, api.Before)
	list("Lengths before", l, e, modelAll(truths, func(s modelSetting) int { return s.before }))
	l, e = stretch.Lengths(p, api.After)
	list("Lengths after", l, e, modelAll(truths, func(s modelSetting) int { return s.after }))
	for i := range p.Rods {
		l, e = stretch.Rods(p, i)
		list("Rods", l, e, modelAll(truths, func(s modelSetting) int { return s.rods[i] }))
	}
	l, e = stretch.Strange(p)
	list("Strange", l, e, modelStrange(p, truths))
}
