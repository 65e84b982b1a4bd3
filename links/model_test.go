package links_test

import (
	"slices"
	"testing"

	"shackle/api"
	"shackle/links"
)

// These tests see only what package links exports. What they expect is from a model that tries each choice of
// ends there is, just as the document defines it.

func span(low, high int) api.Span { return api.Span{Low: low, High: high} }

func weld(at, from, bar, smith int) api.Deed {
	return api.Deed{What: api.Weld, At: at, From: from, Bar: bar, Smith: smith}
}

func cut(at, from int) api.Deed { return api.Deed{What: api.Cut, At: at, From: from} }

func turn() api.Deed { return api.Deed{What: api.Turn} }

func prove() api.Deed { return api.Deed{What: api.Prove} }

func sight(after, at, from, bar, smith int) api.Sight {
	return api.Sight{After: after, At: at, From: from, Bar: bar, Smith: smith}
}

// example is K of the chapter's examples, with sights, and with so many that can be wrong.
func example(wrong int, sights ...api.Sight) api.Chain {
	deeds := []api.Deed{weld(0, 0, 5, 1), weld(1, 0, 5, 2), weld(2, 0, 6, 1), prove(), cut(0, 2), weld(0, 1, 7, 2)}
	return api.Chain{Deeds: deeds, Sights: sights, Wrong: wrong}
}

// sightS and sightT are S and T of the chapter's examples.
func sightS() api.Sight { return sight(6, 1, 0, 6, -1) }

func sightT() api.Sight { return sight(6, 0, 0, -1, 1) }

// clone returns a chain that shares no memory with c.
func clone(c api.Chain) api.Chain {
	c.Deeds = slices.Clone(c.Deeds)
	c.Sights = slices.Clone(c.Sights)
	return c
}

func equal(a, b api.Chain) bool {
	return slices.Equal(a.Deeds, b.Deeds) && slices.Equal(a.Sights, b.Sights) && a.Wrong == b.Wrong
}

// modelPast is what came of a choice of ends: the cable after each number of deeds, the deeds at which each link
// was proved, and whether each sight is right.
type modelPast struct {
	cables [][]int
	proofs [][]int
	right  []bool
}

func (p modelPast) last() []int { return p.cables[len(p.cables)-1] }

func (p modelPast) wrongs() int {
	n := 0
	for _, is := range p.right {
		if !is {
			n++
		}
	}
	return n
}

// modelLinks returns the deeds that weld, which are the links.
func modelLinks(c api.Chain) []api.Deed {
	var l []api.Deed
	for _, d := range c.Deeds {
		if d.What == api.Weld {
			l = append(l, d)
		}
	}
	return l
}

// modelChoices returns each list of deeds in which the ends that are not known have become ones that are.
func modelChoices(deeds []api.Deed) [][]api.Deed {
	all := [][]api.Deed{{}}
	for _, d := range deeds {
		var longer [][]api.Deed
		for _, l := range all {
			if d.From != 2 {
				longer = append(longer, append(slices.Clone(l), d))
				continue
			}
			for end := range 2 {
				known := d
				known.From = end
				longer = append(longer, append(slices.Clone(l), known))
			}
		}
		all = longer
	}
	return all
}

func flipped(cable []int) []int {
	var l []int
	for i := len(cable) - 1; i >= 0; i-- {
		l = append(l, cable[i])
	}
	return l
}

// modelDo returns the cable after a deed whose end is known. What is counted from the tail is done at the head of the flipped cable.
func modelDo(cable []int, d api.Deed, link int) []int {
	if d.From == 1 {
		d.From = 0
		return flipped(modelDo(flipped(cable), d, link))
	}
	switch d.What {
	case api.Weld:
		return slices.Concat(cable[:d.At], []int{link}, cable[d.At:])
	case api.Cut:
		return slices.Concat(cable[:d.At], cable[d.At+1:])
	case api.Turn:
		return flipped(cable)
	}
	return slices.Clone(cable)
}

// modelFollow returns the past of deeds whose ends are known.
func modelFollow(c api.Chain, deeds []api.Deed) modelPast {
	welded := modelLinks(c)
	p := modelPast{cables: [][]int{{}}, proofs: make([][]int, len(welded))}
	link := 0
	for i, d := range deeds {
		cable := modelDo(p.cables[i], d, link)
		if d.What == api.Weld {
			link++
		}
		if d.What == api.Prove {
			for _, n := range cable {
				p.proofs[n] = append(p.proofs[n], i)
			}
		}
		p.cables = append(p.cables, cable)
	}
	for _, s := range c.Sights {
		cable := p.cables[s.After]
		if s.From == 1 {
			cable = flipped(cable)
		}
		d := welded[cable[s.At]]
		p.right = append(p.right, (s.Bar == -1 || s.Bar == d.Bar) && (s.Smith == -1 || s.Smith == d.Smith))
	}
	return p
}

// modelPasts returns the past of each choice of ends.
func modelPasts(c api.Chain) []modelPast {
	var l []modelPast
	for _, deeds := range modelChoices(c.Deeds) {
		l = append(l, modelFollow(c, deeds))
	}
	return l
}

func modelTruths(c api.Chain) []modelPast {
	var truths []modelPast
	for _, p := range modelPasts(c) {
		if p.wrongs() <= c.Wrong {
			truths = append(truths, p)
		}
	}
	return truths
}

// modelAll returns what is so in truths, ascending.
func modelAll(truths []modelPast, of func(p modelPast) int) []int {
	var l []int
	for _, p := range truths {
		l = append(l, of(p))
	}
	slices.Sort(l)
	return slices.Compact(l)
}

// modelFirst returns -1 if there is no such sight.
func modelFirst(pasts []modelPast, sights int) int {
	for n := range sights {
		if !slices.ContainsFunc(pasts, func(p modelPast) bool { return !slices.Contains(p.right[:n+1], false) }) {
			return n
		}
	}
	return -1
}

// modelWorst returns the greatest number of truths in which the link at a place has the same bar and smith.
func modelWorst(c api.Chain, truths []modelPast, at int) int {
	welded := modelLinks(c)
	worst := 0
	for _, p := range truths {
		n := 0
		for _, q := range truths {
			a, b := welded[p.last()[at]], welded[q.last()[at]]
			if a.Bar == b.Bar && a.Smith == b.Smith {
				n++
			}
		}
		worst = max(worst, n)
	}
	return worst
}

// modelNext returns -1 if there is no such place.
func modelNext(c api.Chain, truths []modelPast) int {
	if len(truths) == 0 {
		return -1
	}
	next, least := -1, 0
	for at := range truths[0].last() {
		if n := modelWorst(c, truths, at); next < 0 || n < least {
			next, least = at, n
		}
	}
	return next
}

// none is the error of the functions that need a truth.
func none(truths []modelPast) api.Errno {
	if len(truths) == 0 {
		return api.ErrNone
	}
	return api.OK
}

// ask holds each function of the package against the model.
func ask(t *testing.T, c api.Chain) {
	t.Helper()
	truths := modelTruths(c)
	if e := links.Check(c); e != api.OK {
		t.Fatalf("%+v: Check = %d", c, e)
	}
	askCounts(t, c, truths)
	for at := range modelPasts(c)[0].last() {
		askPlace(t, c, truths, at)
	}
	for link := range modelLinks(c) {
		askLink(t, c, truths, link)
	}
}

func askCounts(t *testing.T, c api.Chain, truths []modelPast) {
	t.Helper()
	pasts := modelPasts(c)
	if n, e := links.Length(c); n != len(pasts[0].last()) || e != api.OK {
		t.Errorf("%+v: Length = %d, %d, not %d", c, n, e, len(pasts[0].last()))
	}
	if n, e := links.Many(c); n != len(truths) || e != none(truths) {
		t.Errorf("%+v: Many = %d, %d, not %d", c, n, e, len(truths))
	}
	fewest := modelAll(pasts, modelPast.wrongs)[0]
	if n, e := links.Fewest(c); n != fewest || e != api.OK {
		t.Errorf("%+v: Fewest = %d, %d, not %d", c, n, e, fewest)
	}
	place := func(name string, n int, e api.Errno, want int) {
		t.Helper()
		if want < 0 && (n != 0 || e != api.ErrNone) || want >= 0 && (n != want || e != api.OK) {
			t.Errorf("%+v: %s = %d, %d, not %d", c, name, n, e, want)
		}
	}
	n, e := links.First(c)
	place("First", n, e, modelFirst(pasts, len(c.Sights)))
	n, e = links.Next(c)
	place("Next", n, e, modelNext(c, truths))
}

func askPlace(t *testing.T, c api.Chain, truths []modelPast, at int) {
	t.Helper()
	welded := modelLinks(c)
	list := func(name string, l []int, e api.Errno, of func(link int) int) {
		t.Helper()
		want := modelAll(truths, func(p modelPast) int { return of(p.last()[at]) })
		if !slices.Equal(l, want) || e != none(truths) {
			t.Errorf("%+v: %s(%d) = %v, %d, not %v", c, name, at, l, e, want)
		}
	}
	l, e := links.Who(c, at)
	list("Who", l, e, func(link int) int { return link })
	l, e = links.Bars(c, at)
	list("Bars", l, e, func(link int) int { return welded[link].Bar })
	l, e = links.Smiths(c, at)
	list("Smiths", l, e, func(link int) int { return welded[link].Smith })
	for other := range modelPasts(c)[0].last() {
		want := modelAlike(c, truths, at, other)
		if n, e := links.Alike(c, at, other); n != want || e != none(truths) {
			t.Errorf("%+v: Alike(%d, %d) = %d, %d, not %d", c, at, other, n, e, want)
		}
	}
}

// modelAlike returns 0 if there is no truth.
func modelAlike(c api.Chain, truths []modelPast, a, b int) int {
	welded := modelLinks(c)
	yes := 0
	for _, p := range truths {
		if welded[p.last()[a]].Bar == welded[p.last()[b]].Bar {
			yes++
		}
	}
	switch {
	case len(truths) == 0:
		return 0
	case yes == len(truths):
		return api.Surely
	case yes == 0:
		return api.Never
	}
	return api.Perhaps
}

func modelPlace(p modelPast, link int) int { return slices.Index(p.last(), link) }

func modelTimes(p modelPast, link int) int { return len(p.proofs[link]) }

func modelLast(p modelPast, link int) int {
	if len(p.proofs[link]) == 0 {
		return -1
	}
	return slices.Max(p.proofs[link])
}

func askLink(t *testing.T, c api.Chain, truths []modelPast, link int) {
	t.Helper()
	of := func(f func(p modelPast, link int) int) []int {
		return modelAll(truths, func(p modelPast) int { return f(p, link) })
	}
	if l, e := links.Where(c, link); !slices.Equal(l, of(modelPlace)) || e != none(truths) {
		t.Errorf("%+v: Where(%d) = %v, %d, not %v", c, link, l, e, of(modelPlace))
	}
	if l, e := links.Last(c, link); !slices.Equal(l, of(modelLast)) || e != none(truths) {
		t.Errorf("%+v: Last(%d) = %v, %d, not %v", c, link, l, e, of(modelLast))
	}
	var want api.Span
	if l := of(modelTimes); len(l) > 0 {
		want = span(l[0], l[len(l)-1])
	}
	if s, e := links.Proofs(c, link); s != want || e != none(truths) {
		t.Errorf("%+v: Proofs(%d) = %v, %d, not %v", c, link, s, e, want)
	}
}
