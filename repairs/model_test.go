package repairs_test

import (
	"slices"
	"strings"
	"testing"

	"shackle/api"
	"shackle/repairs"
)

// These tests see only what package repairs exports. What they expect is from a model that tries all repairs, as lists
// of links, and all needs, just as the document defines it.

func span(low, high int) api.Span { return api.Span{Low: low, High: high} }

// example is C of the chapter's examples, with changes.
func example(changes ...func(c *api.RepairCable)) api.RepairCable {
	c := api.RepairCable{
		Links: []api.Span{span(50, 60), span(30, 35), span(50, 50), span(38, 45), span(55, 60), span(60, 60), span(52, 58)},
		Need:  40, Gap: 1, Doubt: 0, Joins: 2, Least: 1,
	}
	for _, change := range changes {
		change(&c)
	}
	return c
}

// clone returns a cable that shares no memory with c.
func clone(c api.RepairCable) api.RepairCable {
	c.Links = slices.Clone(c.Links)
	return c
}

func equal(a, b api.RepairCable) bool {
	return slices.Equal(a.Links, b.Links) && a.Need == b.Need && a.Gap == b.Gap && a.Doubt == b.Doubt && a.Joins == b.Joins && a.Least == b.Least
}

// modelRepairs returns all strictly ascending lists of numbers below many.
func modelRepairs(many int) [][]int {
	all := [][]int{nil}
	for link := range many {
		for _, cut := range all {
			all = append(all, append(slices.Clone(cut), link))
		}
	}
	return all
}

// modelPieces returns the pieces of a repair, each as a text with one letter for each link.
func modelPieces(c api.RepairCable, cut []int) []string {
	row := []byte(strings.Repeat("o", len(c.Links)))
	for _, link := range cut {
		row[link] = ' '
	}
	return strings.Fields(string(row))
}

func modelShackles(c api.RepairCable, cut []int) int {
	if pieces := len(modelPieces(c, cut)); pieces > 0 {
		return pieces - 1
	}
	return 0
}

func modelGood(c api.RepairCable, cut []int) bool {
	doubtful := 0
	for link, s := range c.Links {
		isTooWeak := s.High < c.Need
		isDoubtful := !isTooWeak && s.Low < c.Need
		isLeft := !slices.Contains(cut, link)
		if isLeft && isTooWeak {
			return false
		}
		if isLeft && isDoubtful {
			doubtful++
		}
	}
	if doubtful > c.Doubt || modelShackles(c, cut) > c.Joins || len(c.Links)-len(cut) < c.Least {
		return false
	}
	return !slices.ContainsFunc(modelPieces(c, cut), func(piece string) bool { return len(piece) < c.Gap })
}

const none = -1 // stands for a number that is not there

// prices returns the prices that are tried.
func prices() [][2]int {
	return [][2]int{{0, 0}, {1, 0}, {0, 1}, {1, 1}, {1, 5}, {5, 1}, {2, 7}, {3, 4}, {999, 0}, {0, 999}, {999, 999}, {998, 999}}
}

// facts is what is so of a cable. If no repair is good, fewest is none, must and spared are empty, and all of cheapest is none.
type facts struct {
	good         [][]int
	fewest       int
	must, spared []int
	cheapest     []int                  // with each of the prices
	strong       [api.MaxRepair + 1]int // with each number of cuts
}

func (f facts) equal(g facts) bool {
	return slices.EqualFunc(f.good, g.good, slices.Equal) && f.fewest == g.fewest && slices.Equal(f.must, g.must) && slices.Equal(f.spared, g.spared) &&
		slices.Equal(f.cheapest, g.cheapest) && f.strong == g.strong
}

// modelFewest returns how many links are cut out in a shortest repair.
func modelFewest(c api.RepairCable) int {
	fewest := none
	for _, cut := range modelRepairs(len(c.Links)) {
		if modelGood(c, cut) && (fewest == none || len(cut) < fewest) {
			fewest = len(cut)
		}
	}
	return fewest
}

func modelFacts(c api.RepairCable) facts {
	f := facts{fewest: modelFewest(c), strong: modelStrong(c)}
	for _, cut := range modelRepairs(len(c.Links)) {
		if modelGood(c, cut) {
			f.good = append(f.good, cut)
		}
	}
	for _, p := range prices() {
		least := none
		for _, cut := range f.good {
			if n := len(cut)*p[0] + modelShackles(c, cut)*p[1]; least == none || n < least {
				least = n
			}
		}
		f.cheapest = append(f.cheapest, least)
	}
	if f.fewest == none {
		return f
	}
	for link := range c.Links {
		with, without := 0, 0
		for _, cut := range f.good {
			switch {
			case len(cut) > f.fewest:
			case slices.Contains(cut, link):
				with++
			default:
				without++
			}
		}
		if without == 0 {
			f.must = append(f.must, link)
		}
		if with == 0 {
			f.spared = append(f.spared, link)
		}
	}
	return f
}

// modelNeeds returns all needs that can be, but leaves out those that are as far from what each link holds as others are.
func modelNeeds(c api.RepairCable) []int {
	needs := []int{0, api.MaxHold}
	if len(c.Links) > 0 {
		low, high := api.MaxHold, 0
		for _, s := range c.Links {
			low, high = min(low, s.Low), max(high, s.High)
		}
		for need := max(low-1, 0); need <= min(high+1, api.MaxHold); need++ {
			needs = append(needs, need)
		}
	}
	slices.Sort(needs)
	return slices.Compact(needs)
}

func modelStrong(c api.RepairCable) [api.MaxRepair + 1]int {
	var strong [api.MaxRepair + 1]int
	for cuts := range strong {
		strong[cuts] = none
	}
	for _, need := range modelNeeds(c) {
		c.Need = need
		if fewest := modelFewest(c); fewest != none {
			for cuts := fewest; cuts < len(strong); cuts++ {
				strong[cuts] = need
			}
		}
	}
	return strong
}

// orNone returns none for ErrNone.
func orNone(t *testing.T, n int, e api.Errno) int {
	t.Helper()
	if e == api.ErrNone && n == 0 {
		return none
	}
	if e != api.OK {
		t.Errorf("%d, %d", n, e)
	}
	return n
}

// learn returns the facts of a cable as the functions say them.
func learn(t *testing.T, c api.RepairCable) facts {
	t.Helper()
	var f facts
	if e := repairs.Check(c); e != api.OK {
		t.Fatalf("Check(%+v) = %d", c, e)
	}
	for _, cut := range modelRepairs(len(c.Links)) {
		is, e := repairs.Good(c, cut)
		if e != api.OK {
			t.Errorf("%+v: Good of %v: %d", c, cut, e)
		}
		if is {
			f.good = append(f.good, cut)
		}
	}
	n, e := repairs.Fewest(c)
	f.fewest = orNone(t, n, e)
	for _, p := range prices() {
		n, e := repairs.Cheapest(c, p[0], p[1])
		f.cheapest = append(f.cheapest, orNone(t, n, e))
	}
	for cuts := range f.strong {
		n, e := repairs.Strong(c, cuts)
		f.strong[cuts] = orNone(t, n, e)
	}
	want := api.OK
	if f.fewest == none {
		want = api.ErrNone
	}
	var g api.Errno
	f.must, e = repairs.Must(c)
	f.spared, g = repairs.Spared(c)
	if e != want || g != want {
		t.Errorf("%+v: Must = %v, %d; Spared = %v, %d", c, f.must, e, f.spared, g)
	}
	return f
}

// ask holds each function of the package against what is so of a cable.
func ask(t *testing.T, c api.RepairCable) {
	t.Helper()
	want := modelFacts(c)
	if f := learn(t, c); !f.equal(want) {
		t.Errorf("%+v: %+v, not %+v", c, f, want)
	}
	for _, cut := range modelRepairs(len(c.Links)) {
		if n, e := repairs.Shackles(c, cut); n != modelShackles(c, cut) || e != api.OK {
			t.Errorf("%+v: Shackles of %v = %d, %d", c, cut, n, e)
		}
	}
	plan, e := repairs.Plan(c)
	if want.fewest == none {
		if len(plan) > 0 || e != api.ErrNone {
			t.Errorf("%+v: Plan = %v, %d", c, plan, e)
		}
		return
	}
	isShortest := len(plan) == want.fewest && slices.ContainsFunc(want.good, func(cut []int) bool { return slices.Equal(cut, plan) })
	if !isShortest || e != api.OK {
		t.Errorf("%+v: Plan = %v, %d, Fewest %d", c, plan, e, want.fewest)
	}
}
