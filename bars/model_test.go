package bars_test

import (
	"slices"
	"testing"

	"shackle/api"
	"shackle/bars"
)

// These tests see only what package bars exports. What they expect is from a model that tries each sawing
// there is, just as the document defines it.

func span(low, high int) api.Span { return api.Span{Low: low, High: high} }

func bar(heat, long int) api.Bar { return api.Bar{Heat: heat, Long: long} }

func piece(long int, heats ...int) api.BarPiece { return api.BarPiece{Long: long, Heats: heats} }

// example is S of the chapter's examples.
func example() api.BarStore {
	return api.BarStore{
		Bars:   []api.Bar{bar(3, 100), bar(5, 60), bar(3, 45)},
		Kerf:   5,
		Pieces: []api.BarPiece{piece(50, 3, 5), piece(45, 3), piece(40, 3, 8)},
	}
}

// odd is S with a piece whose mark is of no bar, and with so many wrong marks.
func odd(wrong int) api.BarStore {
	s := example()
	s.Pieces = append(s.Pieces, piece(30, 8))
	s.Wrong = wrong
	return s
}

// clone returns a store that shares no memory with s.
func clone(s api.BarStore) api.BarStore {
	s.Bars = slices.Clone(s.Bars)
	s.Pieces = slices.Clone(s.Pieces)
	for i := range s.Pieces {
		s.Pieces[i].Heats = slices.Clone(s.Pieces[i].Heats)
	}
	return s
}

func equal(a, b api.BarStore) bool {
	same := func(p, q api.BarPiece) bool { return p.Long == q.Long && slices.Equal(p.Heats, q.Heats) }
	return slices.Equal(a.Bars, b.Bars) && a.Kerf == b.Kerf && a.Wrong == b.Wrong && slices.EqualFunc(a.Pieces, b.Pieces, same)
}

// modelSawings returns each sawing, whether it fits or not.
func modelSawings(s api.BarStore) [][]int {
	all := [][]int{{}}
	for range s.Pieces {
		var longer [][]int
		for _, l := range all {
			for b := range s.Bars {
				longer = append(longer, append(slices.Clone(l), b))
			}
		}
		all = longer
	}
	return all
}

func modelNeed(s api.BarStore, sawing []int, b int) int {
	need, pieces := 0, 0
	for p, of := range sawing {
		if of == b {
			need += s.Pieces[p].Long
			pieces++
		}
	}
	if pieces > 1 {
		need += (pieces - 1) * s.Kerf
	}
	return need
}

func modelFits(s api.BarStore, sawing []int) bool {
	for b := range s.Bars {
		if modelNeed(s, sawing, b) > s.Bars[b].Long {
			return false
		}
	}
	return true
}

func modelWrong(s api.BarStore, p, b int) bool {
	for _, h := range s.Pieces[p].Heats {
		if h == s.Bars[b].Heat {
			return false
		}
	}
	return true
}

func modelWrongs(s api.BarStore, sawing []int) int {
	n := 0
	for p, b := range sawing {
		if modelWrong(s, p, b) {
			n++
		}
	}
	return n
}

func modelTruths(s api.BarStore) [][]int {
	var truths [][]int
	for _, l := range modelSawings(s) {
		if modelFits(s, l) && modelWrongs(s, l) <= s.Wrong {
			truths = append(truths, l)
		}
	}
	return truths
}

// modelFewest returns -1 if no sawing fits.
func modelFewest(s api.BarStore) int {
	fewest := -1
	for _, l := range modelSawings(s) {
		if n := modelWrongs(s, l); modelFits(s, l) && (fewest < 0 || n < fewest) {
			fewest = n
		}
	}
	return fewest
}

func modelUsed(sawing []int) int {
	l := slices.Clone(sawing)
	slices.Sort(l)
	return len(slices.Compact(l))
}

func modelRoom(s api.BarStore, sawing []int, long int) bool {
	t := clone(s)
	t.Pieces = append(t.Pieces, piece(long))
	for b := range s.Bars {
		if modelNeed(t, append(slices.Clone(sawing), b), b) <= s.Bars[b].Long {
			return true
		}
	}
	return false
}

// modelKnown returns 0 if there is no truth.
func modelKnown(truths [][]int, is func(sawing []int) bool) int {
	yes := 0
	for _, l := range truths {
		if is(l) {
			yes++
		}
	}
	switch {
	case len(truths) == 0:
		return 0
	case yes == len(truths):
		return api.Surely
	case yes == 0:
		return api.Never
	}
	return api.Perhaps
}

// ask holds each function of the package against the model.
func ask(t *testing.T, s api.BarStore) {
	t.Helper()
	truths := modelTruths(s)
	askCounts(t, s, truths)
	for p := range s.Pieces {
		askPiece(t, s, truths, p)
	}
	for b := range s.Bars {
		askRest(t, s, truths, b)
	}
	for _, long := range lengths(s) {
		want := modelKnown(truths, func(l []int) bool { return modelRoom(s, l, long) })
		if n, e := bars.Room(s, long); n != want || e != none(truths) {
			t.Errorf("%+v: Room(%d) = %d, %d, not %d", s, long, n, e, want)
		}
	}
	for _, l := range modelSawings(s) {
		want := modelFits(s, l) && modelWrongs(s, l) <= s.Wrong
		if is, e := bars.Fits(s, l); is != want || e != api.OK {
			t.Errorf("%+v: Fits(%v) = %t, %d, not %t", s, l, is, e, want)
		}
	}
}

// none is the error of the functions that need a truth.
func none(truths [][]int) api.Errno {
	if len(truths) == 0 {
		return api.ErrNone
	}
	return api.OK
}

// lengths returns the least and the greatest length, and those at which the answer of Room can change.
func lengths(s api.BarStore) []int {
	l := []int{1, api.MaxIron}
	for _, sawing := range modelSawings(s) {
		for b := range s.Bars {
			left := s.Bars[b].Long - modelNeed(s, sawing, b)
			for _, long := range []int{left, left + 1, left - s.Kerf, left - s.Kerf + 1} {
				if long >= 1 && long <= api.MaxIron {
					l = append(l, long)
				}
			}
		}
	}
	slices.Sort(l)
	return slices.Compact(l)
}

func askCounts(t *testing.T, s api.BarStore, truths [][]int) {
	t.Helper()
	fewest, wantE := max(modelFewest(s), 0), api.OK
	if modelFewest(s) < 0 {
		wantE = api.ErrNone
	}
	if n, e := bars.Fewest(s); n != fewest || e != wantE {
		t.Errorf("%+v: Fewest = %d, %d, not %d, %d", s, n, e, fewest, wantE)
	}
	if n, e := bars.Many(s); n != len(truths) || e != none(truths) {
		t.Errorf("%+v: Many = %d, %d, not %d", s, n, e, len(truths))
	}
	var strange []int
	for p := range s.Pieces {
		if modelKnown(truths, func(l []int) bool { return modelWrong(s, p, l[p]) }) == api.Surely {
			strange = append(strange, p)
		}
	}
	if l, e := bars.Strange(s); !slices.Equal(l, strange) || e != none(truths) {
		t.Errorf("%+v: Strange = %v, %d, not %v", s, l, e, strange)
	}
	least := 0
	for i, l := range truths {
		if n := modelUsed(l); i == 0 || n < least {
			least = n
		}
	}
	if n, e := bars.Least(s); n != least || e != none(truths) {
		t.Errorf("%+v: Least = %d, %d, not %d", s, n, e, least)
	}
	plan, e := bars.Plan(s)
	isTruth := slices.ContainsFunc(truths, func(l []int) bool { return slices.Equal(l, plan) })
	if e != none(truths) || len(truths) == 0 && len(plan) > 0 || len(truths) > 0 && (!isTruth || modelUsed(plan) != least) {
		t.Errorf("%+v: Plan = %v, %d", s, plan, e)
	}
}

func askPiece(t *testing.T, s api.BarStore, truths [][]int, p int) {
	t.Helper()
	var of, heats []int
	for _, l := range truths {
		of = append(of, l[p])
		heats = append(heats, s.Bars[l[p]].Heat)
	}
	slices.Sort(of)
	slices.Sort(heats)
	of, heats = slices.Compact(of), slices.Compact(heats)
	if l, e := bars.Of(s, p); !slices.Equal(l, of) || e != none(truths) {
		t.Errorf("%+v: Of(%d) = %v, %d, not %v", s, p, l, e, of)
	}
	if l, e := bars.Heats(s, p); !slices.Equal(l, heats) || e != none(truths) {
		t.Errorf("%+v: Heats(%d) = %v, %d, not %v", s, p, l, e, heats)
	}
	for q := range s.Pieces {
		want := modelKnown(truths, func(l []int) bool { return l[p] == l[q] })
		if n, e := bars.Alike(s, p, q); n != want || e != none(truths) {
			t.Errorf("%+v: Alike(%d, %d) = %d, %d, not %d", s, p, q, n, e, want)
		}
	}
}

func askRest(t *testing.T, s api.BarStore, truths [][]int, b int) {
	t.Helper()
	var want api.Span
	for i, l := range truths {
		left := s.Bars[b].Long - modelNeed(s, l, b)
		if i == 0 {
			want = span(left, left)
		}
		want = span(min(want.Low, left), max(want.High, left))
	}
	if r, e := bars.Rest(s, b); r != want || e != none(truths) {
		t.Errorf("%+v: Rest(%d) = %v, %d, not %v", s, b, r, e, want)
	}
}

// dice gives the same numbers in each run.
type dice struct{ state uint64 }

// upTo returns a number from 0 to n-1.
func (d *dice) upTo(n int) int {
	d.state = d.state*6364136223846793005 + 1442695040888963407
	return int(d.state>>33) % n
}

func (d *dice) order(n int) []int {
	l := make([]int, n)
	for i := range l {
		j := d.upTo(i + 1)
		l[i] = l[j]
		l[j] = i
	}
	return l
}

// store returns a valid store whose bars and pieces are of lengths that often just fit.
func (d *dice) store(maxBars, maxPieces int) api.BarStore {
	s := api.BarStore{Kerf: d.upTo(4)}
	for range d.upTo(maxBars + 1) {
		s.Bars = append(s.Bars, bar(d.upTo(3), 4+d.upTo(17)))
	}
	for range d.upTo(maxPieces + 1) {
		p := piece(1 + d.upTo(9))
		for h := range 4 {
			if d.upTo(2) == 0 {
				p.Heats = append(p.Heats, h)
			}
		}
		s.Pieces = append(s.Pieces, p)
	}
	s.Wrong = d.upTo(len(s.Pieces) + 1)
	return s
}

// stores calls f with some stores, and all the edges that the chapter names.
func stores(f func(s api.BarStore, d *dice)) {
	d := &dice{1}
	for _, s := range edges() {
		f(s, d)
	}
	for range 300 {
		f(d.store(4, 4), d)
	}
}

func edges() []api.BarStore {
	l := []api.BarStore{
		{},
		example(),
		odd(0), odd(1), odd(2), odd(8),
		{Bars: []api.Bar{bar(0, 1), bar(9, 999)}},                                                         // no pieces
		{Bars: []api.Bar{}, Pieces: []api.BarPiece{piece(1, 0)}, Wrong: 8},                                // no bars
		{Bars: []api.Bar{bar(2, 7)}, Pieces: []api.BarPiece{piece(7, 2)}, Kerf: 20},                       // just one piece
		{Bars: []api.Bar{bar(2, 12)}, Pieces: []api.BarPiece{piece(5, 2), piece(4, 2)}, Kerf: 3},          // just filled
		{Bars: []api.Bar{bar(2, 11)}, Pieces: []api.BarPiece{piece(5, 2), piece(4, 2)}, Kerf: 3},          // too short by 1
		{Bars: []api.Bar{bar(2, 9), bar(2, 9)}, Pieces: []api.BarPiece{piece(9), piece(9)}, Wrong: 2},     // marks of no heat
		{Bars: []api.Bar{bar(2, 9), bar(2, 9)}, Pieces: []api.BarPiece{piece(9), piece(9)}, Wrong: 1},     // one mark too many
		{Bars: []api.Bar{bar(0, 999), bar(9, 999)}, Pieces: []api.BarPiece{piece(999, 0), piece(999, 9)}}, // longest
		{Bars: []api.Bar{bar(1, 30), bar(2, 30)}, Pieces: []api.BarPiece{piece(9, 2), piece(9, 2), piece(9, 1)}, Wrong: 3},
	}
	for wrong := range api.MaxPieces + 1 {
		l = append(l, api.BarStore{Bars: []api.Bar{bar(1, 50), bar(2, 50)}, Kerf: 1, Pieces: []api.BarPiece{piece(9, 1), piece(9, 3), piece(9)}, Wrong: wrong})
	}
	return l
}
