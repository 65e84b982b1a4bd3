package bars_test

import (
	"slices"
	"testing"

	"shackle/api"
	"shackle/bars"
)

// facts is all that the functions say of a store that has a truth.
type facts struct {
	fewest, many, least int
	of, heats           [][]int
	strange             []int
	alike               [][]int
	rests               []api.Span
	rooms               map[int]int
}

// learn returns the facts of a store, and whether there is a truth.
func learn(t *testing.T, s api.BarStore, longs []int) (facts, bool) {
	t.Helper()
	f := facts{rooms: map[int]int{}}
	var e api.Errno
	must := func() {
		t.Helper()
		if e != api.OK {
			t.Fatalf("%+v: %d", s, e)
		}
	}
	if f.many, e = bars.Many(s); e == api.ErrNone {
		return facts{}, false
	}
	must()
	f.fewest, e = bars.Fewest(s)
	must()
	f.least, e = bars.Least(s)
	must()
	f.strange, e = bars.Strange(s)
	must()
	for p := range s.Pieces {
		var of, heats, alike []int
		of, e = bars.Of(s, p)
		must()
		heats, e = bars.Heats(s, p)
		must()
		for q := range s.Pieces {
			var n int
			n, e = bars.Alike(s, p, q)
			must()
			alike = append(alike, n)
		}
		f.of, f.heats, f.alike = append(f.of, of), append(f.heats, heats), append(f.alike, alike)
	}
	for b := range s.Bars {
		var r api.Span
		r, e = bars.Rest(s, b)
		must()
		f.rests = append(f.rests, r)
	}
	for _, long := range longs {
		f.rooms[long], e = bars.Room(s, long)
		must()
	}
	return f, true
}

// P1.13
func TestEachTruth(t *testing.T) {
	stores(func(s api.BarStore, d *dice) {
		truths := modelTruths(s)
		longs := lengths(s)
		f, ok := learn(t, s, longs)
		if ok != (len(truths) > 0) {
			t.Fatalf("%+v: %t", s, ok)
		}
		for _, l := range truths {
			eachPiece(t, s, f, l)
			for b := range s.Bars {
				if left := s.Bars[b].Long - modelNeed(s, l, b); left < f.rests[b].Low || left > f.rests[b].High {
					t.Errorf("%+v, %v: the rest of %d is %d", s, l, b, left)
				}
			}
			for _, long := range longs {
				if n := f.rooms[long]; n == api.Surely && !modelRoom(s, l, long) || n == api.Never && modelRoom(s, l, long) {
					t.Errorf("%+v, %v: Room of %d: %d", s, l, long, n)
				}
			}
			if modelWrongs(s, l) < f.fewest || modelUsed(l) < f.least {
				t.Errorf("%+v, %v: Fewest %d, Least %d", s, l, f.fewest, f.least)
			}
		}
	})
}

func eachPiece(t *testing.T, s api.BarStore, f facts, truth []int) {
	t.Helper()
	for p, b := range truth {
		if !slices.Contains(f.of[p], b) || !slices.Contains(f.heats[p], s.Bars[b].Heat) {
			t.Errorf("%+v, %v: Of %v, Heats %v", s, truth, f.of[p], f.heats[p])
		}
		if slices.Contains(f.strange, p) && !modelWrong(s, p, b) {
			t.Errorf("%+v, %v: Strange %v", s, truth, f.strange)
		}
		for q := range truth {
			if n := f.alike[p][q]; n == api.Surely && b != truth[q] || n == api.Never && b == truth[q] {
				t.Errorf("%+v, %v: Alike of %d and %d: %d", s, truth, p, q, n)
			}
		}
	}
}

// P1.14
func TestBetterRead(t *testing.T) {
	stores(func(s api.BarStore, d *dice) {
		fewest, e := bars.Fewest(s)
		for wrong := range api.MaxPieces + 1 {
			u := clone(s)
			u.Wrong = wrong
			_, f := bars.Many(u)
			if (f == api.OK) != (e == api.OK && fewest <= wrong) || f != api.OK && f != api.ErrNone {
				t.Errorf("%+v: Fewest = %d, %d; Many: %d", u, fewest, e, f)
			}
		}
		better := clone(s)
		for p := range better.Pieces {
			if h := better.Pieces[p].Heats; len(h) > 0 && d.upTo(3) == 0 {
				better.Pieces[p].Heats = slices.Delete(h, 0, 1)
			}
		}
		better.Wrong = d.upTo(s.Wrong + 1)
		longs := lengths(s)
		f, ok := learn(t, s, longs)
		g, is := learn(t, better, longs)
		if is && !ok {
			t.Fatalf("%+v has no truth, but %+v", s, better)
		}
		if is {
			noWider(t, better, f, g)
		}
	})
}

// noWider holds what is known of a store against what was known before its marks were read better.
func noWider(t *testing.T, s api.BarStore, before, after facts) {
	t.Helper()
	sure := func(what string, a, b int) {
		t.Helper()
		if a != api.Perhaps && a != b {
			t.Errorf("%+v: %s was %d, is %d", s, what, a, b)
		}
	}
	for p := range s.Pieces {
		for _, b := range after.of[p] {
			if !slices.Contains(before.of[p], b) {
				t.Errorf("%+v: %d came to Of %v", s, b, before.of[p])
			}
		}
		for q := range s.Pieces {
			sure("Alike", before.alike[p][q], after.alike[p][q])
		}
	}
	for b, r := range after.rests {
		if r.Low < before.rests[b].Low || r.High > before.rests[b].High {
			t.Errorf("%+v: Rest was %v, is %v", s, before.rests[b], r)
		}
	}
	for long, n := range before.rooms {
		sure("Room", n, after.rooms[long])
	}
	for _, p := range before.strange {
		if !slices.Contains(after.strange, p) {
			t.Errorf("%+v: Strange was %v, is %v", s, before.strange, after.strange)
		}
	}
	if after.many > before.many {
		t.Errorf("%+v: Many was %d, is %d", s, before.many, after.many)
	}
}

// P1.15
func TestLongerBar(t *testing.T) {
	stores(func(s api.BarStore, d *dice) {
		more := clone(s)
		for b := range more.Bars {
			more.Bars[b].Long = min(more.Bars[b].Long+d.upTo(3), api.MaxIron)
		}
		for p := range more.Pieces {
			more.Pieces[p].Long = max(more.Pieces[p].Long-d.upTo(3), 1)
		}
		more.Kerf = max(more.Kerf-d.upTo(2), 0)
		for _, l := range modelTruths(s) {
			if is, e := bars.Fits(more, l); !is || e != api.OK {
				t.Errorf("%+v: Fits(%v) = %t, %d", more, l, is, e)
			}
		}
		fewest, e := bars.Fewest(s)
		now, f := bars.Fewest(more)
		if e == api.OK && (f != api.OK || now > fewest) {
			t.Errorf("%+v, %+v: Fewest was %d, is %d", s, more, fewest, now)
		}
		a, ok := learn(t, s, nil)
		b, is := learn(t, more, nil)
		if ok && (!is || b.many < a.many || b.least > a.least) {
			t.Errorf("%+v, %+v: Many was %d, is %d; Least was %d, is %d", s, more, a.many, b.many, a.least, b.least)
		}
	})
}

// P1.16
func TestAnyOrder(t *testing.T) {
	stores(func(s api.BarStore, d *dice) {
		ofBar, ofPiece := d.order(len(s.Bars)), d.order(len(s.Pieces)) // new numbers to old ones
		u := clone(s)
		for b, old := range ofBar {
			u.Bars[b] = s.Bars[old]
		}
		for p, old := range ofPiece {
			u.Pieces[p] = s.Pieces[old]
		}
		longs := lengths(s)
		f, ok := learn(t, s, longs)
		g, is := learn(t, u, longs)
		if ok != is {
			t.Fatalf("%+v: %t, but %+v: %t", s, ok, u, is)
		}
		if ok {
			sameFacts(t, s, f, g, ofBar, ofPiece)
		}
	})
}

func renumbered(list, old []int) []int {
	var l []int
	for _, n := range list {
		l = append(l, old[n])
	}
	slices.Sort(l)
	return l
}

func sameFacts(t *testing.T, s api.BarStore, f, g facts, ofBar, ofPiece []int) {
	t.Helper()
	if f.fewest != g.fewest || f.many != g.many || f.least != g.least || !slices.Equal(f.strange, renumbered(g.strange, ofPiece)) {
		t.Errorf("%+v: %+v, %+v", s, f, g)
	}
	for p, old := range ofPiece {
		if !slices.Equal(f.of[old], renumbered(g.of[p], ofBar)) || !slices.Equal(f.heats[old], g.heats[p]) {
			t.Errorf("%+v: piece %d: %+v, %+v", s, old, f, g)
		}
		for q, other := range ofPiece {
			if f.alike[old][other] != g.alike[p][q] {
				t.Errorf("%+v: Alike of %d and %d: %+v, %+v", s, old, other, f, g)
			}
		}
	}
	for b, old := range ofBar {
		if f.rests[old] != g.rests[b] {
			t.Errorf("%+v: Rest of %d: %+v, %+v", s, old, f, g)
		}
	}
	for long, n := range f.rooms {
		if g.rooms[long] != n {
			t.Errorf("%+v: Room of %d: %+v, %+v", s, long, f, g)
		}
	}
}

// P1.17
func TestCutInTwo(t *testing.T) {
	cuts := 0
	stores(func(s api.BarStore, d *dice) {
		f, ok := learn(t, s, nil)
		for p := range s.Pieces {
			both := s.Pieces[p].Long - s.Kerf
			if !ok || both < 2 || s.Wrong == api.MaxPieces || len(s.Pieces) == api.MaxPieces {
				continue
			}
			cuts++
			u := clone(s)
			a := 1 + d.upTo(both-1)
			u.Pieces[p].Long = a
			u.Pieces = append(u.Pieces, piece(both-a, s.Pieces[p].Heats...))
			u.Wrong++
			g, is := learn(t, u, nil)
			if !is || g.many < f.many {
				t.Fatalf("%+v: Many was %d, is %d", u, f.many, g.many)
			}
			for _, b := range f.of[p] {
				if !slices.Contains(g.of[p], b) || !slices.Contains(g.of[len(s.Pieces)], b) {
					t.Errorf("%+v: Of was %v, is %v and %v", u, f.of[p], g.of[p], g.of[len(s.Pieces)])
				}
			}
		}
	})
	if cuts < 100 {
		t.Errorf("only %d pieces were cut", cuts)
	}
}

// P1.18
func TestOneMorePiece(t *testing.T) {
	stores(func(s api.BarStore, d *dice) {
		for _, long := range lengths(s) {
			u := clone(s)
			u.Pieces = append(u.Pieces, piece(long, 0, 1, 2, 3, 4, 5, 6, 7, 8, 9))
			n, e := bars.Room(s, long)
			_, f := bars.Many(u)
			can := e == api.OK && n != api.Never
			if can != (f == api.OK) {
				t.Errorf("%+v: Room(%d) = %d, %d; with the piece, Many: %d", s, long, n, e, f)
			}
		}
	})
}
