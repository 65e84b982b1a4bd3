package stretch_test

import (
	"slices"
	"testing"

	"shackle/api"
	"shackle/stretch"
)

// facts is what the functions say of a pull that has a truth; best and next are -1 if there is none.
type facts struct {
	fewest, many, best, next int
	before, after            []int
	rods                     [][]int
	strange                  []int
	stretch                  api.Span
	holds                    []int // of parts
}

func parts() []int { return []int{0, 1, 7, 30, 100, 400, 999, 1000} }

// learn returns the facts of a pull, and whether there is a truth; without one, only Fewest is known.
func learn(t *testing.T, p api.Pull) (facts, bool) {
	t.Helper()
	must := func(e api.Errno) {
		t.Helper()
		if e != api.OK {
			t.Fatalf("%+v: %d", p, e)
		}
	}
	var f facts
	var e api.Errno
	f.fewest, e = stretch.Fewest(p)
	must(e)
	f.many, e = stretch.Many(p)
	if e == api.ErrNone {
		return facts{fewest: f.fewest}, false
	}
	must(e)
	f.before, e = stretch.Lengths(p, api.Before)
	must(e)
	f.after, e = stretch.Lengths(p, api.After)
	must(e)
	for i := range p.Rods {
		l, e := stretch.Rods(p, i)
		must(e)
		f.rods = append(f.rods, l)
	}
	f.strange, e = stretch.Strange(p)
	must(e)
	f.stretch, e = stretch.Stretch(p)
	must(e)
	for _, part := range parts() {
		n, e := stretch.Holds(p, part)
		must(e)
		f.holds = append(f.holds, n)
	}
	f.best, f.next = orNone(t, stretch.Best, p), orNone(t, stretch.Next, p)
	return f, true
}

// orNone returns -1 for ErrNone.
func orNone(t *testing.T, f func(api.Pull) (int, api.Errno), p api.Pull) int {
	t.Helper()
	n, e := f(p)
	if e == api.ErrNone && n == 0 {
		return -1
	}
	if e != api.OK {
		t.Fatalf("%+v: %d, %d", p, n, e)
	}
	return n
}

func (f facts) equal(g facts) bool {
	return f.sameLengths(g) && slices.Equal(f.strange, g.strange) && f.stretch == g.stretch && slices.Equal(f.holds, g.holds) && f.best == g.best && f.next == g.next
}

func (f facts) sameLengths(g facts) bool {
	return f.fewest == g.fewest && f.many == g.many && slices.Equal(f.before, g.before) && slices.Equal(f.after, g.after) && slices.EqualFunc(f.rods, g.rods, slices.Equal)
}

func has(all, l []int) bool {
	return !slices.ContainsFunc(l, func(n int) bool { return !slices.Contains(all, n) })
}

// hasAll reports whether all lengths that g has are among those of f, and as many truths.
func (f facts) hasAll(g facts) bool {
	for i, l := range g.rods {
		if !has(f.rods[i], l) {
			return false
		}
	}
	return g.many <= f.many && has(f.before, g.before) && has(f.after, g.after) && f.stretch.Low <= g.stretch.Low && g.stretch.High <= f.stretch.High
}

// P4.11
func TestEachTruth(t *testing.T) {
	pulls(func(p api.Pull, d *dice) {
		settings, truths := modelOf(p)
		f, ok := learn(t, p)
		if ok != (len(truths) > 0) || f.many != len(truths) {
			t.Fatalf("%+v: %t, %d", p, ok, f.many)
		}
		for _, s := range settings {
			if s.wrongs() < f.fewest {
				t.Errorf("%+v: %+v has %d wrong, Fewest = %d", p, s, s.wrongs(), f.fewest)
			}
		}
		for _, s := range truths {
			if !slices.Contains(f.before, s.before) || !slices.Contains(f.after, s.after) || s.stretch() < f.stretch.Low || s.stretch() > f.stretch.High {
				t.Errorf("%+v: %+v is a truth: %+v", p, s, f)
			}
			for i, long := range s.rods {
				if !slices.Contains(f.rods[i], long) {
					t.Errorf("%+v: %+v is a truth: %+v", p, s, f)
				}
			}
			if slices.ContainsFunc(f.strange, func(i int) bool { return s.right[i] }) {
				t.Errorf("%+v: %+v is a truth, Strange = %v", p, s, f.strange)
			}
			for i, part := range parts() {
				is := 1000*s.stretch() <= part*s.before
				if f.holds[i] == api.Surely && !is || f.holds[i] == api.Never && is {
					t.Errorf("%+v: Holds(%d) = %d, but not in %+v", p, part, f.holds[i], s)
				}
			}
		}
	})
}

// P4.12: one more reading.
func TestOneMoreReading(t *testing.T) {
	fewer, less := 0, 0
	pulls(func(p api.Pull, d *dice) {
		if len(p.Readings) == api.MaxReadings || len(p.Rods) == 0 {
			return
		}
		more := clone(p)
		more.Readings = append(more.Readings, d.reading(p))
		f, was := learn(t, p)
		g, is := learn(t, more)
		if was != (f.fewest <= p.Wrong) || is != (g.fewest <= p.Wrong) || is && !was {
			t.Errorf("%+v: %t, %d; %+v: %t, %d", p, was, f.fewest, more, is, g.fewest)
		}
		if g.fewest < f.fewest || g.fewest > f.fewest+1 {
			t.Errorf("%+v: Fewest was %d, is %d", more, f.fewest, g.fewest)
		}
		if is && !f.hasAll(g) {
			t.Errorf("%+v: %+v became %+v", more, f, g)
		}
		if is && g.many < f.many {
			fewer++
		}
		if is && g.stretch != f.stretch {
			less++
		}
	})
	if fewer < 50 || less < 30 {
		t.Errorf("only %d readings left fewer truths, %d less stretches", fewer, less)
	}
}

// wider returns pulls of which one thing is wider.
func wider(p api.Pull) []api.Pull {
	var l []api.Pull
	add := func(change func(w *api.Pull)) {
		w := clone(p)
		change(&w)
		if stretch.Check(w) == api.OK {
			l = append(l, w)
		}
	}
	add(func(w *api.Pull) { w.Guess.Low-- })
	add(func(w *api.Pull) { w.Guess.High++ })
	add(func(w *api.Pull) { w.Wrong++ })
	for i := range p.Rods {
		add(func(w *api.Pull) { w.Rods[i].Wear++ })
	}
	for i := range p.Readings {
		add(func(w *api.Pull) { w.Readings[i].Off++ })
		add(func(w *api.Pull) { w.Readings[i].Off = api.MaxOff })
		add(func(w *api.Pull) { w.Readings[i].Warm.Low-- })
		add(func(w *api.Pull) { w.Readings[i].Warm.High++ })
		add(func(w *api.Pull) { w.Readings[i].Warm = span(-50, 50) })
	}
	return l
}

// P4.12: what is wider loses no length.
func TestWider(t *testing.T) {
	gained := 0
	pulls(func(p api.Pull, d *dice) {
		f, ok := learn(t, p)
		for _, w := range wider(p) {
			g, is := learn(t, w)
			if g.fewest > f.fewest {
				t.Errorf("%+v: Fewest was %d, is %d", w, f.fewest, g.fewest)
			}
			if ok && (!is || !g.hasAll(f)) {
				t.Errorf("%+v: %+v became %+v", w, f, g)
			}
			if g.many > f.many {
				gained++
			}
		}
	})
	if gained < 100 {
		t.Errorf("only %d times truths were gained", gained)
	}
}

// P4.13
func TestSameRod(t *testing.T) {
	found := 0
	pulls(func(p api.Pull, d *dice) {
		if len(p.Rods) == 0 || len(p.Readings) > api.MaxReadings-2 {
			return
		}
		p = clone(p)
		p.Wrong = 0
		r := d.reading(p)
		r.When, r.Warm = api.Before, span(0, 0)
		s := r
		s.When, s.Rest, s.Off = api.After, min(max(r.Rest+d.upTo(9)-4, 0), api.MaxRod), d.upTo(4)
		p.Readings = append(p.Readings, r, s)
		most := r.Off + s.Off
		for p.Rods[r.Rod].Wear = range min(api.MaxWear, p.Rods[r.Rod].Long-1) + 1 {
			of, e := stretch.Stretch(p)
			if e == api.ErrNone {
				continue
			}
			found++
			if by := s.Rest - r.Rest; e != api.OK || of.Low < by-most || of.High > by+most {
				t.Errorf("%+v: Stretch = %v, %d", p, of, e)
			}
		}
	})
	if found < 200 {
		t.Errorf("only %d stretches", found)
	}
}

// P4.14
func TestSameMetal(t *testing.T) {
	found := 0
	pulls(func(p api.Pull, d *dice) {
		p = clone(p)
		for i := range p.Rods {
			p.Rods[i].Grow = p.Iron
		}
		for i, r := range p.Readings {
			p.Readings[i].Off = 0
			// What is read is a length, so that some readings are right.
			long := p.Rods[r.Rod].Long - d.upTo(p.Rods[r.Rod].Wear+1)
			p.Readings[i].Rest = min(max(d.from(p.Guess)-r.Count*long, 0), api.MaxRod)
		}
		f, ok := learn(t, p)
		for range 4 {
			u := clone(p)
			for i := range u.Readings {
				low := d.upTo(101) - 50
				u.Readings[i].Warm = span(low, low+d.upTo(51-low))
			}
			if g, is := learn(t, u); ok != is || !f.equal(g) {
				t.Errorf("%+v: %t, %+v became %t, %+v", u, ok, f, is, g)
			}
		}
		if ok && len(p.Readings) > p.Wrong {
			found++
		}
	})
	if found < 100 {
		t.Errorf("only %d pulls with a right reading", found)
	}
}

// P4.15: before and after are exchanged.
func TestOtherWay(t *testing.T) {
	pulls(func(p api.Pull, d *dice) {
		u := clone(p)
		for i, r := range p.Readings {
			u.Readings[i].When = api.Before + api.After - r.When
		}
		f, ok := learn(t, p)
		g, is := learn(t, u)
		g.before, g.after = g.after, g.before
		g.stretch = span(-g.stretch.High, -g.stretch.Low)
		if ok != is || !f.sameLengths(g) || f.stretch != g.stretch || !slices.Equal(f.strange, g.strange) || f.next != g.next {
			t.Errorf("%+v: %t, %+v, the other way %t, %+v", p, ok, f, is, g)
		}
	})
}

// P4.15: the order of the readings.
func TestAnyOrder(t *testing.T) {
	pulls(func(p api.Pull, d *dice) {
		f, ok := learn(t, p)
		for i := range p.Readings {
			for j := range i {
				u := clone(p)
				u.Readings[i], u.Readings[j] = u.Readings[j], u.Readings[i]
				g, is := learn(t, u)
				for k, n := range g.strange {
					switch n {
					case i:
						g.strange[k] = j
					case j:
						g.strange[k] = i
					}
				}
				slices.Sort(g.strange)
				if ok != is || !f.equal(g) {
					t.Errorf("%+v: %t, %+v became %t, %+v", u, ok, f, is, g)
				}
			}
		}
	})
}

// P4.16
func TestParts(t *testing.T) {
	pulls(func(p api.Pull, d *dice) {
		f, ok := learn(t, p)
		if !ok {
			return
		}
		if (f.holds[0] == api.Surely) != (f.stretch.High <= 0) {
			t.Errorf("%+v: Holds(0) = %d, Stretch = %v", p, f.holds[0], f.stretch)
		}
		for i := range f.holds[1:] {
			if f.holds[i] == api.Surely && f.holds[i+1] != api.Surely || f.holds[i] != api.Never && f.holds[i+1] == api.Never {
				t.Errorf("%+v: Holds of %v = %v", p, parts(), f.holds)
			}
		}
		holds := func(part int) int {
			n, e := stretch.Holds(p, part)
			if e != api.OK {
				t.Fatalf("%+v: Holds = %d", p, e)
			}
			return n
		}
		if f.best < 0 && holds(api.MaxPart) == api.Surely || f.best >= 0 && holds(f.best) != api.Surely || f.best > 0 && holds(f.best-1) == api.Surely {
			t.Errorf("%+v: Best = %d", p, f.best)
		}
	})
}
