package stretch_test

import (
	"slices"
	"testing"

	"shackle/api"
	"shackle/stretch"
)

// greatest returns a pull with the most lengths, of cable and of rods, and readings each of which is right with many lengths that have others between them.
func greatest(off, wrong int) api.Pull {
	p := api.Pull{Guess: span(1, 99999), Wrong: wrong}
	for i := range api.MaxRods {
		p.Rods = append(p.Rods, rod(990-7*i, 9, 50))
	}
	for i := range api.MaxReadings {
		p.Readings = append(p.Readings, reading(1+i/4, i%4, 97, 100+1179*(i%4), off, -50, 50))
	}
	return p
}

// wide returns a pull with many lengths, and more lengths of rods, and lengths with which it is right here and there.
func wide(off, wrong int) api.Pull {
	p := api.Pull{Iron: 10, Guess: span(97000, 98600), Rods: []api.Rod{rod(990, 9, 50), rod(970, 4, 0), rod(9800, 1, 30)}, Wrong: wrong}
	p.Readings = []api.Reading{
		reading(1, 0, 98, 500, off, -50, 50), reading(1, 1, 99, 1700, off, -50, 40), reading(1, 0, 97, 1200, off+1, 0, 50), reading(1, 2, 9, 9500, off, -50, 0),
		reading(2, 0, 98, 450, off, -50, 20), reading(2, 2, 9, 9490, off, -40, 50), reading(2, 1, 99, 1720, off+3, -10, 50), reading(2, 2, 9, 1, 0, 0, 0),
	}
	return p
}

// wideFacts is what is so in the truths of a wide pull.
type wideFacts struct {
	fewest, many int
	lengths      [3][]int // by when
	rods         [][]int
	strange      []int
	stretch      api.Span
	part         int // the least one with which each truth holds
	next         int // -1: there is none
}

// wideModel tries each length by itself for each choice of the lengths of rods; what counts of the other one is how many readings are wrong with it.
type wideModel struct {
	p     api.Pull
	right [][][]bool // of each reading, by how much its rod is worn, of each length of Guess
	has   [3][]bool
	rods  [][]bool
	good  []bool
	known []map[int]api.Span // of each rod, by its length, the stretches
	f     wideFacts
	found bool
}

func learnWide(p api.Pull) wideFacts {
	m := &wideModel{p: p, good: make([]bool, len(p.Readings))}
	m.f.fewest = len(p.Readings)
	for _, r := range p.Readings {
		var of [][]bool
		for worn := range p.Rods[r.Rod].Wear + 1 {
			var with []bool
			for length := p.Guess.Low; length <= p.Guess.High; length++ {
				with = append(with, modelRight(p, r, length, p.Rods[r.Rod].Long-worn))
			}
			of = append(of, with)
		}
		m.right = append(m.right, of)
	}
	m.has[1], m.has[2] = make([]bool, p.Guess.High+1), make([]bool, p.Guess.High+1)
	for range p.Rods {
		m.rods = append(m.rods, make([]bool, api.MaxRod+1))
		m.known = append(m.known, map[int]api.Span{})
	}
	for _, rods := range modelRods(p.Rods) {
		m.try(rods)
	}
	for when := 1; when <= 2; when++ {
		m.f.lengths[when] = places(m.has[when])
	}
	for _, has := range m.rods {
		m.f.rods = append(m.f.rods, places(has))
	}
	for i, good := range m.good {
		if !good {
			m.f.strange = append(m.f.strange, i)
		}
	}
	m.f.next = m.next()
	return m.f
}

// try tries all lengths with some lengths of rods.
func (m *wideModel) try(rods []int) {
	var by [3][api.MaxReadings + 1][]int // by when, and by how many readings are wrong, lengths
	for when := 1; when <= 2; when++ {
		for length := m.p.Guess.Low; length <= m.p.Guess.High; length++ {
			n := m.wrongs(when, length, rods)
			by[when][n] = append(by[when][n], length)
		}
	}
	for x, before := range by[1] {
		for y, after := range by[2] {
			if len(before) == 0 || len(after) == 0 {
				continue
			}
			m.f.fewest = min(m.f.fewest, x+y)
			if x+y <= m.p.Wrong {
				m.take(rods, before, after)
			}
		}
	}
}

func (m *wideModel) isRight(i, length int, rods []int) bool {
	r := m.p.Readings[i].Rod
	return m.right[i][m.p.Rods[r].Long-rods[r]][length-m.p.Guess.Low]
}

func (m *wideModel) wrongs(when, length int, rods []int) int {
	n := 0
	for i, r := range m.p.Readings {
		if r.When == when && !m.isRight(i, length, rods) {
			n++
		}
	}
	return n
}

// take takes each length before with each length after for a truth.
func (m *wideModel) take(rods, before, after []int) {
	f := &m.f
	f.many += len(before) * len(after)
	for i, long := range rods {
		m.rods[i][long] = true
	}
	for when, l := range [][]int{1: before, 2: after} {
		for _, length := range l {
			m.has[when][length] = true
			for i, r := range m.p.Readings {
				m.good[i] = m.good[i] || r.When == when && m.isRight(i, length, rods)
			}
		}
	}
	s := span(after[0]-before[len(before)-1], after[len(after)-1]-before[0])
	for i, long := range rods {
		m.known[i][long] = both(m.known[i], long, s)
	}
	if m.found {
		s = span(min(s.Low, f.stretch.Low), max(s.High, f.stretch.High))
	}
	f.stretch, m.found = s, true
	for 1000*(after[len(after)-1]-before[0]) > f.part*before[0] {
		f.part++
	}
}

// both returns the numbers of two spans, and between them, or of one if there is no other one.
func both(of map[int]api.Span, n int, s api.Span) api.Span {
	if t, ok := of[n]; ok {
		return span(min(s.Low, t.Low), max(s.High, t.High))
	}
	return s
}

func (m *wideModel) next() int {
	next, least := -1, 0
	for i, known := range m.known {
		worst := 0
		for _, s := range known {
			worst = max(worst, s.High-s.Low)
		}
		if len(known) > 1 && (next < 0 || worst < least) {
			next, least = i, worst
		}
	}
	return next
}

// places returns all places of a list that are true, ascending.
func places(l []bool) []int {
	var all []int
	for n, is := range l {
		if is {
			all = append(all, n)
		}
	}
	return all
}

// P4.2 to P4.7, P4.9, P4.10: many lengths, also such as have others between them.
func TestWideGuess(t *testing.T) {
	for off := range 3 {
		for wrong := range api.MaxReadings + 1 {
			askWide(t, wide(off, wrong))
		}
	}
}

func askWide(t *testing.T, p api.Pull) {
	t.Helper()
	f := learnWide(p)
	want := api.OK
	if f.many == 0 {
		want, f.strange = api.ErrNone, nil
	}
	if n, e := stretch.Fewest(p); n != f.fewest || e != api.OK {
		t.Errorf("%+v: Fewest = %d, %d, not %d", p, n, e, f.fewest)
	}
	if n, e := stretch.Many(p); n != f.many || e != want {
		t.Errorf("%+v: Many = %d, %d, not %d", p, n, e, f.many)
	}
	for when := 1; when <= 2; when++ {
		if l, e := stretch.Lengths(p, when); !slices.Equal(l, f.lengths[when]) || e != want {
			t.Errorf("%+v: Lengths(%d) = %v, %d, not %v", p, when, l, e, f.lengths[when])
		}
	}
	for i := range p.Rods {
		if l, e := stretch.Rods(p, i); !slices.Equal(l, f.rods[i]) || e != want {
			t.Errorf("%+v: Rods(%d) = %v, %d, not %v", p, i, l, e, f.rods[i])
		}
	}
	if l, e := stretch.Strange(p); !slices.Equal(l, f.strange) || e != want {
		t.Errorf("%+v: Strange = %v, %d, not %v", p, l, e, f.strange)
	}
	if s, e := stretch.Stretch(p); s != f.stretch || e != want {
		t.Errorf("%+v: Stretch = %v, %d, not %v", p, s, e, f.stretch)
	}
	if n, e := stretch.Best(p); n != f.part || e != want {
		t.Errorf("%+v: Best = %d, %d, not %d", p, n, e, f.part)
	}
	if n, e := stretch.Next(p); f.next < 0 && (n != 0 || e != api.ErrNone) || f.next >= 0 && (n != f.next || e != api.OK) {
		t.Errorf("%+v: Next = %d, %d, not %d", p, n, e, f.next)
	}
}

// The time that each function takes for the greatest pulls: `go test -bench . ./stretch`.
func BenchmarkGreatest(b *testing.B) {
	p := greatest(1, 6)
	for _, x := range []struct {
		name string
		f    func() api.Errno
	}{
		{"Fewest", func() api.Errno { _, e := stretch.Fewest(p); return e }},
		{"Many", func() api.Errno { _, e := stretch.Many(p); return e }},
		{"Lengths", func() api.Errno { _, e := stretch.Lengths(p, 2); return e }},
		{"Rods", func() api.Errno { _, e := stretch.Rods(p, 2); return e }},
		{"Strange", func() api.Errno { _, e := stretch.Strange(p); return e }},
		{"Stretch", func() api.Errno { _, e := stretch.Stretch(p); return e }},
		{"Holds", func() api.Errno { _, e := stretch.Holds(p, 50); return e }},
		{"Next", func() api.Errno { _, e := stretch.Next(p); return e }},
	} {
		b.Run(x.name, func(b *testing.B) {
			for b.Loop() {
				if e := x.f(); e != api.OK {
					b.Fatalf("%d", e)
				}
			}
		})
	}
}
