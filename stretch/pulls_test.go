package stretch_test

import (
	"slices"

	"shackle/api"
)

// dice gives the same numbers in each run.
type dice struct{ state uint64 }

// upTo returns a number from 0 to n-1.
func (d *dice) upTo(n int) int {
	d.state = d.state*6364136223846793005 + 1442695040888963407
	return int(d.state>>33) % n
}

// from returns a number of a span.
func (d *dice) from(s api.Span) int { return s.Low + d.upTo(s.High-s.Low+1) }

// guess returns a span of few lengths.
func (d *dice) guess() api.Span {
	low := []int{1, 20, 700, 9990, 50000, 99980}[d.upTo(6)] + d.upTo(10)
	return span(low, min(low+d.upTo(10), api.MaxLength))
}

func (d *dice) rod() api.Rod {
	long := 1 + d.upTo([]int{12, 1100, 9999}[d.upTo(3)])
	return rod(long, min(d.upTo(4), long-1), d.upTo(api.MaxGrow+1))
}

// reading returns a reading that is often right with some length of Guess and some one of its rod. There must be rods.
func (d *dice) reading(p api.Pull) api.Reading {
	i := d.upTo(len(p.Rods))
	low := d.upTo(101) - 50
	r := reading(1+d.upTo(2), i, 0, 0, d.upTo(3), low, min(low+d.upTo(8), 50))
	if d.upTo(8) == 0 {
		r.Off = d.upTo(100)
	}
	x := p.Rods[i]
	long := x.Long - d.upTo(x.Wear+1)
	warm := d.from(r.Warm)
	says := d.from(p.Guess)*(1000000+p.Iron*warm)/(1000000+x.Grow*warm) + d.upTo(3) - 1
	r.Count = min(max(says, 0)/long, api.MaxCount)
	if d.upTo(2) == 0 {
		r.Count = d.upTo(r.Count + 1)
	}
	r.Rest = min(max(says-r.Count*long, 0), api.MaxRod)
	return r
}

// pull returns a valid pull.
func (d *dice) pull() api.Pull {
	p := api.Pull{Iron: d.upTo(api.MaxGrow + 1), Guess: d.guess()}
	for range d.upTo(4) {
		p.Rods = append(p.Rods, d.rod())
	}
	if len(p.Rods) > 0 {
		for range d.upTo(6) {
			p.Readings = append(p.Readings, d.reading(p))
		}
	}
	p.Wrong = d.upTo(len(p.Readings)/2 + 1)
	return p
}

// pulls calls f with some pulls, and all the edges that the chapter names.
func pulls(f func(p api.Pull, d *dice)) {
	d := &dice{1}
	for _, p := range edges() {
		f(p, d)
	}
	for range 600 {
		f(d.pull(), d)
	}
}

// plain is a pull of iron that does not grow.
func plain(low, high int, rods []api.Rod, readings ...api.Reading) api.Pull {
	return api.Pull{Guess: span(low, high), Rods: rods, Readings: readings}
}

// two is a pull with two rods that are worn.
func two(readings ...api.Reading) api.Pull {
	both := []api.Reading{reading(1, 0, 2, 0, 0, 0, 0), reading(2, 1, 4, 0, 0, 0, 0)}
	return plain(195, 205, []api.Rod{rod(100, 1, 0), rod(50, 2, 0)}, append(both, readings...)...)
}

// brass is a pull that was measured before, with a rod that grows.
func brass(low, high, off int) api.Pull {
	return plain(1996, 2003, []api.Rod{rod(1000, 0, 50)}, reading(1, 0, 2, 0, off, low, high))
}

func edges() []api.Pull {
	one := []api.Rod{rod(1, 0, 0)}
	same := reading(1, 0, 0, 5, 0, 0, 0)
	l := []api.Pull{
		plain(1, 1, nil),
		plain(99999, 99999, []api.Rod{}),
		plain(1, 12, nil),
		{Iron: 50, Guess: span(99990, 99999), Wrong: 8},
		plain(7, 9, []api.Rod{rod(5, 2, 0), rod(5, 2, 50), rod(1, 0, 3), rod(3, 1, 0)}), // rods without readings
		plain(7, 9, []api.Rod{rod(10, 9, 0)}),
		plain(1, 9, one, reading(1, 0, 0, 0, 0, 0, 0)), // nothing was read: no truth
		plain(1, 9, one, reading(1, 0, 0, 0, 1, 0, 0)),
		plain(1, 9, one, reading(2, 0, 0, 0, 4, -50, 50)),
		plain(1, 9, one, reading(2, 0, 0, 12, 3, 0, 0)),
		plain(1, 9, one, reading(2, 0, 0, 12, 2, 0, 0)),
		plain(1, 9, one, reading(2, 0, 7, 0, 0, 0, 0), same),
		plain(1, 9, one, reading(2, 0, 7, 0, 1, 0, 0), same),
		two(), two(same), two(same, same),
		brass(10, 20, 0), brass(0, 20, 0), brass(0, 10, 0), brass(10, 10, 1), brass(-20, -20, 0), brass(-50, 50, 0), brass(-50, 50, 99), brass(9, 9, 0), brass(11, 19, 0),
		plain(5, 6, []api.Rod{rod(9999, 9, 50)}, reading(1, 0, 99, 9999, 99, -50, 50), reading(2, 0, 0, 5, 0, -50, 50)),
		{Iron: 50, Guess: span(99990, 99999), Rods: []api.Rod{rod(9999, 2, 0)}, Readings: []api.Reading{reading(1, 0, 9, 9999, 0, -50, 50), reading(2, 0, 10, 9, 99, 50, 50), reading(2, 0, 10, 502, 3, -50, -50)}, Wrong: 1},
		{Iron: 10, Guess: span(95, 105), Rods: []api.Rod{rod(10, 0, 10)}, Readings: []api.Reading{reading(1, 0, 10, 0, 0, -50, 50)}},
		{Iron: 50, Guess: span(9995, 10003), Rods: []api.Rod{rod(1000, 0, 0)}, Readings: []api.Reading{reading(1, 0, 10, 0, 0, -20, 20)}}, // right with lengths that have others between them
		{Guess: span(9995, 10005), Rods: []api.Rod{rod(1000, 0, 40)}, Readings: []api.Reading{reading(1, 0, 10, 0, 0, -10, 10), reading(1, 0, 10, 0, 0, -20, 5), reading(1, 0, 10, 2, 0, 0, 0), reading(2, 0, 10, 1, 1, -20, 20)}, Wrong: 1},
		{Guess: span(1, 5), Rods: []api.Rod{rod(3, 1, 0), rod(3, 1, 0)}, Readings: []api.Reading{reading(1, 0, 1, 0, 0, 0, 0), reading(2, 1, 1, 0, 0, 0, 0)}}, // equal rods
		{Guess: span(1, 5), Rods: []api.Rod{rod(3, 0, 0), rod(3, 2, 0), rod(3, 1, 0)}, Readings: []api.Reading{reading(2, 2, 1, 0, 0, 0, 0), reading(1, 1, 1, 0, 1, 0, 0)}},
	}
	for wrong := range api.MaxReadings + 1 {
		p, q := two(same), two(reading(1, 1, 4, 0, 1, 0, 0), reading(2, 0, 2, 0, 1, 0, 0), same)
		p.Wrong, q.Wrong = wrong, wrong
		l = append(l, p, q,
			api.Pull{Guess: span(3, 7), Rods: one, Readings: slices.Repeat([]api.Reading{reading(1, 0, 3, 9, 0, 0, 0)}, 8), Wrong: wrong},
			api.Pull{Guess: span(3, 7), Rods: one, Readings: slices.Repeat([]api.Reading{reading(2, 0, 3, 1, 0, 0, 0), reading(1, 0, 3, 2, 1, 0, 0)}, 4), Wrong: wrong},
			api.Pull{Guess: span(3, 8), Rods: one, Readings: []api.Reading{reading(1, 0, 3, 0, 0, 0, 0), reading(1, 0, 4, 0, 0, 0, 0), reading(1, 0, 5, 0, 0, 0, 0), reading(2, 0, 6, 0, 0, 0, 0), reading(2, 0, 7, 0, 0, 0, 0), reading(2, 0, 7, 0, 1, 0, 0)}, Wrong: wrong})
	}
	return l
}
