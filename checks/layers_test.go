package checks_test

import (
	"slices"
	"testing"

	"shackle/api"
	"shackle/checks"
	"shackle/stretch"
)

// compared returns a pull in which a length was measured once with each of some rods, and the rods as machines that
// are compared: the error of a rod is by how much it is longer than it was when it was new.
func (d *dice) compared() (api.Pull, api.Yard) {
	p := api.Pull{Iron: d.upTo(api.MaxGrow + 1), Guess: span(1, api.MaxLength)}
	var y api.Yard
	count, off := 1+d.upTo(3), d.upTo(4) == 0
	length, last := 4000+d.upTo(1000), -1
	for i := range 2 + d.upTo(api.MaxRods-1) {
		rod := api.Rod{Long: 300 + d.upTo(900), Wear: d.upTo(api.MaxWear + 1), Grow: p.Iron}
		p.Rods = append(p.Rods, rod)
		y.Machines = append(y.Machines, span(-rod.Wear, 0))
		if d.upTo(5) == 0 {
			continue // not measured
		}
		rest := length - count*(rod.Long-d.upTo(rod.Wear+1))
		if off && i > 0 {
			rest += count * (d.upTo(19) - 9)
		}
		p.Readings = append(p.Readings, api.Reading{When: api.Before, Rod: i, Count: count, Rest: rest})
		if last >= 0 {
			a, b := p.Readings[last], p.Readings[len(p.Readings)-1]
			// Both rods were laid along the same length, so often as count says.
			by := (b.Rest-a.Rest)/count - p.Rods[a.Rod].Long + rod.Long
			y.Compares = append(y.Compares, compare(a.Rod, i, by, by))
		}
		last = len(p.Readings) - 1
	}
	return p, y
}

// P0.1: the error of a rod is within Errors just if it can have this length.
func TestComparedRods(t *testing.T) {
	d := &dice{3}
	truths, nones := 0, 0
	for range 600 {
		p, y := d.compared()
		if stretch.Check(p) != api.OK || checks.Check(y) != api.OK {
			t.Fatalf("%+v, %+v", p, y)
		}
		for i, r := range p.Rods {
			l, e := stretch.Rods(p, i)
			s, f := checks.Errors(y, i)
			if e != f || e != api.OK && e != api.ErrNone {
				t.Fatalf("%+v: %d; %+v: %d", p, e, y, f)
			}
			if e == api.ErrNone {
				nones++
				continue
			}
			truths++
			for n := -60; n <= 60; n++ {
				if inside(span(n, n), s) != slices.Contains(l, r.Long+n) {
					t.Errorf("%+v: Rods = %v; %+v: Errors = %v", p, l, y, s)
				}
			}
		}
	}
	if truths < 300 || nones < 100 {
		t.Errorf("only %d lengths of rods, and %d times none", truths, nones)
	}
}

// machine returns a valid machine.
func (d *dice) machine() api.Machine {
	m := api.Machine{Leak: span(d.upTo(3), 2+d.upTo(3))}
	if d.upTo(3) > 0 {
		m.Water = d.upTo(200)
	}
	for range 1 + d.upTo(2) {
		low := 970 + d.upTo(25)
		m.Levers = append(m.Levers, api.Lever{Long: 1 + d.upTo(api.MaxArm), Short: span(low, low+d.upTo(6))})
	}
	for range d.upTo(3) {
		settings := settingsOf(m)
		b := api.Balance{Weight: d.upTo(2000), Minutes: d.upTo(30)}
		of, by := settings[d.upTo(len(settings))].load(m, b.Weight, b.Minutes)
		b.Load = of / by
		b.Off = d.upTo(b.Load/200 + 2)
		m.Balances = append(m.Balances, b)
	}
	m.Wrong = d.upTo(2)
	return m
}

// setting is a short arm of each lever, and a leak.
type setting struct {
	shorts []int
	leak   int
}

// load returns the load of a weight, so many minutes after the tank was filled: a number, divided by another one.
func (s setting) load(m api.Machine, weight, minutes int) (of, by int) {
	of, by = weight+max(m.Water-minutes*s.leak, 0), 1
	for i, short := range s.shorts {
		of *= m.Levers[i].Long
		by *= short
	}
	return of, by
}

func settingsOf(m api.Machine) []setting {
	var all []setting
	for leak := m.Leak.Low; leak <= m.Leak.High; leak++ {
		with := []setting{{leak: leak}}
		for _, l := range m.Levers {
			var longer []setting
			for _, s := range with {
				for n := l.Short.Low; n <= l.Short.High; n++ {
					longer = append(longer, setting{append(slices.Clone(s.shorts), n), leak})
				}
			}
			with = longer
		}
		all = append(all, with...)
	}
	return all
}

// truthsOf returns the settings of a machine in which at most Wrong balances are not right.
func truthsOf(m api.Machine) []setting {
	return slices.DeleteFunc(settingsOf(m), func(s setting) bool {
		wrong := 0
		for _, b := range m.Balances {
			of, by := s.load(m, b.Weight, b.Minutes)
			if of < (b.Load-b.Off)*by || of > (b.Load+b.Off)*by {
				wrong++
			}
		}
		return wrong > m.Wrong
	})
}

// errorOf returns the error of a machine in a truth, in thousandths, rounded down.
func (s setting) errorOf(m api.Machine, weight, minutes, nominal int) int {
	of, by := s.load(m, weight, minutes)
	above, by := 1000*(of-nominal*by), nominal*by
	n := above / by
	for n*by > above {
		n--
	}
	return n
}

// P0.2: the error of a machine in a truth is within Own, and machines that are compared by just the difference agree.
func TestMachinesInYard(t *testing.T) {
	d := &dice{9}
	var spans []api.Span // of machines that a yard can have
	var errors []int     // the error of each one in a truth
	for len(spans) < 200 {
		m := d.machine()
		truths := truthsOf(m)
		weight, minutes := 1+d.upTo(5000), d.upTo(30)
		if len(truths) == 0 {
			if s, e := checks.Own(m, weight, minutes, 1); s != (api.Span{}) || e != api.ErrNone {
				t.Errorf("%+v: Own = %v, %d", m, s, e)
			}
			continue
		}
		of, by := truths[0].load(m, weight, minutes)
		nominal := max(1, of/by+d.upTo(of/by/40+1))
		s, e := checks.Own(m, weight, minutes, nominal)
		if e != api.OK {
			t.Fatalf("%+v: Own = %d", m, e)
		}
		for _, truth := range truths {
			if n := truth.errorOf(m, weight, minutes, nominal); !inside(span(n, n), s) {
				t.Errorf("%+v: in %+v the error is %d, Own = %v", m, truth, n, s)
			}
		}
		if inside(s, span(-60, 60)) {
			spans = append(spans, s)
			errors = append(errors, truths[d.upTo(len(truths))].errorOf(m, weight, minutes, nominal))
		}
	}
	for range 500 {
		i, j := d.upTo(len(spans)), d.upTo(len(spans))
		by := errors[i] - errors[j]
		y := api.Yard{Machines: []api.Span{spans[i], spans[j]}, Compares: []api.CheckCompare{compare(0, 1, by, by)}}
		if f := learn(t, y); f.fewest != 0 || !f.truth || f.differ[0][1] != span(by, by) || !inside(span(errors[i], errors[i]), f.errors[0]) || !inside(span(errors[j], errors[j]), f.errors[1]) {
			t.Errorf("%+v: %+v, the errors are %d and %d", y, f, errors[i], errors[j])
		}
	}
}
