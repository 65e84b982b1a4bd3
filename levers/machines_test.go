package levers_test

import (
	"slices"

	"shackle/api"
)

// dice gives the same numbers in each run.
type dice struct{ state uint64 }

// upTo returns a number from 0 to n-1.
func (d *dice) upTo(n int) int {
	d.state = d.state*6364136223846793005 + 1442695040888963407
	return int(d.state>>33) % n
}

func (d *dice) lever() api.Lever {
	low := 1 + d.upTo(20)
	if d.upTo(10) == 0 {
		low = 990 + d.upTo(6)
	}
	return lever(1+d.upTo(100), low, low+d.upTo(6))
}

// balance returns a balance that is often right in some setting.
func (d *dice) balance(m api.Machine) api.Balance {
	settings := modelSettings(m)
	s := settings[d.upTo(len(settings))]
	b := balance(d.upTo(60), d.upTo(100), 0, 0)
	load := modelLoad(m, s, b.Weight, b.Minutes)
	b.Load = min(load.low()+d.upTo(2), api.MaxLoad)
	switch d.upTo(4) {
	case 0:
		b.Off = 1
	case 1:
		b.Off = d.upTo(b.Load/20 + 2)
	case 2:
		b.Off = d.upTo(b.Load/2 + 2)
	}
	if d.upTo(10) == 0 {
		b.Load = d.upTo(2*b.Load + 2)
		b.Load = min(b.Load, api.MaxLoad)
	}
	return b
}

// machine returns a valid machine.
func (d *dice) machine() api.Machine {
	m := api.Machine{Leak: span(d.upTo(4), 0)}
	m.Leak.High = m.Leak.Low + d.upTo(4)
	if d.upTo(4) > 0 {
		m.Water = d.upTo(200)
	}
	for range d.upTo(4) {
		m.Levers = append(m.Levers, d.lever())
	}
	for range d.upTo(5) {
		m.Balances = append(m.Balances, d.balance(m))
	}
	m.Wrong = d.upTo(len(m.Balances)/2 + 1)
	return m
}

// machines calls f with some machines, and all the edges that the chapter names.
func machines(f func(m api.Machine, d *dice)) {
	d := &dice{1}
	for _, m := range edges() {
		f(m, d)
	}
	for range 400 {
		f(d.machine(), d)
	}
}

func edges() []api.Machine {
	third := []api.Lever{lever(1, 3, 3)}
	twelve := []api.Lever{lever(12, 2, 6), lever(1, 2, 6)} // some products are those of several arms
	l := []api.Machine{
		{}, // no levers, no tank
		{Levers: []api.Lever{}, Balances: []api.Balance{}, Wrong: 6},
		{Water: 9999, Leak: span(0, 20)},
		{Water: 5, Leak: span(1, 2), Balances: []api.Balance{balance(7, 3, 8, 0)}},
		{Balances: []api.Balance{balance(0, 0, 0, 0)}}, // nothing pulls nothing
		{Balances: []api.Balance{balance(1, 0, 0, 0)}}, // no truth
		{Balances: []api.Balance{balance(1, 0, 0, 1)}},
		{Balances: []api.Balance{balance(0, 0, 1, 0)}},
		{Balances: []api.Balance{balance(0, 0, 1, 1)}},
		{Balances: []api.Balance{balance(0, 0, 999999999, 999999999)}},
		{Balances: []api.Balance{balance(0, 0, 999999999, 999999998)}},
		{Levers: third, Balances: []api.Balance{balance(10, 0, 3, 0)}}, // 10/3 is not 3, but 3 to 1
		{Levers: third, Balances: []api.Balance{balance(10, 0, 3, 1)}},
		{Levers: third, Balances: []api.Balance{balance(10, 0, 4, 1)}},
		{Levers: third, Balances: []api.Balance{balance(10, 0, 4, 0)}},
		{Levers: third, Balances: []api.Balance{balance(9, 0, 3, 0)}},
		{Levers: third, Balances: []api.Balance{balance(10, 0, 5, 1)}},
		{Levers: twelve, Balances: []api.Balance{balance(1, 0, 1, 0)}},
		{Levers: twelve, Water: 10, Leak: span(0, 2), Balances: []api.Balance{balance(2, 5, 1, 0), balance(0, 5, 0, 0), balance(4, 6, 4, 1)}, Wrong: 1},
		{Levers: slices.Repeat([]api.Lever{lever(1000, 999, 1000)}, 3), Water: 9999, Leak: span(20, 20), Balances: []api.Balance{balance(9999, 99, 18018, 0)}},
		{Levers: slices.Repeat([]api.Lever{lever(1000, 1, 1)}, 3), Water: 9999, Leak: span(0, 20), Balances: []api.Balance{balance(0, 99, 999999999, 999999999)}, Wrong: 1},
		{Levers: slices.Repeat([]api.Lever{lever(1, 1000, 1000)}, 3), Water: 9999, Balances: []api.Balance{balance(9999, 0, 1, 0), balance(9999, 0, 0, 1)}, Wrong: 1},
		{Levers: []api.Lever{lever(7, 1, 3), lever(7, 1, 3), lever(7, 1, 3)}, Balances: []api.Balance{balance(4, 0, 343, 0), balance(8, 0, 343, 0)}, Wrong: 1}, // right with the products 4 and 8, where others lie between
		{Levers: []api.Lever{lever(1, 1, 2)}, Balances: slices.Repeat([]api.Balance{balance(2, 0, 1, 0), balance(2, 0, 2, 0)}, 3), Wrong: 3},
	}
	for minutes := range 12 { // the tank runs dry, sooner or later
		l = append(l, api.Machine{Water: 10, Leak: span(1, 2), Balances: []api.Balance{balance(3, minutes, 3, 0)}},
			api.Machine{Levers: third, Water: 10, Leak: span(1, 2), Balances: []api.Balance{balance(3, minutes, 1, 1)}})
	}
	for wrong := range api.MaxBalances + 1 {
		l = append(l, example(wrong), example(wrong, odd()), example(wrong, odd(), balance(30, 0, 5000, 0), balance(30, 0, 4545, 1)),
			api.Machine{Levers: twelve, Balances: slices.Repeat([]api.Balance{balance(1, 0, 7, 0)}, 6), Wrong: wrong},
			api.Machine{Levers: twelve, Balances: []api.Balance{balance(1, 0, 1, 0), balance(1, 0, 2, 0), balance(1, 0, 3, 0), balance(2, 0, 1, 0), balance(2, 0, 2, 0), balance(2, 0, 3, 0)}, Wrong: wrong})
	}
	return l
}
