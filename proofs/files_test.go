package proofs_test

import (
	"slices"

	"shackle/api"
)

// dice gives the same numbers in each run.
type dice struct{ state uint64 }

// upTo returns a number from 0 to n-1.
func (d *dice) upTo(n int) int {
	d.state = d.state*6364136223846793005 + 1442695040888963407
	return int(d.state>>33) % n
}

// deed returns a deed that is valid for a cable of so many links.
func (d *dice) deed(length int) api.Deed {
	switch n := d.upTo(10); {
	case n < 2 && length > 0:
		return cut(d.upTo(length), d.upTo(3))
	case n == 2:
		return turn()
	case n < 6:
		return prove()
	}
	return weld(d.upTo(length+1), d.upTo(3), d.upTo(3), d.upTo(3))
}

// chain returns a valid chain without sights.
func (d *dice) chain(deeds int) api.Chain {
	var c api.Chain
	length := 0
	for range deeds {
		next := d.deed(length)
		if len(c.Deeds) < 2 && d.upTo(2) == 0 {
			next = weld(d.upTo(length+1), d.upTo(3), d.upTo(3), d.upTo(3))
		}
		switch next.What {
		case api.Weld:
			length++
		case api.Cut:
			length--
		}
		c.Deeds = append(c.Deeds, next)
	}
	return c
}

// lengthAfter returns how many links a cable has after so many deeds.
func lengthAfter(c api.Chain, deeds int) int {
	length := 0
	for _, d := range c.Deeds[:deeds] {
		switch d.What {
		case api.Weld:
			length++
		case api.Cut:
			length--
		}
	}
	return length
}

// sight returns a sight that is valid for a chain, and often right in some truth; false if its cable is empty then.
func (d *dice) sight(c api.Chain) (api.Sight, bool) {
	choices := modelChoices(c.Deeds)
	deeds := choices[d.upTo(len(choices))]
	after := d.upTo(len(deeds) + 1)
	var cable []int
	link := 0
	for _, x := range deeds[:after] {
		cable = modelDo(cable, x, link)
		if x.What == api.Weld {
			link++
		}
	}
	if len(cable) == 0 {
		return api.Sight{}, false
	}
	at := d.upTo(len(cable))
	was := modelWelds(c)[cable[at]]
	s := sight(after, at, 0, was.Bar, was.Smith)
	if d.upTo(2) == 0 {
		s.At, s.From = len(cable)-1-at, 1
	}
	switch d.upTo(6) {
	case 0:
		s.Bar = -1
	case 1:
		s.Smith = -1
	case 2:
		s.Bar = d.upTo(4) - 1
		s.Smith = d.upTo(4) - 1
	}
	return s, true
}

func (d *dice) lever() api.Lever {
	low := 1 + d.upTo(20)
	if d.upTo(3) == 0 {
		low = 1 + d.upTo(2)
	}
	return lever(1+d.upTo(100), low, low+d.upTo(4))
}

// balance returns a balance that is often right in some setting.
func (d *dice) balance(m api.Machine) api.Balance {
	settings := modelSettings(m)
	s := settings[d.upTo(len(settings))]
	b := balance(d.upTo(60), d.upTo(50), 0, 0)
	load := s.load(m, b.Weight, b.Minutes)
	b.Load = min(load.low()+d.upTo(2), api.MaxLoad)
	switch d.upTo(4) {
	case 0:
		b.Off = d.upTo(b.Load/20 + 2)
	case 1, 2:
		b.Off = d.upTo(b.Load/2 + 2)
	}
	if d.upTo(10) == 0 {
		b.Load = min(d.upTo(2*b.Load+2), api.MaxLoad)
	}
	return b
}

// tank returns a valid machine in whose truths a greater leak often comes with a less short arm.
func (d *dice) tank() api.Machine {
	low := 1 + d.upTo(4)
	m := api.Machine{Levers: []api.Lever{lever(1+d.upTo(3), low, low+1+d.upTo(3))}, Water: 100 + d.upTo(200), Leak: span(0, 2+d.upTo(3))}
	b := d.balance(m)
	b.Weight, b.Off = 0, b.Load/8
	m.Balances = []api.Balance{b}
	return m
}

// machine returns a valid machine.
func (d *dice) machine() api.Machine {
	if d.upTo(3) == 0 {
		return d.tank()
	}
	m := api.Machine{Leak: span(d.upTo(4), 0)}
	m.Leak.High = m.Leak.Low + d.upTo(4)
	if d.upTo(4) > 0 {
		m.Water = d.upTo(200)
	}
	for range d.upTo(4) {
		m.Levers = append(m.Levers, d.lever())
	}
	for range d.upTo(4) {
		m.Balances = append(m.Balances, d.balance(m))
	}
	m.Wrong = d.upTo(len(m.Balances)/2 + 1)
	return m
}

// need returns a load that is needed: often one that is just pulled at some trial in some setting, or just not.
func (d *dice) need(p api.Proof) int {
	settings := modelMachines(p.Machine)
	if len(settings) == 0 || len(p.Trials) == 0 || d.upTo(20) == 0 {
		return d.upTo(1000)
	}
	x := p.Trials[d.upTo(len(p.Trials))]
	load := settings[d.upTo(len(settings))].load(p.Machine, x.Weight, x.Minutes)
	return min(max(load.low()+d.upTo(4)-1, 0), api.MaxLoad)
}

// proof returns a valid proof with so many deeds.
func (d *dice) proof(deeds, sights int) api.Proof {
	p := api.Proof{Chain: d.chain(deeds), Machine: d.machine(), Rule: 1 + d.upTo(4)}
	for range sights {
		if s, ok := d.sight(p.Chain); ok {
			p.Chain.Sights = append(p.Chain.Sights, s)
		}
	}
	p.Chain.Wrong = d.upTo(len(p.Chain.Sights)/2 + 1)
	// The trials pull nearly the same, with more weight instead of what leaked, so that one of them can decide.
	weight := d.upTo(60)
	leak := (p.Machine.Leak.Low + p.Machine.Leak.High) / 2
	for deed, x := range p.Chain.Deeds {
		if x.What == api.Prove {
			broke := -1
			if length := lengthAfter(p.Chain, deed); length > 0 && d.upTo(4) > 0 {
				broke = d.upTo(length)
			}
			minutes := d.upTo(80)
			p.Trials = append(p.Trials, trial(weight+d.upTo(10)+leak*minutes, minutes, broke))
		}
	}
	p.Need = d.need(p)
	return p
}

// tie returns a valid proof that is like tied.
func (d *dice) tie() api.Proof {
	p := plain(0, 1+d.upTo(3))
	p.Machine = d.tank()
	weight := d.upTo(60)
	for range 2 + d.upTo(2) {
		minutes := d.upTo(100)
		p.Chain.Deeds = append(p.Chain.Deeds, prove())
		p.Trials = append(p.Trials, trial(weight+d.upTo(3)*minutes, minutes, d.upTo(2)))
	}
	p.Need = d.need(p)
	return p
}

// files calls f with some proofs, and all the edges that the chapter names.
func files(f func(p api.Proof, d *dice)) {
	d := &dice{1}
	for _, p := range edges() {
		f(p, d)
	}
	for range 1000 {
		f(d.proof(3+d.upTo(6), d.upTo(4)), d)
	}
}

// plain returns a proof of a machine without levers: each trial pulls its weight. Behind two links, by the smiths 3
// and 4, there is a deed that proves for each trial.
func plain(need, rule int, trials ...api.ProofTrial) api.Proof {
	p := api.Proof{Chain: api.Chain{Deeds: []api.Deed{weld(0, 0, 1, 3), weld(1, 0, 2, 4)}}, Trials: trials, Need: need, Rule: rule}
	for range trials {
		p.Chain.Deeds = append(p.Chain.Deeds, prove())
	}
	return p
}

// tied returns a proof with two trials at which a link broke, of which just one is a failure in each truth, though
// each one can be a failure, and can be none: a greater leak comes with a less product of short arms.
func tied(rule int) api.Proof {
	p := plain(100, rule, trial(0, 0, 0), trial(100, 70, 1))
	p.Machine = api.Machine{Levers: []api.Lever{lever(1, 2, 3)}, Water: 240, Leak: span(0, 3), Balances: []api.Balance{balance(0, 30, 77, 3)}}
	return p
}

func edges() []api.Proof {
	halves := api.Machine{Levers: []api.Lever{lever(1, 2, 2)}} // 9 pulls 4 and a half
	thirds := api.Machine{Levers: []api.Lever{lever(2, 3, 3)}}
	two := api.Machine{Levers: []api.Lever{lever(1, 1, 2)}}
	fair := api.Machine{Levers: []api.Lever{lever(1, 1, 1), lever(1, 1, 2)}}
	gaps := api.Machine{Levers: []api.Lever{lever(7, 1, 3), lever(7, 1, 3), lever(7, 1, 3)}, Balances: []api.Balance{balance(4, 0, 343, 0), balance(8, 0, 343, 0)}, Wrong: 1}
	l := []api.Proof{
		{Rule: 1}, // a cable without links, and no trials
		{Rule: 12, Need: api.MaxLoad, Trials: []api.ProofTrial{}},
		{Rule: 1, Chain: api.Chain{Deeds: []api.Deed{prove(), turn(), prove()}}, Trials: []api.ProofTrial{trial(5, 0, -1), trial(6, 0, -1)}, Need: 5},
		{Rule: 1, Chain: api.Chain{Deeds: []api.Deed{weld(0, 0, 1, 1), prove(), cut(0, 0), prove()}}, Trials: []api.ProofTrial{trial(5, 0, 0), trial(5, 0, -1)}, Need: 4},
		{Rule: 1, Chain: api.Chain{Deeds: []api.Deed{weld(0, 0, 1, 1), prove(), turn(), weld(0, 0, 2, 2), prove()}}, Trials: []api.ProofTrial{trial(5, 0, -1), trial(4, 0, 1)}, Need: 5},
		// Whichever link broke, the same smith welded it; or just another one.
		{Rule: 1, Chain: api.Chain{Deeds: []api.Deed{weld(0, 2, 1, 1), weld(0, 2, 2, 1), prove()}}, Trials: []api.ProofTrial{trial(5, 0, 0)}, Need: 5},
		{Rule: 1, Chain: api.Chain{Deeds: []api.Deed{weld(0, 2, 1, 2), weld(0, 2, 2, 1), prove()}}, Trials: []api.ProofTrial{trial(5, 0, 0)}, Need: 5},
		{Rule: 1, Chain: api.Chain{Deeds: []api.Deed{weld(0, 2, 1, 2), weld(0, 2, 2, 1), prove(), prove()}}, Trials: []api.ProofTrial{trial(5, 0, 0), trial(5, 0, 1)}, Need: 5},
		{Rule: 1, Chain: api.Chain{Deeds: []api.Deed{weld(0, 2, 1, 2), weld(0, 2, 2, 1), prove(), prove()}}, Trials: []api.ProofTrial{trial(6, 0, 0), trial(5, 0, 1)}, Need: 5},
		// A sight after the trial tells which link broke.
		{Rule: 1, Chain: api.Chain{Deeds: []api.Deed{weld(0, 0, 1, 2), weld(0, 2, 2, 1), prove(), cut(0, 0)}, Sights: []api.Sight{sight(4, 0, 0, 1, -1)}}, Trials: []api.ProofTrial{trial(5, 0, 0)}, Need: 5},
		// No truth of the chain; of the machine; of both.
		{Rule: 1, Chain: api.Chain{Deeds: []api.Deed{weld(0, 2, 1, 1), prove()}, Sights: []api.Sight{sight(1, 0, 0, 2, -1)}}, Trials: []api.ProofTrial{trial(5, 0, 0)}},
		{Rule: 1, Machine: api.Machine{Balances: []api.Balance{balance(1, 0, 0, 0)}}},
		{Rule: 1, Machine: api.Machine{Balances: []api.Balance{balance(1, 0, 0, 0)}}, Chain: api.Chain{Deeds: []api.Deed{weld(0, 0, 1, 1)}, Sights: []api.Sight{sight(1, 0, 0, -1, 2)}}},
		plain(0, 1, trial(0, 0, 0)), // nothing is pulled, and nothing is needed
		plain(0, 1, trial(0, 0, -1)),
		plain(1, 1, trial(0, 0, -1)),
		plain(9999, 1, trial(9999, 99, -1)),
		plain(10000, 1, trial(9999, 99, -1)), // no weight pulls it
		plain(api.MaxLoad, 12, slices.Repeat([]api.ProofTrial{trial(5, 0, 1)}, 10)...),
		tied(1), tied(2), tied(3),
	}
	for need := range 8 {
		for _, m := range []api.Machine{{}, halves, thirds, two, fair} {
			for rule := range 3 {
				p := plain(need, rule+1, trial(7, 0, 0), trial(8, 0, 1), trial(9, 0, -1))
				p.Machine = m
				l = append(l, p)
			}
		}
		p := plain(340+need, 1, trial(6, 0, 0), trial(7, 0, 0), trial(6, 0, -1))
		p.Machine = gaps
		l = append(l, p)
		// The tank runs dry, sooner or later.
		p = plain(need, 2, trial(1, 1, 0), trial(1, 2, 1), trial(1, 4, 0), trial(1, 99, -1))
		p.Machine = api.Machine{Water: 6, Leak: span(1, 2)}
		l = append(l, p)
	}
	for _, need := range []int{0, 4544, 4545, 4546, 4635, 4636, 4637, 4999, 5000, 5001, 5100, 5101, api.MaxLoad} {
		for rule := range 3 {
			for broke := -1; broke < 3; broke++ {
				p := example(rule + 1)
				p.Need = need
				p.Trials[1].Broke = broke
				l = append(l, p)
			}
		}
	}
	return l
}
