package proofs_test

import (
	"slices"
	"testing"

	"shackle/api"
	"shackle/proofs"
)

// These tests see only what package proofs exports. What they expect is from a model that tries each choice of ends
// with each setting of the machine there is, just as the document defines it.

func span(low, high int) api.Span { return api.Span{Low: low, High: high} }

func weld(at, from, bar, smith int) api.Deed {
	return api.Deed{What: api.Weld, At: at, From: from, Bar: bar, Smith: smith}
}

func cut(at, from int) api.Deed { return api.Deed{What: api.Cut, At: at, From: from} }

func turn() api.Deed { return api.Deed{What: api.Turn} }

func prove() api.Deed { return api.Deed{What: api.Prove} }

func sight(after, at, from, bar, smith int) api.Sight {
	return api.Sight{After: after, At: at, From: from, Bar: bar, Smith: smith}
}

func lever(long, low, high int) api.Lever { return api.Lever{Long: long, Short: span(low, high)} }

func balance(weight, minutes, load, off int) api.Balance {
	return api.Balance{Weight: weight, Minutes: minutes, Load: load, Off: off}
}

func trial(weight, minutes, broke int) api.ProofTrial {
	return api.ProofTrial{Weight: weight, Minutes: minutes, Broke: broke}
}

// example is F of the chapter's examples, with a rule; G is F with the rule 2.
func example(rule int) api.Proof {
	deeds := []api.Deed{weld(0, 0, 5, 1), weld(1, 0, 5, 2), weld(2, 0, 6, 1), prove(), cut(0, 2), weld(0, 1, 7, 2), prove()}
	m := api.Machine{Levers: []api.Lever{lever(100, 10, 11), lever(50, 5, 5)}, Water: 20, Leak: span(1, 2), Balances: []api.Balance{balance(10, 5, 2500, 250)}}
	return api.Proof{Chain: api.Chain{Deeds: deeds}, Machine: m, Trials: []api.ProofTrial{trial(30, 0, 0), trial(31, 0, -1)}, Need: 4600, Rule: rule}
}

// clone returns a proof that shares no memory with p.
func clone(p api.Proof) api.Proof {
	p.Chain.Deeds = slices.Clone(p.Chain.Deeds)
	p.Chain.Sights = slices.Clone(p.Chain.Sights)
	p.Machine.Levers = slices.Clone(p.Machine.Levers)
	p.Machine.Balances = slices.Clone(p.Machine.Balances)
	p.Trials = slices.Clone(p.Trials)
	return p
}

func equal(a, b api.Proof) bool {
	return slices.Equal(a.Chain.Deeds, b.Chain.Deeds) && slices.Equal(a.Chain.Sights, b.Chain.Sights) && a.Chain.Wrong == b.Chain.Wrong &&
		slices.Equal(a.Machine.Levers, b.Machine.Levers) && slices.Equal(a.Machine.Balances, b.Machine.Balances) &&
		a.Machine.Water == b.Machine.Water && a.Machine.Leak == b.Machine.Leak && a.Machine.Wrong == b.Machine.Wrong &&
		slices.Equal(a.Trials, b.Trials) && a.Need == b.Need && a.Rule == b.Rule
}

// modelStory is what came of a choice of ends: the cable at each trial, the link that broke then (-1: none), and the
// cable in the end.
type modelStory struct {
	cables [][]int
	broke  []int
	last   []int
}

// modelChoices returns each list of deeds in which the ends that are not known have become ones that are.
func modelChoices(deeds []api.Deed) [][]api.Deed {
	all := [][]api.Deed{{}}
	for _, d := range deeds {
		var longer [][]api.Deed
		for _, l := range all {
			for end := range 2 {
				known := d
				if d.From == 2 {
					known.From = end
				} else if end == 1 {
					break
				}
				longer = append(longer, append(slices.Clone(l), known))
			}
		}
		all = longer
	}
	return all
}

func flipped(cable []int) []int {
	cable = slices.Clone(cable)
	slices.Reverse(cable)
	return cable
}

// modelDo returns the cable after a deed whose end is known. What is counted from the tail is done at the head of the flipped cable.
func modelDo(cable []int, d api.Deed, link int) []int {
	if d.From == 1 {
		d.From = 0
		return flipped(modelDo(flipped(cable), d, link))
	}
	switch d.What {
	case api.Weld:
		return slices.Concat(cable[:d.At], []int{link}, cable[d.At:])
	case api.Cut:
		return slices.Concat(cable[:d.At], cable[d.At+1:])
	case api.Turn:
		return flipped(cable)
	}
	return cable
}

// modelWelds returns the deeds that weld, which are the links.
func modelWelds(c api.Chain) []api.Deed {
	return slices.DeleteFunc(slices.Clone(c.Deeds), func(d api.Deed) bool { return d.What != api.Weld })
}

// modelStories returns the story of each truth of the chain.
func modelStories(p api.Proof) []modelStory {
	welded := modelWelds(p.Chain)
	var all []modelStory
	for _, deeds := range modelChoices(p.Chain.Deeds) {
		after := [][]int{{}}
		var s modelStory
		link := 0
		for i, d := range deeds {
			if d.What == api.Prove {
				broke := -1
				if at := p.Trials[len(s.broke)].Broke; at >= 0 {
					broke = after[i][at]
				}
				s.cables = append(s.cables, after[i])
				s.broke = append(s.broke, broke)
			}
			after = append(after, modelDo(after[i], d, link))
			if d.What == api.Weld {
				link++
			}
		}
		s.last = after[len(deeds)]
		wrong := 0
		for _, x := range p.Chain.Sights {
			cable := after[x.After]
			if x.From == 1 {
				cable = flipped(cable)
			}
			d := welded[cable[x.At]]
			if x.Bar >= 0 && x.Bar != d.Bar || x.Smith >= 0 && x.Smith != d.Smith {
				wrong++
			}
		}
		if wrong <= p.Chain.Wrong {
			all = append(all, s)
		}
	}
	return all
}

// fraction is a load: at least 0, divided by at least 1.
type fraction struct{ of, by int }

func (f fraction) low() int { return f.of / f.by }

func (f fraction) high() int {
	if f.of%f.by == 0 {
		return f.of / f.by
	}
	return f.of/f.by + 1
}

func (f fraction) atLeast(n int) bool { return f.of >= n*f.by }

func (f fraction) atMost(n int) bool { return f.of <= n*f.by }

// modelSetting is a short arm of each lever, and a leak.
type modelSetting struct {
	shorts []int
	leak   int
}

// load returns the load of a weight, so many minutes after the tank was filled.
func (s modelSetting) load(m api.Machine, weight, minutes int) fraction {
	f := fraction{weight + max(m.Water-minutes*s.leak, 0), 1}
	for i, l := range m.Levers {
		f.of *= l.Long
		f.by *= s.shorts[i]
	}
	return f
}

// modelSettings returns all settings, whichever balances are right in them.
func modelSettings(m api.Machine) []modelSetting {
	var all []modelSetting
	for leak := m.Leak.Low; leak <= m.Leak.High; leak++ {
		with := []modelSetting{{leak: leak}}
		for _, l := range m.Levers {
			var longer []modelSetting
			for _, s := range with {
				for n := l.Short.Low; n <= l.Short.High; n++ {
					longer = append(longer, modelSetting{append(slices.Clone(s.shorts), n), leak})
				}
			}
			with = longer
		}
		all = append(all, with...)
	}
	return all
}

// modelMachines returns the settings in which at most Wrong balances are not right.
func modelMachines(m api.Machine) []modelSetting {
	return slices.DeleteFunc(modelSettings(m), func(s modelSetting) bool {
		wrong := 0
		for _, b := range m.Balances {
			if load := s.load(m, b.Weight, b.Minutes); !load.atLeast(b.Load-b.Off) || !load.atMost(b.Load+b.Off) {
				wrong++
			}
		}
		return wrong > m.Wrong
	})
}

// modelTruth is a truth of the chain, and the load of each trial in a truth of the machine.
type modelTruth struct {
	modelStory
	loads []fraction
}

func modelTruths(p api.Proof) []modelTruth {
	stories := modelStories(p)
	var all []modelTruth
	for _, s := range modelMachines(p.Machine) {
		var loads []fraction
		for _, x := range p.Trials {
			loads = append(loads, s.load(p.Machine, x.Weight, x.Minutes))
		}
		for _, story := range stories {
			all = append(all, modelTruth{story, loads})
		}
	}
	return all
}

// failed returns the trials that are failures.
func (u modelTruth) failed(need int) []int {
	var l []int
	for i, link := range u.broke {
		if link >= 0 && u.loads[i].atMost(need) {
			l = append(l, i)
		}
	}
	return l
}

func (u modelTruth) proved(need, link int) bool {
	for i, load := range u.loads {
		if load.atLeast(need) && slices.Contains(u.cables[i], link) && u.broke[i] != link {
			return true
		}
	}
	return false
}

func (u modelTruth) good(need, rule int) bool {
	open := slices.ContainsFunc(u.last, func(link int) bool { return !u.proved(need, link) })
	return len(u.failed(need)) < rule && !open
}

// blamed reports whether a link of a smith broke at a failure.
func (u modelTruth) blamed(p api.Proof, smith int) bool {
	welded := modelWelds(p.Chain)
	return slices.ContainsFunc(u.failed(p.Need), func(i int) bool { return welded[u.broke[i]].Smith == smith })
}

// modelSays returns whether something is so in each truth, in none, or in some.
func modelSays(truths []modelTruth, is func(u modelTruth) bool) int {
	yes := slices.ContainsFunc(truths, is)
	no := slices.ContainsFunc(truths, func(u modelTruth) bool { return !is(u) })
	switch {
	case yes && no:
		return api.Perhaps
	case yes:
		return api.Surely
	}
	return api.Never
}

// modelAll returns what is so in truths, each once, ascending.
func modelAll(truths []modelTruth, of func(u modelTruth) int) []int {
	is := map[int]bool{}
	var l []int
	for _, u := range truths {
		if n := of(u); !is[n] {
			is[n] = true
			l = append(l, n)
		}
	}
	slices.Sort(l)
	return l
}

// facts is what the functions say of a proof. A worth or a weight that there is not is -1.
type facts struct {
	many      int // 0: there is no truth, and all else is its zero value
	loads     []api.Span
	broke     [][]int
	failures  api.Span
	condemned int
	blamed    []int
	proved    []int
	open      []int
	good      int
	worth     int
	weight    int
}

func (f facts) equal(g facts) bool {
	return f.many == g.many && slices.Equal(f.loads, g.loads) && slices.EqualFunc(f.broke, g.broke, slices.Equal) && f.failures == g.failures && f.condemned == g.condemned &&
		slices.Equal(f.blamed, g.blamed) && slices.Equal(f.proved, g.proved) && slices.Equal(f.open, g.open) && f.good == g.good && f.worth == g.worth && f.weight == g.weight
}

// modelFacts returns what the functions should say.
func modelFacts(p api.Proof) facts {
	truths := modelTruths(p)
	if len(truths) == 0 {
		return facts{}
	}
	welded := modelWelds(p.Chain)
	says := func(is func(u modelTruth) bool) int { return modelSays(truths, is) }
	f := facts{many: len(truths), worth: modelWorth(p, truths), weight: modelWeight(p)}
	for i := range p.Trials {
		low := modelAll(truths, func(u modelTruth) int { return u.loads[i].low() })
		high := modelAll(truths, func(u modelTruth) int { return u.loads[i].high() })
		f.loads = append(f.loads, span(low[0], high[len(high)-1]))
		broke := modelAll(truths, func(u modelTruth) int { return u.broke[i] })
		f.broke = append(f.broke, slices.DeleteFunc(broke, func(link int) bool { return link < 0 }))
	}
	many := modelAll(truths, func(u modelTruth) int { return len(u.failed(p.Need)) })
	f.failures = span(many[0], many[len(many)-1])
	f.condemned = says(func(u modelTruth) bool { return len(u.failed(p.Need)) >= p.Rule })
	for smith := range api.MaxSmith + 1 {
		if slices.ContainsFunc(welded, func(d api.Deed) bool { return d.Smith == smith }) && says(func(u modelTruth) bool { return u.blamed(p, smith) }) == api.Surely {
			f.blamed = append(f.blamed, smith)
		}
	}
	for link := range welded {
		f.proved = append(f.proved, says(func(u modelTruth) bool { return u.proved(p.Need, link) }))
	}
	for at := range truths[0].last {
		if says(func(u modelTruth) bool { return u.proved(p.Need, u.last[at]) }) != api.Surely {
			f.open = append(f.open, at)
		}
	}
	f.good = says(func(u modelTruth) bool { return u.good(p.Need, p.Rule) })
	return f
}

// modelWorth tries all loads that make a difference, and the greatest one.
func modelWorth(p api.Proof, truths []modelTruth) int {
	tries := []int{api.MaxLoad}
	for i := range p.Trials {
		tries = append(tries, modelAll(truths, func(u modelTruth) int { return u.loads[i].low() })...)
		tries = append(tries, modelAll(truths, func(u modelTruth) int { return u.loads[i].high() - 1 })...)
	}
	worth := -1
	for _, need := range tries {
		if need > worth && need <= api.MaxLoad && !slices.ContainsFunc(truths, func(u modelTruth) bool { return !u.good(need, p.Rule) }) {
			worth = need
		}
	}
	return worth
}

func modelWeight(p api.Proof) int {
	least := 0
	for _, s := range modelMachines(p.Machine) {
		for least <= api.MaxWeight && !s.load(p.Machine, least, 0).atLeast(p.Need) {
			least++
		}
	}
	if least > api.MaxWeight {
		return -1
	}
	return least
}

// learn returns what the functions say of a valid proof.
func learn(t *testing.T, p api.Proof) facts {
	t.Helper()
	var f facts
	if e := proofs.Check(p); e != api.OK {
		t.Fatalf("%+v: Check = %d", p, e)
	}
	var want api.Errno
	f.many, want = proofs.Many(p)
	if want != api.OK && (want != api.ErrNone || f.many != 0) || want == api.OK && f.many < 1 {
		t.Fatalf("%+v: Many = %d, %d", p, f.many, want)
	}
	must := func(name string, e api.Errno) {
		t.Helper()
		if e != want {
			t.Fatalf("%+v: %s = %d, Many = %d", p, name, e, want)
		}
	}
	for i := range p.Trials {
		s, e := proofs.Loads(p, i)
		must("Loads", e)
		l, e := proofs.Broke(p, i)
		must("Broke", e)
		if want == api.OK || s != (api.Span{}) || len(l) > 0 {
			f.loads = append(f.loads, s)
			f.broke = append(f.broke, l)
		}
	}
	for link := range modelWelds(p.Chain) {
		n, e := proofs.Proved(p, link)
		must("Proved", e)
		if want == api.OK || n != 0 {
			f.proved = append(f.proved, n)
		}
	}
	var e api.Errno
	f.failures, e = proofs.Failures(p)
	must("Failures", e)
	f.condemned, e = proofs.Condemned(p)
	must("Condemned", e)
	f.blamed, e = proofs.Blamed(p)
	must("Blamed", e)
	f.open, e = proofs.Open(p)
	must("Open", e)
	f.good, e = proofs.Good(p)
	must("Good", e)
	numbers := func(name string, n int, e api.Errno) int {
		t.Helper()
		if e == api.ErrNone && want == api.OK && n == 0 {
			return -1
		}
		must(name, e)
		return n
	}
	n, e := proofs.Worth(p)
	f.worth = numbers("Worth", n, e)
	n, e = proofs.Weight(p)
	f.weight = numbers("Weight", n, e)
	return f
}
