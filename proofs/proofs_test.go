package proofs_test

import (
	"math"
	"slices"
	"testing"

	"shackle/api"
	"shackle/proofs"
)

// full returns a valid proof with as many of all things as there can be.
func full() api.Proof {
	m := api.Machine{Levers: slices.Repeat([]api.Lever{lever(1000, 998, 1000)}, 3), Water: 9999, Leak: span(18, 20), Balances: slices.Repeat([]api.Balance{balance(9999, 99, 18018, 20)}, 6), Wrong: 6}
	p := api.Proof{Machine: m, Need: 18100, Rule: 12}
	for i := range 4 {
		p.Chain.Deeds = append(p.Chain.Deeds, weld(i, 2*(i%2), 99-i, 99-i), prove(), turn())
		p.Trials = append(p.Trials, trial(9999, 33*i, i))
	}
	p.Chain.Sights = slices.Repeat([]api.Sight{sight(12, 0, 1, -1, 99)}, 8)
	p.Chain.Wrong = 8
	return p
}

// P6.1
func TestCheckValid(t *testing.T) {
	l := append(edges(), full(), example(12))
	good := func(change func(p *api.Proof)) {
		p := example(1)
		change(&p)
		l = append(l, p)
	}
	good(func(p *api.Proof) { p.Trials[0] = trial(0, 0, -1) })
	good(func(p *api.Proof) { p.Trials[0] = trial(9999, 99, 2) })
	good(func(p *api.Proof) { p.Need = 0 })
	good(func(p *api.Proof) { p.Need = 999999999 })
	good(func(p *api.Proof) { p.Chain.Wrong = 8; p.Machine.Wrong = 6 })
	// A place counts the links that the cable has then: at the last deed there are four.
	good(func(p *api.Proof) { p.Chain.Deeds[4] = turn(); p.Trials[1].Broke = 3 })
	good(func(p *api.Proof) { p.Chain.Deeds = p.Chain.Deeds[:3]; p.Trials = nil })
	for i, p := range l {
		if e := proofs.Check(p); e != api.OK {
			t.Errorf("%d: Check(%+v) = %d", i, p, e)
		}
	}
}

// badProofs returns proofs that differ from a valid one in one thing.
func badProofs() []api.Proof {
	var l []api.Proof
	bad := func(change func(p *api.Proof)) {
		for _, p := range []api.Proof{example(1), full()} {
			change(&p)
			l = append(l, p)
		}
	}
	bad(func(p *api.Proof) { p.Chain.Deeds[0].What = 0 })
	bad(func(p *api.Proof) { p.Chain.Deeds[0].From = 3 })
	bad(func(p *api.Proof) { p.Chain.Deeds = nil })
	bad(func(p *api.Proof) { p.Chain.Deeds = append(p.Chain.Deeds, slices.Repeat([]api.Deed{turn()}, 6)...) })
	bad(func(p *api.Proof) { p.Chain.Deeds = append(p.Chain.Deeds[1:], prove()) })
	bad(func(p *api.Proof) { p.Chain.Deeds[2] = prove() }) // one more than there are trials
	bad(func(p *api.Proof) { p.Chain.Sights = slices.Repeat([]api.Sight{sight(1, 0, 0, -1, -1)}, 9) })
	bad(func(p *api.Proof) { p.Chain.Sights = []api.Sight{sight(0, 0, 0, -1, -1)} })
	bad(func(p *api.Proof) { p.Chain.Wrong = -1 })
	bad(func(p *api.Proof) { p.Chain.Wrong = 9 })
	bad(func(p *api.Proof) { p.Machine.Levers[0].Short.Low = 0 })
	bad(func(p *api.Proof) { p.Machine.Levers[0].Short.High = 9 })
	bad(func(p *api.Proof) { p.Machine.Levers = slices.Repeat(p.Machine.Levers[:1], 4) })
	bad(func(p *api.Proof) { p.Machine.Water = 10000 })
	bad(func(p *api.Proof) { p.Machine.Leak.High = 21 })
	bad(func(p *api.Proof) { p.Machine.Balances = slices.Repeat(p.Machine.Balances[:1], 7) })
	bad(func(p *api.Proof) { p.Machine.Balances[0].Off = -1 })
	bad(func(p *api.Proof) { p.Machine.Wrong = -1 })
	bad(func(p *api.Proof) { p.Machine.Wrong = 7 })
	bad(func(p *api.Proof) { p.Trials = nil })
	bad(func(p *api.Proof) { p.Trials = p.Trials[1:] })
	bad(func(p *api.Proof) { p.Trials = append(p.Trials, trial(0, 0, -1)) })
	for i := range 2 {
		for _, n := range []int{math.MinInt, -1, 10000, math.MaxInt} {
			bad(func(p *api.Proof) { p.Trials[i].Weight = n })
		}
		for _, n := range []int{math.MinInt, -1, 100, math.MaxInt} {
			bad(func(p *api.Proof) { p.Trials[i].Minutes = n })
		}
		for _, n := range []int{math.MinInt, -2, 3, math.MaxInt} {
			bad(func(p *api.Proof) { p.Trials[i].Broke = n })
		}
	}
	for _, n := range []int{math.MinInt, -1, 1000000000, math.MaxInt} {
		bad(func(p *api.Proof) { p.Need = n })
	}
	for _, n := range []int{math.MinInt, -1, 0, 13, math.MaxInt} {
		bad(func(p *api.Proof) { p.Rule = n })
	}
	// No link can break where there is none.
	for _, deeds := range [][]api.Deed{{prove()}, {prove(), weld(0, 0, 0, 0)}, {weld(0, 0, 0, 0), cut(0, 0), prove()}} {
		l = append(l, api.Proof{Chain: api.Chain{Deeds: deeds}, Trials: []api.ProofTrial{trial(0, 0, 0)}, Rule: 1})
	}
	return l
}

// answer is what any of the functions returns, for tests of errors.
type answer struct {
	name  string
	e     api.Errno
	empty bool
}

// ofProof returns what the functions say that take no number.
func ofProof(p api.Proof) []answer {
	many, a := proofs.Many(p)
	failures, b := proofs.Failures(p)
	condemned, c := proofs.Condemned(p)
	blamed, d := proofs.Blamed(p)
	open, e := proofs.Open(p)
	good, f := proofs.Good(p)
	worth, g := proofs.Worth(p)
	weight, h := proofs.Weight(p)
	return []answer{{"Many", a, many == 0}, {"Failures", b, failures == api.Span{}}, {"Condemned", c, condemned == 0}, {"Blamed", d, len(blamed) == 0},
		{"Open", e, len(open) == 0}, {"Good", f, good == 0}, {"Worth", g, worth == 0}, {"Weight", h, weight == 0}}
}

func ofTrial(p api.Proof, trial int) []answer {
	s, e := proofs.Loads(p, trial)
	l, f := proofs.Broke(p, trial)
	return []answer{{"Loads", e, s == api.Span{}}, {"Broke", f, len(l) == 0}}
}

func ofLink(p api.Proof, link int) []answer {
	n, e := proofs.Proved(p, link)
	return []answer{{"Proved", e, n == 0}}
}

func mustAll(t *testing.T, p api.Proof, l []answer, want api.Errno) {
	t.Helper()
	for _, a := range l {
		if a.e != want || !a.empty {
			t.Errorf("%+v: %+v, not %d", p, a, want)
		}
	}
}

// P6.1, R1, R2, R5: ErrProof comes first, whatever the other arguments are.
func TestErrProof(t *testing.T) {
	for _, p := range badProofs() {
		if e := proofs.Check(p); e != api.ErrProof {
			t.Errorf("Check(%+v) = %d", p, e)
		}
		mustAll(t, p, slices.Concat(ofProof(p), ofTrial(p, 0), ofTrial(p, -1), ofTrial(p, 99), ofLink(p, 0), ofLink(p, -1), ofLink(p, 99)), api.ErrProof)
	}
}

// noChain has no truth of its chain, noMachine none of its machine.
func noChain() api.Proof {
	p := example(1)
	p.Chain.Sights = []api.Sight{sight(1, 0, 0, 9, -1)}
	return p
}

func noMachine() api.Proof {
	p := example(1)
	p.Machine.Balances = append(p.Machine.Balances, balance(0, 0, 1500, 0))
	return p
}

// R1, R2: ErrArg comes before ErrNone, and whether there is a truth or not.
func TestErrArg(t *testing.T) {
	for _, p := range append(edges(), full(), noChain(), noMachine()) {
		for _, n := range []int{math.MinInt, -1, len(p.Trials), 12, math.MaxInt} {
			mustAll(t, p, ofTrial(p, n), api.ErrArg)
		}
		for _, n := range []int{math.MinInt, -1, len(modelWelds(p.Chain)), 12, math.MaxInt} {
			mustAll(t, p, ofLink(p, n), api.ErrArg)
		}
	}
	// A link is one of the chain also if it is cut out, or comes after all trials.
	p := plain(5, 1, trial(5, 0, -1))
	p.Chain.Deeds = append(p.Chain.Deeds, cut(0, 0), weld(0, 0, 1, 1))
	for link, want := range []int{api.Surely, api.Surely, api.Never} {
		if n, e := proofs.Proved(p, link); n != want || e != api.OK {
			t.Errorf("Proved(%d) = %d, %d", link, n, e)
		}
	}
}

// R2: without a truth of the chain, or of the machine, there is nothing but ErrNone.
func TestErrNone(t *testing.T) {
	both := noChain()
	both.Machine = noMachine().Machine
	for _, p := range []api.Proof{noChain(), noMachine(), both} {
		if e := proofs.Check(p); e != api.OK {
			t.Errorf("%+v: Check = %d", p, e)
		}
		mustAll(t, p, ofProof(p), api.ErrNone)
		for i := range p.Trials {
			mustAll(t, p, ofTrial(p, i), api.ErrNone)
		}
		for link := range 4 {
			mustAll(t, p, ofLink(p, link), api.ErrNone)
		}
	}
	// Each has its own Wrong.
	for chain := range 2 {
		for machine := range 2 {
			both.Chain.Wrong, both.Machine.Wrong = chain, machine
			n, e := proofs.Many(both)
			if is := chain == 1 && machine == 1; is != (e == api.OK) || is != (n > 0) || !is && e != api.ErrNone {
				t.Errorf("Wrong %d and %d: Many = %d, %d", chain, machine, n, e)
			}
		}
	}
}

// The chapter's examples, and example 6 of the document.
func TestExamples(t *testing.T) {
	f := facts{many: 4, loads: []api.Span{span(4545, 5000), span(4636, 5100)}, broke: [][]int{{0}, nil}, failures: span(0, 1), condemned: api.Perhaps,
		proved: []int{api.Perhaps, api.Surely, api.Perhaps, api.Surely}, good: api.Perhaps, worth: 4545, weight: 31}
	if is := learn(t, example(1)); !is.equal(f) {
		t.Errorf("F: %+v, not %+v", is, f)
	}
	f.condemned, f.good, f.worth = api.Never, api.Surely, 4636
	if is := learn(t, example(2)); !is.equal(f) {
		t.Errorf("G: %+v, not %+v", is, f)
	}
}

// P6.2 to P6.12: each function says what the model says.
func TestModel(t *testing.T) {
	var condemned, good int
	files(func(p api.Proof, d *dice) {
		f, want := learn(t, p), modelFacts(p)
		if !f.equal(want) {
			t.Errorf("%+v: %+v, not %+v", p, f, want)
		}
		if f.condemned == api.Perhaps {
			condemned++
		}
		if f.good == api.Perhaps {
			good++
		}
	})
	if condemned < 50 || good < 50 {
		t.Errorf("only %d cables perhaps are condemned, %d perhaps are good", condemned, good)
	}
}

// alone returns between which numbers the failures would be if each trial had a machine of its own.
func alone(p api.Proof) api.Span {
	var s api.Span
	for i, x := range p.Trials {
		n := modelSays(modelTruths(p), func(u modelTruth) bool { return slices.Contains(u.failed(p.Need), i) })
		if x.Broke < 0 || n == api.Never {
			continue
		}
		s.High++
		if n == api.Surely {
			s.Low++
		}
	}
	return s
}

// P6.2 to P6.12: also with as many deeds and sights as there can be.
func TestModelOfMany(t *testing.T) {
	d := &dice{7}
	for range 20 {
		p := d.proof(api.MaxDeeds, d.upTo(api.MaxMarks+1))
		if f, want := learn(t, p), modelFacts(p); !f.equal(want) {
			t.Errorf("%+v: %+v, not %+v", p, f, want)
		}
	}
	p := full()
	if f, want := learn(t, p), modelFacts(p); !f.equal(want) {
		t.Errorf("%+v: %+v, not %+v", p, f, want)
	}
}

// P6.5, P6.8: with a load that just is what is needed, a trial is a failure, and proves as well.
func TestJustNeeded(t *testing.T) {
	for need, x := range map[int]struct {
		failures int
		proved   []int
	}{
		6: {0, []int{api.Never, api.Surely}},
		7: {1, []int{api.Never, api.Surely}},
		8: {1, []int{api.Never, api.Never}},
	} {
		f := learn(t, plain(need, 1, trial(7, 0, 0)))
		if f.failures != span(x.failures, x.failures) || !slices.Equal(f.proved, x.proved) {
			t.Errorf("%d: %+v", need, f)
		}
	}
	// Of a fraction, neither the number below it is enough for a failure, nor the one above it for a proof.
	half := plain(4, 1, trial(9, 0, 0))
	half.Machine.Levers = []api.Lever{lever(1, 2, 2)}
	if f := learn(t, half); f.failures != span(0, 0) || f.proved[1] != api.Surely || f.loads[0] != span(4, 5) {
		t.Errorf("4: %+v", f)
	}
	half.Need = 5
	if f := learn(t, half); f.failures != span(1, 1) || f.proved[1] != api.Never {
		t.Errorf("5: %+v", f)
	}
}

// P6.5, P6.6, P6.11: the trials are pulled by one machine, whatever it is.
func TestTied(t *testing.T) {
	for rule, condemned := range []int{api.Surely, api.Never, api.Never} {
		p := tied(rule + 1)
		f := learn(t, p)
		if f.many != 2 || f.failures != span(1, 1) || f.condemned != condemned {
			t.Errorf("%d: %+v", rule, f)
		}
		for i, want := range []api.Span{span(80, 120), span(65, 114)} {
			if f.loads[i] != want || alone(p) != span(0, 2) {
				t.Errorf("%d: Loads = %v; alone %v", i, f.loads[i], alone(p))
			}
		}
	}
}

// P6.5 to P6.11: also where more or fewer trials could be failures if each had a machine of its own.
func TestTies(t *testing.T) {
	d := &dice{5}
	ties := 0
	for range 4000 {
		p := d.tie()
		f, want := learn(t, p), modelFacts(p)
		if !f.equal(want) {
			t.Errorf("%+v: %+v, not %+v", p, f, want)
		}
		if f.many > 0 && f.failures != alone(p) {
			ties++
		}
	}
	if ties < 40 {
		t.Errorf("only %d times trials decide together", ties)
	}
}

// P6.4, P6.7: a link that broke stays in the cable until it is cut out, and can break again, or be proved.
func TestBrokenLink(t *testing.T) {
	p := plain(5, 3, trial(4, 0, 1), trial(5, 0, 1), trial(6, 0, 0))
	f := learn(t, p)
	if !slices.EqualFunc(f.broke, [][]int{{1}, {1}, {0}}, slices.Equal) || f.failures != span(2, 2) || f.condemned != api.Never || !slices.Equal(f.blamed, []int{4}) {
		t.Errorf("%+v", f)
	}
	if !slices.Equal(f.proved, []int{api.Surely, api.Surely}) || len(f.open) > 0 || f.good != api.Surely || f.worth != 5 {
		t.Errorf("%+v", f)
	}
	// Without the last trial, the link that broke twice is open.
	p.Chain.Deeds, p.Trials = p.Chain.Deeds[:4], p.Trials[:2]
	if f := learn(t, p); !slices.Equal(f.proved, []int{api.Surely, api.Never}) || !slices.Equal(f.open, []int{1}) || f.good != api.Never || f.worth != -1 {
		t.Errorf("%+v", f)
	}
}

// P6.7: a smith is blamed if it is his link in each truth, though not the same link.
func TestBlamed(t *testing.T) {
	for i, x := range []struct {
		smiths, blamed []int
		broke          []int
	}{
		{[]int{5, 5}, []int{5}, []int{0}},
		{[]int{5, 6}, nil, []int{0}},
		{[]int{6, 5}, []int{5, 6}, []int{1, 0}}, // each broke at one of both trials
		{[]int{0, 0}, []int{0}, []int{1}},
		{[]int{99, 0}, []int{0, 99}, []int{0, 1}},
	} {
		p := api.Proof{Chain: api.Chain{Deeds: []api.Deed{weld(0, 2, 1, x.smiths[0]), weld(0, 2, 1, x.smiths[1])}}, Need: 5, Rule: 1}
		for _, broke := range x.broke {
			p.Chain.Deeds = append(p.Chain.Deeds, prove())
			p.Trials = append(p.Trials, trial(5, 0, broke))
		}
		if l, e := proofs.Blamed(p); !slices.Equal(l, x.blamed) || e != api.OK {
			t.Errorf("%d: Blamed = %v, %d", i, l, e)
		}
		p.Need = 4 // no failure
		if l, e := proofs.Blamed(p); len(l) > 0 || e != api.OK {
			t.Errorf("%d: Blamed = %v, %d", i, l, e)
		}
	}
}

// P6.2, P6.3, P6.5: six balances, of which none to all can be wrong.
func TestBalances(t *testing.T) {
	for wrong := range api.MaxBalances + 1 {
		// Three balances are right with the product 2 of short arms, two with 4, and one with 1.
		p := plain(30, 1, trial(120, 0, 0), trial(240, 0, -1))
		p.Machine = api.Machine{Levers: []api.Lever{lever(1, 1, 3), lever(1, 1, 4)}, Wrong: wrong}
		for i, load := range []int{60, 60, 60, 30, 30, 120} {
			p.Machine.Balances = append(p.Machine.Balances, balance(120, i, load, 0))
		}
		f, want := learn(t, p), modelFacts(p)
		if !f.equal(want) {
			t.Errorf("%d: %+v, not %+v", wrong, f, want)
		}
		if loads := map[int]api.Span{3: span(60, 60), 4: span(30, 60), 5: span(30, 120), 6: span(10, 120)}[wrong]; f.many > 0 && f.loads[0] != loads || f.many == 0 && wrong > 2 {
			t.Errorf("%d: %+v", wrong, f)
		}
		if failures := map[int]api.Span{3: span(0, 0), 4: span(0, 1), 5: span(0, 1), 6: span(0, 1)}[wrong]; f.failures != failures {
			t.Errorf("%d: %+v", wrong, f)
		}
	}
}

// shortArms yields all lists of at most 3 levers with short arms of a few spans.
func shortArms(yield func([]api.Lever) bool) {
	shorts := []api.Span{span(1, 1), span(1, 2), span(2, 2), span(2, 3), span(1, 4)}
	lists := [][]api.Lever{nil}
	for range api.MaxLevers + 1 {
		var longer [][]api.Lever
		for _, l := range lists {
			if !yield(l) {
				return
			}
			for _, s := range shorts {
				longer = append(longer, append(slices.Clone(l), lever(1, s.Low, s.High)))
			}
		}
		lists = longer
	}
}

// P6.2 to P6.13: whichever levers surely have the short arm 1, or another one, with balances and without.
func TestShortArms(t *testing.T) {
	many, unsure := 0, 0
	for levers := range shortArms {
		for kind := range 12 {
			p := plain([3]int{2, 4, 6}[kind/4], 1, trial(12, 0, 0), trial(24, 0, -1))
			p.Machine.Levers = levers
			if off := 4 * (kind%4 - 1); off >= 0 {
				p.Machine.Balances = []api.Balance{balance(12, 0, 6, off)}
				p.Machine.Wrong = off / 8
			}
			f, want := learn(t, p), modelFacts(p)
			if !f.equal(want) {
				t.Errorf("%+v: %+v, not %+v", p, f, want)
			}
			many++
			if f.condemned == api.Perhaps {
				unsure++
			}
		}
	}
	if many != 12*(1+5+25+125) || unsure < 400 {
		t.Errorf("%d proofs, of which %d are unsure", many, unsure)
	}
}

// P6.5 to P6.11: the order of the levers changes nothing.
func TestOrderOfLevers(t *testing.T) {
	changed := 0
	files(func(p api.Proof, d *dice) {
		q := clone(p)
		for i := range q.Machine.Levers {
			j := d.upTo(i + 1)
			q.Machine.Levers[i], q.Machine.Levers[j] = q.Machine.Levers[j], q.Machine.Levers[i]
		}
		if f, g := learn(t, p), learn(t, q); !f.equal(g) {
			t.Errorf("%+v: %+v, in another order %+v", p, f, g)
		}
		if !equal(p, q) {
			changed++
		}
	})
	if changed < 100 {
		t.Errorf("only %d times the order was another one", changed)
	}
}

// P6.11: Worth is from 0 to MaxLoad, and there is none if no need is little enough.
func TestWorth(t *testing.T) {
	strong := api.Machine{Levers: slices.Repeat([]api.Lever{lever(1000, 1, 1)}, 3), Water: 9999}
	with := func(p api.Proof, m api.Machine) api.Proof {
		p.Machine = m
		return p
	}
	for i, x := range []struct {
		p    api.Proof
		want int
	}{
		{api.Proof{Rule: 1}, 999999999},
		{plain(3, 1), -1}, // nothing was proved
		{plain(3, 1, trial(0, 0, -1)), 0},
		{plain(3, 1, trial(7, 0, -1)), 7},
		{plain(3, 1, trial(0, 0, 0)), -1}, // condemned, whatever is needed
		{plain(3, 2, trial(0, 0, 0)), -1}, // not condemned, but a link is open
		{plain(3, 2, trial(0, 0, 0), trial(9, 0, -1)), 9},
		{plain(3, 1, trial(8, 0, 0), trial(9, 0, -1)), 7},
		{plain(3, 1, trial(9, 0, 0), trial(8, 0, 1)), 7},
		{plain(3, 2, trial(9, 0, 0), trial(8, 0, 1)), 8},
		{plain(3, 3, trial(9, 0, 0), trial(8, 0, 1)), 8},
		{plain(3, 1, trial(1, 0, 0), trial(9, 0, -1)), 0},
		{plain(3, 1, trial(0, 0, 0), trial(9, 0, -1)), -1},
		{with(plain(3, 1, trial(9, 0, 0), trial(20, 0, -1)), api.Machine{Levers: []api.Lever{lever(1, 2, 2)}}), 4}, // 4 and a half broke it
		{with(plain(3, 2, trial(9, 0, -1)), api.Machine{Levers: []api.Lever{lever(1, 2, 2)}}), 4},
		{with(plain(3, 1, trial(0, 0, -1)), strong), 999999999},
		{with(plain(3, 1, trial(0, 0, 0), trial(0, 0, 1)), strong), 999999999},
		{with(plain(3, 1, trial(9999, 0, 0), trial(9999, 0, 1)), strong), 999999999},
	} {
		n, e := proofs.Worth(x.p)
		if x.want < 0 && (n != 0 || e != api.ErrNone) || x.want >= 0 && (n != x.want || e != api.OK) {
			t.Errorf("%d: Worth = %d, %d, not %d", i, n, e, x.want)
		}
		for need := range 12 {
			x.p.Need = need
			if m, f := proofs.Worth(x.p); m != n || f != e {
				t.Errorf("%d: Worth with the need %d = %d, %d, not %d", i, need, m, f, n)
			}
		}
	}
}

// P6.12: the tank is full, whatever leaks; the greatest weight can be too little.
func TestWeight(t *testing.T) {
	for need, want := range map[int]int{0: 0, 132: 0, 133: 2, 6798: 9999, 6799: -1, 999999999: -1} {
		p := plain(need, 1, trial(0, 99, -1))
		p.Machine = api.Machine{Levers: []api.Lever{lever(2, 3, 3)}, Water: 198, Leak: span(1, 2)}
		n, e := proofs.Weight(p)
		if want < 0 && (n != 0 || e != api.ErrNone) || want >= 0 && (n != want || e != api.OK) {
			t.Errorf("%d: Weight = %d, %d, not %d", need, n, e, want)
		}
	}
}

// P1: no argument makes a function panic.
func TestAnyArguments(t *testing.T) {
	wild := slices.Concat(badProofs(), edges())
	wild = append(wild, full(), api.Proof{}, api.Proof{Rule: math.MaxInt, Trials: make([]api.ProofTrial, 1000), Chain: api.Chain{Deeds: slices.Repeat([]api.Deed{prove()}, 1000)}})
	for _, p := range wild {
		proofs.Check(p)
		ofProof(p)
		for _, n := range []int{math.MinInt, -1, 0, 1, 2, 3, 11, 12, 1000, math.MaxInt} {
			ofTrial(p, n)
			ofLink(p, n)
		}
	}
}

// R3: a list that is nil and one that is empty are the same.
func TestNilAndEmpty(t *testing.T) {
	empty := api.Proof{Rule: 1, Chain: api.Chain{Deeds: []api.Deed{}, Sights: []api.Sight{}}, Machine: api.Machine{Levers: []api.Lever{}, Balances: []api.Balance{}}, Trials: []api.ProofTrial{}}
	for i, p := range []api.Proof{{Rule: 1}, empty} {
		if f := learn(t, p); !f.equal(facts{many: 1, condemned: api.Never, good: api.Surely, worth: api.MaxLoad}) {
			t.Errorf("%d: %+v", i, f)
		}
		mustAll(t, p, ofTrial(p, 0), api.ErrArg)
		mustAll(t, p, ofLink(p, 0), api.ErrArg)
	}
}

// R4: no argument is changed, and a list that is returned is new.
func TestMemory(t *testing.T) {
	for _, p := range append(edges(), full()) {
		// Room behind each list shows what is written there.
		p.Chain.Deeds = append(slices.Clone(p.Chain.Deeds), weld(9, 9, 9, 9))
		p.Chain.Sights = append(slices.Clone(p.Chain.Sights), sight(9, 9, 9, 9, 9))
		p.Machine.Levers = append(slices.Clone(p.Machine.Levers), lever(9, 9, 9))
		p.Machine.Balances = append(slices.Clone(p.Machine.Balances), balance(9, 9, 9, 9))
		p.Trials = append(slices.Clone(p.Trials), trial(9, 9, 9))
		before, q := clone(p), p
		q.Chain.Deeds = p.Chain.Deeds[:len(p.Chain.Deeds)-1]
		q.Chain.Sights = p.Chain.Sights[:len(p.Chain.Sights)-1]
		q.Machine.Levers = p.Machine.Levers[:len(p.Machine.Levers)-1]
		q.Machine.Balances = p.Machine.Balances[:len(p.Machine.Balances)-1]
		q.Trials = p.Trials[:len(p.Trials)-1]
		learn(t, q)
		if !equal(p, before) {
			t.Errorf("%+v became %+v", before, p)
		}
	}
	p := example(1)
	p.Need = 5000
	for name, f := range map[string]func(api.Proof) ([]int, api.Errno){"Blamed": proofs.Blamed, "Open": proofs.Open, "Broke": func(p api.Proof) ([]int, api.Errno) { return proofs.Broke(p, 0) }} {
		a, e := f(p)
		b, g := f(p)
		for i := range a {
			a[i] = 77
		}
		if e != api.OK || g != api.OK || len(a) == 0 || slices.Contains(b, 77) {
			t.Errorf("%s = %v, %d and %v, %d", name, a, e, b, g)
		}
	}
}
