package proofs_test

import (
	"slices"
	"testing"

	"shackle/api"
	"shackle/proofs"
)

func inside(s, all api.Span) bool { return all.Low <= s.Low && s.High <= all.High }

// agrees reports whether what is said of something can be if it is so in a truth, or not.
func agrees(said int, is bool) bool {
	return said == api.Perhaps || is == (said == api.Surely)
}

// P6.13
func TestEachTruth(t *testing.T) {
	files(func(p api.Proof, d *dice) {
		f := learn(t, p)
		for _, u := range modelTruths(p) {
			for i, load := range u.loads {
				if !load.atLeast(f.loads[i].Low) || !load.atMost(f.loads[i].High) {
					t.Errorf("%+v: %v is pulled at %d, Loads = %v", p, load, i, f.loads[i])
				}
				if broke := u.broke[i]; broke >= 0 != (len(f.broke[i]) > 0) || broke >= 0 && !slices.Contains(f.broke[i], broke) {
					t.Errorf("%+v: %d broke at %d, Broke = %v", p, broke, i, f.broke[i])
				}
			}
			many := len(u.failed(p.Need))
			if !inside(span(many, many), f.failures) || !agrees(f.condemned, many >= p.Rule) || !agrees(f.good, u.good(p.Need, p.Rule)) {
				t.Errorf("%+v: %+v is a truth, %+v", p, u, f)
			}
			for link, said := range f.proved {
				if !agrees(said, u.proved(p.Need, link)) {
					t.Errorf("%+v: %+v is a truth, Proved of %d = %d", p, u, link, said)
				}
			}
			for at, link := range u.last {
				if !u.proved(p.Need, link) && !slices.Contains(f.open, at) {
					t.Errorf("%+v: %d at %d was not proved in %+v, Open = %v", p, link, at, u, f.open)
				}
			}
			for _, smith := range f.blamed {
				if !u.blamed(p, smith) {
					t.Errorf("%+v: %+v is a truth, Blamed = %v", p, u, f.blamed)
				}
			}
		}
	})
}

// stillSure reports whether what was sure of Condemned, Proved and Good is so.
func stillSure(was, is facts) bool {
	same := func(was, is int) bool { return was == api.Perhaps || was == is }
	for link := range was.proved {
		if !same(was.proved[link], is.proved[link]) {
			return false
		}
	}
	return same(was.condemned, is.condemned) && same(was.good, is.good)
}

// P6.14
func TestMoreKnown(t *testing.T) {
	fewer, surer := [2]int{}, 0
	files(func(p api.Proof, d *dice) {
		was := learn(t, p)
		for kind := range 2 {
			q := clone(p)
			if kind == 0 && len(q.Chain.Sights) < api.MaxMarks {
				if s, ok := d.sight(q.Chain); ok {
					q.Chain.Sights = append(q.Chain.Sights, s)
				}
			}
			if kind == 1 && len(q.Machine.Balances) < api.MaxBalances {
				q.Machine.Balances = append(q.Machine.Balances, d.balance(q.Machine))
			}
			is := learn(t, q)
			if is.many > was.many || is.many > 0 && (!inside(is.failures, was.failures) || !stillSure(was, is)) {
				t.Errorf("%+v: %+v became %+v", q, was, is)
			}
			if is.many > 0 && is.many < was.many {
				fewer[kind]++
			}
			if is.many > 0 && !stillSure(is, was) {
				surer++
			}
		}
	})
	if fewer[0] < 50 || fewer[1] < 50 || surer < 20 {
		t.Errorf("only so many left fewer truths: %v; %d times something became sure", fewer, surer)
	}
}

// replaced returns a proof whose chain has other bars, smiths, ends and sights.
func (d *dice) replaced(p api.Proof) api.Proof {
	p = clone(p)
	for i, x := range p.Chain.Deeds {
		switch x.What {
		case api.Weld:
			p.Chain.Deeds[i] = weld(x.At, d.upTo(3), d.upTo(api.MaxBar+1), d.upTo(api.MaxSmith+1))
		case api.Cut:
			p.Chain.Deeds[i].From = d.upTo(3)
		}
	}
	p.Chain.Sights = nil
	for range d.upTo(4) {
		if s, ok := d.sight(p.Chain); ok {
			p.Chain.Sights = append(p.Chain.Sights, s)
		}
	}
	p.Chain.Wrong = d.upTo(3)
	return p
}

// P6.15
func TestWhateverIsReplaced(t *testing.T) {
	others := 0
	files(func(p api.Proof, d *dice) {
		q := d.replaced(p)
		f, g := learn(t, p), learn(t, q)
		if f.many == 0 || g.many == 0 {
			return
		}
		if f.failures != g.failures || f.condemned != g.condemned {
			t.Errorf("%+v: %+v became %+v of %+v", p, f, g, q)
		}
		if !slices.Equal(f.proved, g.proved) || !slices.Equal(f.blamed, g.blamed) {
			others++
		}
	})
	if others < 50 {
		t.Errorf("only %d cables became others", others)
	}
}

// P6.16
func TestGreaterLoad(t *testing.T) {
	worths := 0
	files(func(p api.Proof, d *dice) {
		f := learn(t, p)
		if f.many == 0 {
			return
		}
		needs := []int{p.Need + 1, p.Need + d.upTo(p.Need+2), api.MaxLoad}
		for _, need := range needs {
			q := clone(p)
			q.Need = min(need, api.MaxLoad)
			g := learn(t, q)
			if g.failures.Low < f.failures.Low || g.failures.High < f.failures.High || g.good == api.Surely && f.good != api.Surely || g.worth != f.worth {
				t.Errorf("%+v: %+v; with the need %d: %+v", p, f, q.Need, g)
			}
			for link := range g.proved {
				if g.proved[link] == api.Surely && f.proved[link] != api.Surely {
					t.Errorf("%+v: Proved = %v; with the need %d: %v", p, f.proved, q.Need, g.proved)
				}
			}
		}
		good := func(need int) bool {
			q := clone(p)
			q.Need = need
			n, e := proofs.Good(q)
			if e != api.OK {
				t.Fatalf("%+v: Good = %d", q, e)
			}
			return n == api.Surely
		}
		if f.worth >= 0 && !good(f.worth) || f.worth < 0 && good(0) {
			t.Errorf("%+v: Worth = %d", p, f.worth)
		}
		if f.worth == api.MaxLoad {
			return
		}
		for _, need := range []int{f.worth + 1, f.worth + 1 + d.upTo(1000), api.MaxLoad} {
			if good(min(need, api.MaxLoad)) {
				t.Errorf("%+v: Worth = %d, but it is good for %d", p, f.worth, need)
			}
		}
		if f.worth >= 0 {
			worths++
		}
	})
	if worths < 100 {
		t.Errorf("only %d cables are worth anything", worths)
	}
}

// P6.17
func TestOneMoreTrial(t *testing.T) {
	found, sure := 0, 0
	files(func(p api.Proof, d *dice) {
		f := learn(t, p)
		if f.many == 0 || f.weight < 0 || len(p.Chain.Deeds) == api.MaxDeeds {
			return
		}
		found++
		q := clone(p)
		q.Chain.Deeds = append(q.Chain.Deeds, prove())
		q.Trials = append(q.Trials, trial(f.weight, 0, -1))
		g := learn(t, q)
		if len(g.open) > 0 || (g.good == api.Surely) != (g.condemned == api.Never) || g.failures != f.failures {
			t.Errorf("%+v: %+v became %+v", q, f, g)
		}
		if g.good == api.Surely && f.good != api.Surely {
			sure++
		}
		// With less weight, it is not sure of links that no other trial proved.
		if len(p.Trials) == 0 && f.weight > 0 {
			q.Trials[0].Weight--
			if g := learn(t, q); !slices.Equal(g.open, f.open) {
				t.Errorf("%+v: %+v became %+v", q, f, g)
			}
		}
	})
	if found < 200 || sure < 50 {
		t.Errorf("only %d trials, %d of which made a cable good", found, sure)
	}
}

// P6.18
func TestStricterRule(t *testing.T) {
	changed := 0
	files(func(p api.Proof, d *dice) {
		broke := 0
		for _, x := range p.Trials {
			if x.Broke >= 0 {
				broke++
			}
		}
		p.Rule = 1
		f := learn(t, p)
		if f.many == 0 {
			return
		}
		for _, rule := range []int{2, 3, 4, api.MaxDeeds} {
			q := clone(p)
			q.Rule = rule
			g := learn(t, q)
			if f.condemned == api.Never && g.condemned != api.Never || f.good == api.Surely && g.good != api.Surely || rule > broke && g.condemned != api.Never {
				t.Errorf("%+v: %+v; with the rule %d: %+v", p, f, rule, g)
			}
			if g.condemned != f.condemned {
				changed++
			}
			f = g
		}
	})
	if changed < 100 {
		t.Errorf("only %d rules changed anything", changed)
	}
}

// P6.18: without any link that broke, no rule condemns.
func TestNoneBroke(t *testing.T) {
	for rule := range api.MaxDeeds {
		if n, e := proofs.Condemned(plain(9999, rule+1, trial(0, 0, -1), trial(5, 0, -1))); n != api.Never || e != api.OK {
			t.Errorf("%d: Condemned = %d, %d", rule+1, n, e)
		}
	}
}
