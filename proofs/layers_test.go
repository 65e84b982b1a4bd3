package proofs_test

import (
	"slices"
	"testing"

	"shackle/api"
	"shackle/levers"
	"shackle/links"
)

// then returns the chain as it was before a deed, with the sights that there were then.
func then(c api.Chain, deed int) api.Chain {
	past := api.Chain{Deeds: c.Deeds[:deed], Wrong: c.Wrong}
	for _, s := range c.Sights {
		if s.After <= deed {
			past.Sights = append(past.Sights, s)
		}
	}
	return past
}

// P0.12: the load of a trial is levers.Load, and a link that can have broken is one of links.Who.
func TestLinkThatBroke(t *testing.T) {
	broken, fewer := 0, 0
	files(func(p api.Proof, d *dice) {
		f := learn(t, p)
		if f.many == 0 {
			return
		}
		i := 0
		for deed, x := range p.Chain.Deeds {
			if x.What != api.Prove {
				continue
			}
			y := p.Trials[i]
			if s, e := levers.Load(p.Machine, y.Weight, y.Minutes); s != f.loads[i] || e != api.OK {
				t.Errorf("%+v: Loads of %d = %v, levers.Load = %v, %d", p, i, f.loads[i], s, e)
			}
			if y.Broke >= 0 {
				who, e := links.Who(then(p.Chain, deed), y.Broke)
				if e != api.OK || slices.ContainsFunc(f.broke[i], func(link int) bool { return !slices.Contains(who, link) }) {
					t.Errorf("%+v: Broke at %d = %v, links.Who = %v, %d", p, i, f.broke[i], who, e)
				}
				// What is known only later can leave fewer links.
				if len(p.Chain.Sights) == 0 && !slices.Equal(f.broke[i], who) {
					t.Errorf("%+v: Broke at %d = %v, links.Who = %v", p, i, f.broke[i], who)
				}
				broken++
				if len(f.broke[i]) < len(who) {
					fewer++
				}
			}
			i++
		}
	})
	if broken < 300 || fewer < 10 {
		t.Errorf("only %d links broke; %d times less was known then", broken, fewer)
	}
}

// P0.13: if the link that broke at the last deed is cut out, there are as many truths and failures, and no less worth.
func TestLinkThatIsCutOff(t *testing.T) {
	found, gained := 0, 0
	files(func(p api.Proof, d *dice) {
		last := len(p.Chain.Deeds) - 1
		if last < 0 || len(p.Chain.Deeds) == api.MaxDeeds || p.Chain.Deeds[last].What != api.Prove {
			return
		}
		broke := p.Trials[len(p.Trials)-1].Broke
		if broke < 0 {
			return
		}
		q := clone(p)
		q.Chain.Deeds = append(q.Chain.Deeds, cut(broke, 0))
		f, g := learn(t, p), learn(t, q)
		if f.many != g.many || f.failures != g.failures || g.worth < f.worth {
			t.Errorf("%+v: %+v became %+v", q, f, g)
		}
		if f.many > 0 {
			found++
		}
		if g.worth > f.worth {
			gained++
		}
	})
	if found < 100 || gained < 20 {
		t.Errorf("only %d links were cut out, %d cables were worth more", found, gained)
	}
}
