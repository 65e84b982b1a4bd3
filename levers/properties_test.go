package levers_test

import (
	"slices"
	"testing"

	"shackle/api"
	"shackle/levers"
)

// facts is what the functions say of a machine that has a truth.
type facts struct {
	fewest, many   int
	shorts         [][]int
	leaks, strange []int
	loads          []api.Span // of pulls
}

type pull struct{ weight, minutes int }

func pulls() []pull { return []pull{{0, 0}, {0, 3}, {1, 0}, {30, 7}, {30, 99}, {9999, 50}} }

// learn returns the facts of a machine, and whether there is a truth; without one, only Fewest is known.
func learn(t *testing.T, m api.Machine) (facts, bool) {
	t.Helper()
	var f facts
	must := func(e api.Errno) {
		t.Helper()
		if e != api.OK {
			t.Fatalf("%+v: %d", m, e)
		}
	}
	var e api.Errno
	f.fewest, e = levers.Fewest(m)
	must(e)
	f.many, e = levers.Many(m)
	if e == api.ErrNone {
		return facts{fewest: f.fewest}, false
	}
	must(e)
	for i := range m.Levers {
		l, e := levers.Shorts(m, i)
		must(e)
		f.shorts = append(f.shorts, l)
	}
	f.leaks, e = levers.Leaks(m)
	must(e)
	f.strange, e = levers.Strange(m)
	must(e)
	for _, p := range pulls() {
		s, e := levers.Load(m, p.weight, p.minutes)
		must(e)
		f.loads = append(f.loads, s)
	}
	return f, true
}

func (f facts) equal(g facts) bool {
	return f.fewest == g.fewest && f.many == g.many && slices.EqualFunc(f.shorts, g.shorts, slices.Equal) && slices.Equal(f.leaks, g.leaks) && slices.Equal(f.strange, g.strange) && slices.Equal(f.loads, g.loads)
}

func holds(l, all []int) bool {
	return !slices.ContainsFunc(l, func(n int) bool { return !slices.Contains(all, n) })
}

// nothingNew reports whether all that can be so of g can be so of f.
func nothingNew(f, g facts) bool {
	for i, l := range g.shorts {
		if !holds(l, f.shorts[i]) {
			return false
		}
	}
	for i, s := range g.loads {
		if s.Low < f.loads[i].Low || s.High > f.loads[i].High {
			return false
		}
	}
	return g.many <= f.many && holds(g.leaks, f.leaks) && holds(f.strange, g.strange)
}

// P3.11
func TestEachTruth(t *testing.T) {
	machines(func(m api.Machine, d *dice) {
		truths := modelTruths(m)
		f, ok := learn(t, m)
		if ok != (len(truths) > 0) || f.many != len(truths) {
			t.Fatalf("%+v: %t, %d", m, ok, f.many)
		}
		for _, s := range truths {
			for i, n := range s.shorts {
				if !slices.Contains(f.shorts[i], n) {
					t.Errorf("%+v: %d can be short %d: %v", m, i, n, f.shorts[i])
				}
			}
			if !slices.Contains(f.leaks, s.leak) || s.wrongs() < f.fewest {
				t.Errorf("%+v: %+v is a truth: %+v", m, s, f)
			}
			for _, n := range f.strange {
				if s.right[n] {
					t.Errorf("%+v: Strange has %d, which is right in %+v", m, n, s)
				}
			}
			for i, p := range pulls() {
				if load := modelLoad(m, s, p.weight, p.minutes); !load.atLeast(f.loads[i].Low) || !load.atMost(f.loads[i].High) {
					t.Errorf("%+v: %+v pulls %+v, Load = %v", m, p, load, f.loads[i])
				}
			}
		}
		if ok {
			eachPulled(t, m, truths, f)
		}
	})
}

// eachPulled holds what Pulled says for sure against each truth.
func eachPulled(t *testing.T, m api.Machine, truths []modelSetting, f facts) {
	t.Helper()
	for i, p := range pulls() {
		for _, load := range []int{0, f.loads[i].Low, f.loads[i].Low + 1, f.loads[i].High, f.loads[i].High + 1} {
			load = min(load, api.MaxLoad)
			n, e := levers.Pulled(m, p.weight, p.minutes, load)
			if e != api.OK {
				t.Fatalf("%+v: Pulled = %d", m, e)
			}
			for _, s := range truths {
				is := modelLoad(m, s, p.weight, p.minutes).atLeast(load)
				if n == api.Surely && !is || n == api.Never && is {
					t.Errorf("%+v: Pulled of %+v, %d = %d, but not in %+v", m, p, load, n, s)
				}
			}
		}
	}
}

// P3.12: one more balance.
func TestOneMoreBalance(t *testing.T) {
	fewer, less := 0, 0
	machines(func(m api.Machine, d *dice) {
		if len(m.Balances) == api.MaxBalances {
			return
		}
		more := clone(m)
		more.Balances = append(more.Balances, d.balance(m))
		before, was := learn(t, m)
		after, is := learn(t, more)
		if was != (before.fewest <= m.Wrong) || is != (after.fewest <= m.Wrong) || is && !was {
			t.Errorf("%+v: %t, %d; %+v: %t, %d", m, was, before.fewest, more, is, after.fewest)
		}
		if after.fewest < before.fewest || after.fewest > before.fewest+1 {
			t.Errorf("%+v: Fewest was %d, is %d", more, before.fewest, after.fewest)
		}
		if !is {
			return
		}
		// The new balance can be strange itself.
		after.strange = slices.DeleteFunc(after.strange, func(n int) bool { return n == len(m.Balances) })
		if !nothingNew(before, after) {
			t.Errorf("%+v: %+v became %+v", more, before, after)
		}
		if after.many < before.many {
			fewer++
		}
		if !slices.Equal(after.loads, before.loads) {
			less++
		}
	})
	if fewer < 50 || less < 30 {
		t.Errorf("only %d balances left fewer truths, %d less loads", fewer, less)
	}
}

// P3.12: there is a truth just if Fewest is at most Wrong.
func TestFewestOrWrong(t *testing.T) {
	machines(func(m api.Machine, d *dice) {
		fewest, e := levers.Fewest(m)
		for m.Wrong = range api.MaxBalances + 1 {
			n, f := levers.Many(m)
			if e != api.OK || (n > 0) != (fewest <= m.Wrong) || (f == api.OK) != (n > 0) {
				t.Errorf("%+v: Fewest = %d, %d; Many = %d, %d", m, fewest, e, n, f)
			}
		}
	})
}

// wider returns machines of which one thing is wider.
func wider(m api.Machine) []api.Machine {
	var l []api.Machine
	add := func(change func(w *api.Machine)) {
		w := clone(m)
		change(&w)
		l = append(l, w)
	}
	for i, x := range m.Levers {
		if x.Short.Low > 1 {
			add(func(w *api.Machine) { w.Levers[i].Short.Low-- })
		}
		if x.Short.High < api.MaxArm {
			add(func(w *api.Machine) { w.Levers[i].Short.High++ })
		}
	}
	if m.Leak.Low > 0 {
		add(func(w *api.Machine) { w.Leak.Low-- })
	}
	if m.Leak.High < api.MaxLeak {
		add(func(w *api.Machine) { w.Leak.High++ })
	}
	for i, b := range m.Balances {
		for _, off := range []int{b.Off + 1, 2*b.Off + 10, api.MaxLoad} {
			add(func(w *api.Machine) { w.Balances[i].Off = min(off, api.MaxLoad) })
		}
	}
	if m.Wrong < api.MaxBalances {
		add(func(w *api.Machine) { w.Wrong++ })
	}
	return l
}

// pinned returns a machine that has just one setting.
func pinned(m api.Machine, s modelSetting) api.Machine {
	m = clone(m)
	for i, n := range s.shorts {
		m.Levers[i].Short = span(n, n)
	}
	m.Leak = span(s.leak, s.leak)
	return m
}

// P3.12: what is wider loses no truth.
func TestWider(t *testing.T) {
	gained := 0
	machines(func(m api.Machine, d *dice) {
		truths := modelTruths(m)
		f, ok := learn(t, m)
		for _, w := range wider(m) {
			g, is := learn(t, w)
			if g.fewest > f.fewest {
				t.Errorf("%+v: Fewest was %d, is %d", w, f.fewest, g.fewest)
			}
			if ok && (!is || !nothingNew(g, f)) {
				t.Errorf("%+v: %+v became %+v", w, f, g)
			}
			if g.many > f.many {
				gained++
			}
			if len(truths) == 0 {
				continue
			}
			if n, e := levers.Many(pinned(w, truths[d.upTo(len(truths))])); n != 1 || e != api.OK {
				t.Errorf("%+v: Many of what was a truth = %d, %d", w, n, e)
			}
		}
	})
	if gained < 100 {
		t.Errorf("only %d times truths were gained", gained)
	}
}

// P3.13
func TestMoreWeight(t *testing.T) {
	machines(func(m api.Machine, d *dice) {
		if len(modelTruths(m)) == 0 {
			return
		}
		weight, minutes := d.upTo(500), d.upTo(api.MaxMinutes)
		load := func(weight, minutes int) api.Span {
			s, e := levers.Load(m, weight, minutes)
			if e != api.OK || s.Low > s.High {
				t.Fatalf("%+v: Load(%d, %d) = %v, %d", m, weight, minutes, s, e)
			}
			return s
		}
		s := load(weight, minutes)
		for _, more := range []api.Span{load(weight+1, minutes), load(weight+d.upTo(9000), minutes), load(weight, d.upTo(minutes+1)), load(weight, 0)} {
			if more.Low < s.Low || more.High < s.High {
				t.Errorf("%+v: Load of %d, %d is %v, of more %v", m, weight, minutes, s, more)
			}
		}
		if m.Water > 0 {
			return
		}
		k := d.upTo(20)
		if times := load(k*weight, minutes); times.Low < k*s.Low || times.High > k*s.High {
			t.Errorf("%+v: Load of %d, %d is %v, of %d times the weight %v", m, weight, minutes, s, k, times)
		}
	})
}

// P3.14: enough weight.
func TestEnoughWeight(t *testing.T) {
	found := 0
	machines(func(m api.Machine, d *dice) {
		if len(modelTruths(m)) == 0 {
			return
		}
		for _, p := range pulls() {
			bounds, _ := levers.Load(m, p.weight, p.minutes)
			load := min(bounds.Low+d.upTo(bounds.High-bounds.Low+1), api.MaxLoad)
			surely := func(weight int) bool {
				n, e := levers.Pulled(m, weight, p.minutes, load)
				if e != api.OK {
					t.Fatalf("%+v: Pulled = %d", m, e)
				}
				return n == api.Surely
			}
			n, e := levers.Weight(m, p.minutes, load)
			if e == api.ErrNone && n == 0 {
				if surely(api.MaxWeight) {
					t.Errorf("%+v: Weight(%d, %d) = %d", m, p.minutes, load, e)
				}
				continue
			}
			if e != api.OK || !surely(n) || !surely(n+d.upTo(api.MaxWeight-n+1)) || !surely(api.MaxWeight) || n > 0 && surely(n-1) {
				t.Errorf("%+v: Weight(%d, %d) = %d, %d", m, p.minutes, load, n, e)
			}
			if n > 0 {
				found++
			}
		}
	})
	if found < 100 {
		t.Errorf("only %d weights", found)
	}
}

// P3.14: enough minutes.
func TestEnoughMinutes(t *testing.T) {
	found := 0
	machines(func(m api.Machine, d *dice) {
		if len(modelTruths(m)) == 0 {
			return
		}
		for _, p := range pulls() {
			bounds, _ := levers.Load(m, p.weight, p.minutes)
			load := min(bounds.Low, api.MaxLoad)
			surely := func(minutes int) bool {
				n, e := levers.Pulled(m, p.weight, minutes, load)
				if e != api.OK {
					t.Fatalf("%+v: Pulled = %d", m, e)
				}
				return n == api.Surely
			}
			n, e := levers.Until(m, p.weight, load)
			if e != api.OK || n < p.minutes || !surely(n) || !surely(d.upTo(n+1)) || n < api.MaxMinutes && surely(n+1) {
				t.Errorf("%+v: Until(%d, %d) = %d, %d", m, p.weight, load, n, e)
			}
			if n < api.MaxMinutes {
				found++
			}
			if load = bounds.High + 1; p.minutes == 0 && load <= api.MaxLoad {
				if n, e := levers.Until(m, p.weight, load); n != 0 || e != api.ErrNone {
					t.Errorf("%+v: Until(%d, %d) = %d, %d", m, p.weight, load, n, e)
				}
			}
		}
	})
	if found < 100 {
		t.Errorf("only %d times", found)
	}
}

// P3.15: a fair lever.
func TestFairLever(t *testing.T) {
	machines(func(m api.Machine, d *dice) {
		if len(m.Levers) == api.MaxLevers {
			return
		}
		f, ok := learn(t, m)
		for _, n := range []int{1, 2 + d.upTo(900), 1000} {
			for at := range len(m.Levers) + 1 {
				fair := clone(m)
				fair.Levers = slices.Insert(fair.Levers, at, lever(n, n, n))
				g, is := learn(t, fair)
				if is {
					if !slices.Equal(g.shorts[at], []int{n}) {
						t.Errorf("%+v: Shorts = %v", fair, g.shorts[at])
					}
					g.shorts = slices.Delete(g.shorts, at, at+1)
				}
				if ok != is || !f.equal(g) {
					t.Errorf("%+v: %t, %+v became %t, %+v", fair, ok, f, is, g)
				}
			}
		}
	})
}

// P3.15: the order of the levers.
func TestAnyOrder(t *testing.T) {
	machines(func(m api.Machine, d *dice) {
		f, ok := learn(t, m)
		for i := range m.Levers {
			for j := range i {
				u := clone(m)
				u.Levers[i], u.Levers[j] = u.Levers[j], u.Levers[i]
				g, is := learn(t, u)
				if is {
					g.shorts[i], g.shorts[j] = g.shorts[j], g.shorts[i]
				}
				if ok != is || !f.equal(g) {
					t.Errorf("%+v: %t, %+v became %t, %+v", u, ok, f, is, g)
				}
			}
		}
	})
}

// P3.16
func TestNoLevers(t *testing.T) {
	for _, water := range []int{0, 1, 77, 9999} {
		m := api.Machine{Water: water}
		for _, weight := range []int{0, 1, 500, 9999} {
			for _, minutes := range []int{0, 1, 99} {
				if s, e := levers.Load(m, weight, minutes); s != span(weight+water, weight+water) || e != api.OK {
					t.Errorf("%+v: Load(%d, %d) = %v, %d", m, weight, minutes, s, e)
				}
			}
		}
	}
}
