package proofs_test

import (
	"slices"
	"testing"

	"shackle/api"
)

// worn returns a proof by a machine whose long arms are 1000 and 1, with many leaks, and 3 balances of which one can
// be wrong. Two links broke at three trials, and at a fourth one none.
func worn(shorts []api.Span, rule int) api.Proof {
	p := plain(4003, rule, trial(9999, 0, 0), trial(7000, 40, 1), trial(8500, 20, 0), trial(9000, 3, -1))
	p.Machine = api.Machine{Water: 9999, Leak: span(3, 20), Wrong: 1}
	for _, s := range shorts {
		p.Machine.Levers = append(p.Machine.Levers, api.Lever{Long: 1, Short: s})
	}
	p.Machine.Levers[0].Long = 1000
	p.Machine.Balances = []api.Balance{balance(9999, 0, 7013, 1007), balance(5000, 60, 4011, 1999), balance(0, 99, 3001, 3001)}
	return p
}

// wornPulls returns the pulls of the balances, and of the trials, of worn.
func wornPulls(leak int) (balances [3]int, trials [4]int) {
	return [3]int{9999 + 9999, 5000 + 9999 - 60*leak, 9999 - 99*leak}, [4]int{9999 + 9999, 7000 + 9999 - 40*leak, 8500 + 9999 - 20*leak, 9000 + 9999 - 3*leak}
}

// waysOf returns how many short arms have each product.
func waysOf(shorts []api.Span) []int {
	ways := []int{0, 1}
	for _, s := range shorts {
		longer := make([]int, (len(ways)-1)*s.High+1)
		for product, n := range ways {
			for arm := s.Low; arm <= s.High; arm++ {
				longer[product*arm] += n
			}
		}
		ways = longer
	}
	return ways
}

// learnWorn returns what the functions should say of worn, but not what is of single links. It tries each leak with
// each product of short arms.
func learnWorn(shorts []api.Span, rule int) facts {
	f := facts{failures: span(9, 0), worth: api.MaxLoad, loads: slices.Repeat([]api.Span{span(api.MaxLoad, 0)}, 4)}
	is := map[bool]bool{}
	for leak := 3; leak <= 20; leak++ {
		balances, pulls := wornPulls(leak)
		for product, ways := range waysOf(shorts) {
			right := 0
			for i, within := range [3]api.Span{span(6006, 8020), span(2012, 6010), span(0, 6002)} {
				if within.Low*product <= 1000*balances[i] && 1000*balances[i] <= within.High*product {
					right++
				}
			}
			if ways == 0 || right < 2 {
				continue
			}
			f.many += ways
			var loads [4]fraction
			for i, pull := range pulls {
				loads[i] = fraction{1000 * pull, product}
				f.loads[i] = span(min(f.loads[i].Low, loads[i].low()), max(f.loads[i].High, loads[i].high()))
			}
			many := 0
			for _, load := range loads[:3] {
				if load.atMost(4003) {
					many++
				}
			}
			f.failures = span(min(f.failures.Low, many), max(f.failures.High, many))
			// The fourth trial proves both links, the second one the link 0, and the others the link 1.
			proved := loads[3].atLeast(4003) || loads[1].atLeast(4003) && (loads[0].atLeast(4003) || loads[2].atLeast(4003))
			is[many < rule && proved] = true
			f.worth = min(f.worth, wornWorth(loads, rule))
		}
	}
	f.good = map[[2]bool]int{{true, true}: api.Perhaps, {true, false}: api.Surely, {false, true}: api.Never}[[2]bool{is[true], is[false]}]
	return f
}

// wornWorth returns the greatest need with which the cable is good.
func wornWorth(loads [4]fraction, rule int) int {
	none := []int{loads[0].high() - 1, loads[1].high() - 1, loads[2].high() - 1, api.MaxLoad} // with these, a trial is no failure
	slices.Sort(none)
	return min(none[min(rule, 4)-1], max(loads[3].low(), min(loads[1].low(), max(loads[0].low(), loads[2].low()))))
}

// P1, P6.2, P6.3, P6.5, P6.10, P6.11: short arms that can have any length, and many settings.
func TestWornLevers(t *testing.T) {
	all, one := span(1, 1000), span(1, 1)
	for i, shorts := range [][]api.Span{{all, all, one}, {all, one, all}, {one, all, all}, {span(1, 90), span(1, 100), span(1, 110)}, {span(11, 17), span(2, 40), span(3, 30)}, {span(999, 1000), span(4, 5)}} {
		rule := 1 + i%3
		f, want := learn(t, worn(shorts, rule)), learnWorn(shorts, rule)
		if f.many != want.many || !slices.Equal(f.loads, want.loads) || f.failures != want.failures || f.good != want.good || f.worth != want.worth {
			t.Errorf("%v, %d: %+v, not %+v", shorts, rule, f, want)
		}
	}
}
