package levers_test

import (
	"slices"
	"testing"

	"shackle/api"
	"shackle/levers"
)

// worn returns a machine whose levers have the long arm 1, with 21 leaks, and 3 balances of which one can be wrong.
func worn(shorts [3]api.Span) api.Machine {
	m := api.Machine{Water: 9999, Leak: span(0, 20), Wrong: 1}
	for _, s := range shorts {
		m.Levers = append(m.Levers, api.Lever{Long: 1, Short: s})
	}
	m.Balances = []api.Balance{balance(9999, 0, 7, 1), balance(5000, 60, 4, 2), balance(0, 99, 3, 3)}
	return m
}

// wornTruth reports whether a product of short arms, and a leak, are those of a truth of worn.
func wornTruth(product, leak int) bool {
	right := 0
	if pull := 9999 + 9999; 6*product <= pull && pull <= 8*product {
		right++
	}
	if pull := 5000 + 9999 - 60*leak; 2*product <= pull && pull <= 6*product {
		right++
	}
	if pull := 9999 - 99*leak; pull <= 6*product {
		right++
	}
	return right >= 2
}

// wornFacts is what is so in the truths of worn.
type wornFacts struct {
	many   int
	shorts [3][1001]bool
	leaks  [21]bool
	load   api.Span // of the weight 500, after 30 minutes
}

func learnWorn(shorts [3]api.Span) *wornFacts {
	f := &wornFacts{load: span(1000000000, 0)}
	for leak := range 21 {
		for x := shorts[0].Low; x <= shorts[0].High; x++ {
			for y := shorts[1].Low; y <= shorts[1].High; y++ {
				for z := shorts[2].Low; z <= shorts[2].High; z++ {
					product := x * y * z
					if !wornTruth(product, leak) {
						continue
					}
					f.many++
					f.shorts[0][x], f.shorts[1][y], f.shorts[2][z], f.leaks[leak] = true, true, true, true
					load := fraction{500 + 9999 - 30*leak, product}
					f.load = span(min(f.load.Low, load.low()), max(f.load.High, load.high()))
				}
			}
		}
	}
	return f
}

// places returns all places of a list that are true, ascending.
func places(l []bool) []int {
	var all []int
	for n, is := range l {
		if is {
			all = append(all, n)
		}
	}
	return all
}

// P1, P3.3 to P3.5, P3.7: levers whose short arms can have any length, and many settings.
func TestWornLevers(t *testing.T) {
	all, one := span(1, 1000), span(1, 1)
	for _, shorts := range [][3]api.Span{{all, all, one}, {all, one, all}, {one, all, all}, {span(11, 17), span(2, 40), span(3, 30)}} {
		m, f := worn(shorts), learnWorn(shorts)
		if n, e := levers.Many(m); n != f.many || e != api.OK {
			t.Errorf("%v: Many = %d, %d, not %d", shorts, n, e, f.many)
		}
		for i := range m.Levers {
			if l, e := levers.Shorts(m, i); !slices.Equal(l, places(f.shorts[i][:])) || e != api.OK {
				t.Errorf("%v: Shorts(%d) = %v, %d", shorts, i, l, e)
			}
		}
		if l, e := levers.Leaks(m); !slices.Equal(l, places(f.leaks[:])) || e != api.OK {
			t.Errorf("%v: Leaks = %v, %d", shorts, l, e)
		}
		if s, e := levers.Load(m, 500, 30); s != f.load || e != api.OK {
			t.Errorf("%v: Load = %v, %d, not %v", shorts, s, e, f.load)
		}
	}
}

// greatest returns the machine with the most settings, 21000000000, and balances that are right in many of them.
func greatest() api.Machine {
	m := api.Machine{Levers: slices.Repeat([]api.Lever{lever(1000, 1, 1000)}, 3), Water: 9999, Leak: span(0, 20), Wrong: 3}
	for i := range api.MaxBalances {
		m.Balances = append(m.Balances, balance(9999-i, 19*i, 100000, 99999-10000*i))
	}
	return m
}

// The time that each function takes for the greatest machine: `go test -bench . ./levers`.
func BenchmarkGreatest(b *testing.B) {
	m := greatest()
	for _, x := range []struct {
		name string
		f    func() api.Errno
	}{
		{"Fewest", func() api.Errno { _, e := levers.Fewest(m); return e }},
		{"Many", func() api.Errno { _, e := levers.Many(m); return e }},
		{"Shorts", func() api.Errno { _, e := levers.Shorts(m, 2); return e }},
		{"Leaks", func() api.Errno { _, e := levers.Leaks(m); return e }},
		{"Strange", func() api.Errno { _, e := levers.Strange(m); return e }},
		{"Load", func() api.Errno { _, e := levers.Load(m, 9999, 99); return e }},
		{"Pulled", func() api.Errno { _, e := levers.Pulled(m, 9999, 99, 10001); return e }},
		{"Weight", func() api.Errno { _, e := levers.Weight(m, 99, 9998); return e }},
		{"Until", func() api.Errno { _, e := levers.Until(m, 9999, 10001); return e }},
	} {
		b.Run(x.name, func(b *testing.B) {
			for b.Loop() {
				if e := x.f(); e != api.OK {
					b.Fatalf("%d", e)
				}
			}
		})
	}
}
