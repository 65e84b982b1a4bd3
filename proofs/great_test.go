package proofs_test

import (
	"slices"
	"strconv"
	"testing"

	"shackle/api"
	"shackle/proofs"
)

// greatest returns a proof with a machine that has the most settings, 21000000000, and balances that are right in many
// of them. Its chain has so many trials, and before them links whose ends are all unknown.
func greatest(trials int) api.Proof {
	m := api.Machine{Levers: slices.Repeat([]api.Lever{lever(1000, 1, 1000)}, 3), Water: 9999, Leak: span(0, 20), Wrong: 3}
	for i := range api.MaxBalances {
		m.Balances = append(m.Balances, balance(9999-i, 19*i, 100000, 99999-10000*i))
	}
	p := api.Proof{Machine: m, Need: 10000, Rule: 2}
	welds := api.MaxDeeds - trials
	for i := range welds {
		p.Chain.Deeds = append(p.Chain.Deeds, weld(i/2, 2, i, i))
	}
	for i := range trials {
		p.Chain.Deeds = append(p.Chain.Deeds, prove())
		p.Trials = append(p.Trials, trial(9999-700*i, 8*i, i%(welds+1)-1))
	}
	return p
}

// The time that each function takes for the greatest proofs: `go test -run xxx -bench . ./proofs`.
func BenchmarkGreatest(b *testing.B) {
	for _, trials := range []int{0, 1, 2, 4, 6, 11} {
		p := greatest(trials)
		for _, x := range []struct {
			name string
			f    func() api.Errno
		}{
			{"Many", func() api.Errno { _, e := proofs.Many(p); return e }},
			{"Failures", func() api.Errno { _, e := proofs.Failures(p); return e }},
			{"Blamed", func() api.Errno { _, e := proofs.Blamed(p); return e }},
			{"Open", func() api.Errno { _, e := proofs.Open(p); return e }},
			{"Good", func() api.Errno { _, e := proofs.Good(p); return e }},
			{"Worth", func() api.Errno { _, e := proofs.Worth(p); return e }},
		} {
			b.Run(x.name+strconv.Itoa(trials), func(b *testing.B) {
				for b.Loop() {
					if e := x.f(); e != api.OK && e != api.ErrNone {
						b.Fatalf("%d", e)
					}
				}
			})
		}
	}
}
