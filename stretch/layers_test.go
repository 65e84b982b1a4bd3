package stretch_test

import (
	"testing"

	"shackle/api"
	"shackle/levers"
	"shackle/stretch"
)

// P0.11: the short arm of a machine was measured with rods.
func TestMeasuredArm(t *testing.T) {
	found := 0
	pulls(func(p api.Pull, d *dice) {
		for _, when := range []int{api.Before, api.After} {
			l, e := stretch.Lengths(p, when)
			if e != api.OK || l[len(l)-1] > api.MaxArm {
				continue
			}
			found++
			m := api.Machine{Water: d.upTo(500), Leak: span(0, d.upTo(4))}
			long, weight, minutes := 1+d.upTo(api.MaxArm), d.upTo(api.MaxWeight+1), d.upTo(api.MaxMinutes+1)
			load := func(short api.Span) api.Span {
				m.Levers = []api.Lever{{Long: long, Short: short}}
				s, e := levers.Load(m, weight, minutes)
				if e != api.OK {
					t.Fatalf("%+v: Load = %d", m, e)
				}
				return s
			}
			least, greatest := l[0], l[len(l)-1]
			all, low, high := load(span(least, greatest)), load(span(greatest, greatest)), load(span(least, least))
			if all != span(low.Low, high.High) {
				t.Errorf("%+v: Load = %v, with the greatest arm %v, with the least one %v", m, all, low, high)
			}
			for _, short := range l {
				if s := load(span(short, short)); s.Low < all.Low || s.High > all.High {
					t.Errorf("%+v: Load = %v, not within %v", m, s, all)
				}
			}
		}
	})
	if found < 100 {
		t.Errorf("only %d arms", found)
	}
}
