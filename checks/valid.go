package checks

import "shackle/api"

func within(n, low, high int) bool {
	return low <= n && n <= high
}

func valid(y api.Yard) bool {
	if len(y.Machines) > api.MaxMachines || len(y.Compares) > api.MaxCompares {
		return false
	}
	for _, s := range y.Machines {
		if !validSpan(s, api.MaxError) {
			return false
		}
	}
	for _, c := range y.Compares {
		if !isMachine(y, c.A) || !isMachine(y, c.B) || c.A == c.B || !validSpan(spanOf(c), 2*api.MaxError) {
			return false
		}
	}
	return within(y.Wrong, 0, api.MaxCompares)
}

// validSpan reports whether a span has numbers, none of which is farther from 0 than allowed.
func validSpan(s api.Span, far int) bool {
	return -far <= s.Low && s.Low <= s.High && s.High <= far
}

func isMachine(y api.Yard, machine int) bool {
	return within(machine, 0, len(y.Machines)-1)
}

// spanOf returns by how much, as a comparison says, the error of its machine A is greater than that of B.
func spanOf(c api.CheckCompare) api.Span {
	return api.Span{Low: c.Low, High: c.High}
}
