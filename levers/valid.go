package levers

import "shackle/api"

func within(n, low, high int) bool {
	return low <= n && n <= high
}

func valid(m api.Machine) bool {
	if len(m.Levers) > api.MaxLevers || len(m.Balances) > api.MaxBalances {
		return false
	}
	for _, l := range m.Levers {
		if !within(l.Long, 1, api.MaxArm) || !validSpan(l.Short, 1, api.MaxArm) {
			return false
		}
	}
	for _, b := range m.Balances {
		if !validBalance(b) {
			return false
		}
	}
	return within(m.Water, 0, api.MaxWater) && validSpan(m.Leak, 0, api.MaxLeak) && within(m.Wrong, 0, api.MaxBalances)
}

func validSpan(s api.Span, low, high int) bool {
	return low <= s.Low && s.Low <= s.High && s.High <= high
}

func validBalance(b api.Balance) bool {
	return within(b.Weight, 0, api.MaxWeight) && within(b.Minutes, 0, api.MaxMinutes) && within(b.Load, 0, api.MaxLoad) && within(b.Off, 0, api.MaxLoad)
}
