package stretch

import "shackle/api"

func within(n, low, high int) bool {
	return low <= n && n <= high
}

func validSpan(s api.Span, low, high int) bool {
	return low <= s.Low && s.Low <= s.High && s.High <= high
}

// allAre reports whether there are at most so many elements, and each of them is as it must be.
func allAre[T any](list []T, most int, is func(T) bool) bool {
	if len(list) > most {
		return false
	}
	for _, x := range list {
		if !is(x) {
			return false
		}
	}
	return true
}

func valid(p api.Pull) bool {
	if !within(p.Iron, 0, api.MaxGrow) || !validSpan(p.Guess, 1, api.MaxLength) || !within(p.Wrong, 0, api.MaxReadings) {
		return false
	}
	return allAre(p.Rods, api.MaxRods, validRod) &&
		allAre(p.Readings, api.MaxReadings, func(r api.Reading) bool { return isRod(p, r.Rod) && validReading(r) })
}

func validRod(r api.Rod) bool {
	return within(r.Long, 1, api.MaxRod) && within(r.Wear, 0, min(api.MaxWear, r.Long-1)) && within(r.Grow, 0, api.MaxGrow)
}

// validReading reports whether a reading is valid, whichever its rod is.
func validReading(r api.Reading) bool {
	return isWhen(r.When) && within(r.Count, 0, api.MaxCount) && within(r.Rest, 0, api.MaxRod) && within(r.Off, 0, api.MaxOff) && validSpan(r.Warm, -api.MaxWarm, api.MaxWarm)
}

func isRod(p api.Pull, rod int) bool {
	return within(rod, 0, len(p.Rods)-1)
}

func isWhen(when int) bool {
	return when == api.Before || when == api.After
}
