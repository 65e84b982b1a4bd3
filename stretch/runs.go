package stretch

import (
	"cmp"
	"math/bits"
	"slices"

	"shackle/api"
)

// marks is a set of readings: the bit of a reading's number is 1 if it is in the set.
type marks uint

func (m marks) has(reading int) bool {
	return m>>reading&1 == 1
}

func (m marks) with(reading int) marks {
	return m | 1<<reading
}

func (m marks) count() int {
	return bits.OnesCount(uint(m))
}

// run is lengths with which the same readings are wrong, of those that were looked at.
type run struct {
	api.Span
	wrong marks
}

// addRun adds a run behind others, unless it has no lengths or too many readings are wrong.
func (b *bench) addRun(runs []run, low, high int, wrong marks) []run {
	if low > high || wrong.count() > b.Wrong {
		return runs
	}
	return append(runs, run{api.Span{Low: low, High: high}, wrong})
}

// look looks at one more reading, which is right with some lengths. The new runs come into the memory of room.
func (b *bench) look(room, runs []run, reading int, right []api.Span) []run {
	room = room[:0]
	for _, r := range runs {
		for len(right) > 0 && right[0].High < r.Low {
			right = right[1:]
		}
		low := r.Low
		for _, s := range right {
			if s.Low > r.High {
				break
			}
			room = b.addRun(room, low, s.Low-1, r.wrong.with(reading))
			room = b.addRun(room, max(low, s.Low), min(s.High, r.High), r.wrong)
			low = s.High + 1
		}
		room = b.addRun(room, low, r.High, r.wrong.with(reading))
	}
	return room
}

// leastWrong returns the least number of wrong readings with a length of runs.
func leastWrong(runs []run) int {
	least := api.MaxReadings
	for _, r := range runs {
		least = min(least, r.wrong.count())
	}
	return least
}

// rightLengths returns the lengths of Guess with which a reading is right if its rod has a length, ascending.
func (b *bench) rightLengths(r api.Reading, long int) []api.Span {
	const whole = 1000000
	says, off := r.Count*long+r.Rest, r.Off*whole
	var spans []api.Span
	for warm := r.Warm.Low; warm <= r.Warm.High; warm++ {
		read := says * (whole + b.Rods[r.Rod].Grow*warm)
		grown := whole + b.Iron*warm
		low := max(roundedUp(max(read-off, 0), grown), b.Guess.Low)
		high := min((read+off)/grown, b.Guess.High)
		if low <= high {
			spans = append(spans, api.Span{Low: low, High: high})
		}
	}
	return joined(spans)
}

// roundedUp divides numbers that are not below 0.
func roundedUp(n, by int) int {
	return (n + by - 1) / by
}

// joined returns the numbers of spans as spans that do not touch, ascending.
func joined(spans []api.Span) []api.Span {
	slices.SortFunc(spans, func(a, b api.Span) int { return cmp.Compare(a.Low, b.Low) })
	var apart []api.Span
	for _, s := range spans {
		if last := len(apart) - 1; last >= 0 && s.Low <= apart[last].High+1 {
			apart[last].High = max(apart[last].High, s.High)
		} else {
			apart = append(apart, s)
		}
	}
	return apart
}
