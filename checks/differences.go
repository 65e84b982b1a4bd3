package checks

import "shackle/api"

// places is how many machines there can be, and the ground.
const places = api.MaxMachines + 1

// differences is, for each two places, by how much at most the error of the second one is greater than that of the
// first one.
type differences [places][places]int

// placeOf returns the place of a machine, or of the ground.
func placeOf(number int) int {
	return number - ground
}

// without returns the differences that are left if some comparisons are left out.
func (v yard) without(leftOut func(compare int) bool) differences {
	d := anyErrors()
	for _, e := range v.edges {
		if e.By != noCompare && leftOut(e.By) {
			continue
		}
		from, to := placeOf(e.From), placeOf(e.To)
		d[from][to] = min(d[from][to], e.most)
	}
	d.tighten()
	return d
}

// agrees reports whether the yard agrees with itself if some comparisons are left out.
func (v yard) agrees(leftOut func(compare int) bool) bool {
	return v.without(leftOut).possible()
}

// anyErrors returns the differences between any errors that there can be. They are true of the ground, too, and of a
// place without a machine, as if its error were 0; so no such place changes what is said of others.
func anyErrors() differences {
	var d differences
	for from := range places {
		for to := range places {
			if from != to {
				d[from][to] = 2 * api.MaxError
			}
		}
	}
	return d
}

// tighten takes into account what follows from two differences for a third one.
func (d *differences) tighten() {
	for by := range places {
		for from := range places {
			for to := range places {
				d[from][to] = min(d[from][to], d[from][by]+d[by][to])
			}
		}
	}
}

// possible reports whether there are errors with these differences: no error can be greater than itself.
func (d differences) possible() bool {
	for place := range places {
		if d[place][place] < 0 {
			return false
		}
	}
	return true
}

// of returns by how much, at least and at most, the error of a machine is greater than that of another one. As the
// differences are tight, each number between is so, too, with some errors of all machines.
func (d differences) of(a, b int) api.Span {
	at, from := placeOf(a), placeOf(b)
	return api.Span{Low: -d[at][from], High: d[from][at]}
}
