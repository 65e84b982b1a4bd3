package stretch

import "shackle/api"

// Four rods can have 10000 choices of lengths, each with 99999 lengths before, and as many after. But of a length
// it matters only which readings are wrong with it, and those before have nothing to do with those after: so it is
// enough to know runs of lengths for each choice, and of these the ends.

// bench is a valid pull, and with which lengths its readings are right.
type bench struct {
	api.Pull
	right [api.MaxReadings][api.MaxWear + 1][]api.Span // of each reading, by how much its rod is worn
	rooms [api.MaxReadings][]run                       // memory for the runs of each reading
}

// finding is a length of each rod, and runs of the lengths before, and of those after, by their When.
type finding struct {
	rods [api.MaxRods]int
	runs [api.After + 1][]run
}

// side is the lengths before, or after, with which the same number of readings is wrong.
type side struct {
	least, greatest, many int
	wrong                 marks // the readings that are wrong with all of them
}

// group is truths with the same lengths of rods: each length of one side with each one of the other.
type group struct {
	rods          [api.MaxRods]int
	before, after side
}

// open lays a pull on the bench, if it is valid and what is asked of it is allowed.
func open(p api.Pull, allowed bool) (*bench, api.Errno) {
	if e := Check(p); e != api.OK {
		return nil, e
	}
	if !allowed {
		return nil, api.ErrArg
	}
	b := &bench{Pull: p}
	for i, r := range b.Readings {
		rod := b.Rods[r.Rod]
		for worn := range rod.Wear + 1 {
			b.right[i][worn] = b.rightLengths(r, rod.Long-worn)
		}
	}
	return b, api.OK
}

// findings yields a finding for each choice of the lengths of rods, without the runs in which more than Wrong
// readings are wrong. All of them are in the same memory: a loop keeps none.
func (b *bench) findings(yield func(finding) bool) {
	var f finding
	f.runs[api.Before] = []run{{Span: b.Guess}}
	f.runs[api.After] = []run{{Span: b.Guess}}
	b.lay(f, 0, yield)
}

// lay gives each length to a rod and to those behind it, and reports whether the loop goes on.
func (b *bench) lay(f finding, rod int, yield func(finding) bool) bool {
	if rod == len(b.Rods) {
		return yield(f)
	}
	for worn := range b.Rods[rod].Wear + 1 {
		next := b.read(f, rod, worn)
		if len(next.runs[api.Before]) == 0 || len(next.runs[api.After]) == 0 {
			continue
		}
		if !b.lay(next, rod+1, yield) {
			return false
		}
	}
	return true
}

// read looks at the readings of a rod that is worn by so much.
func (b *bench) read(f finding, rod, worn int) finding {
	f.rods[rod] = b.Rods[rod].Long - worn
	for i, r := range b.Readings {
		if r.Rod == rod {
			b.rooms[i] = b.look(b.rooms[i], f.runs[r.When], i, b.right[i][worn])
			f.runs[r.When] = b.rooms[i]
		}
	}
	return f
}

// sides returns the lengths of runs by how many readings are wrong with them.
func sides(runs []run) [api.MaxReadings + 1]side {
	var all [api.MaxReadings + 1]side
	for _, r := range runs {
		s := &all[r.wrong.count()]
		if s.many == 0 {
			s.least, s.wrong = r.Low, r.wrong
		}
		s.greatest = r.High
		s.many += r.High - r.Low + 1
		s.wrong &= r.wrong
	}
	return all
}

// truths yields the groups of all truths.
func (b *bench) truths(yield func(group) bool) {
	for f := range b.findings {
		after := sides(f.runs[api.After])
		for wrong, x := range sides(f.runs[api.Before]) {
			for more, y := range after {
				if x.many == 0 || y.many == 0 || wrong+more > b.Wrong {
					continue
				}
				if !yield(group{f.rods, x, y}) {
					return
				}
			}
		}
	}
}

func (b *bench) hasTruth() bool {
	for range b.truths {
		return true
	}
	return false
}

// lengths returns all lengths before, or after, in truths, ascending.
func (b *bench) lengths(when int) []int {
	other := api.Before + api.After - when
	// How many runs begin at a length, less how many end right before it.
	begin := make([]int, b.Guess.High-b.Guess.Low+2)
	for f := range b.findings {
		least := leastWrong(f.runs[other])
		for _, r := range f.runs[when] {
			if r.wrong.count()+least <= b.Wrong {
				begin[r.Low-b.Guess.Low]++
				begin[r.High+1-b.Guess.Low]--
			}
		}
	}
	var list []int
	runs := 0
	for i, n := range begin {
		runs += n
		if runs > 0 {
			list = append(list, b.Guess.Low+i)
		}
	}
	return list
}

// bounds is the span of some numbers, if there are any.
type bounds struct {
	api.Span
	found bool
}

func (b *bounds) add(s api.Span) {
	if b.found {
		s = api.Span{Low: min(b.Low, s.Low), High: max(b.High, s.High)}
	}
	b.Span, b.found = s, true
}

// stretch returns the least and the greatest stretch of a group.
func (g group) stretch() api.Span {
	return api.Span{Low: g.after.least - g.before.greatest, High: g.after.greatest - g.before.least}
}

// holds reports whether a cable became longer by at most a part. It is so, too, with a greater length before, or a lesser one after.
func holds(before, after, part int) bool {
	return 1000*(after-before) <= part*before
}
