package links

import (
	"slices"

	"shackle/api"
)

// mark is what can be read of a link.
type mark struct {
	bar, smith int
}

// book is a valid chain, and the marks of its links, by their numbers.
type book struct {
	api.Chain
	marks []mark
}

// past is the links of a cable, by their numbers, from the head to the tail, after each number of deeds.
type past [][]int

// open returns the book of a chain.
func open(c api.Chain) (book, api.Errno) {
	if !valid(c) {
		return book{}, api.ErrChain
	}
	b := book{Chain: c, marks: make([]mark, 0, api.MaxDeeds)}
	for _, d := range b.Deeds {
		if d.What == api.Weld {
			b.marks = append(b.marks, mark{d.Bar, d.Smith})
		}
	}
	return b, api.OK
}

// openAt returns the book of a chain if places are ones of its cable in the end.
func openAt(c api.Chain, places ...int) (book, api.Errno) {
	b, e := open(c)
	if e != api.OK {
		return book{}, e
	}
	length := lengthAfter(b.Deeds)
	for _, at := range places {
		if !within(at, 0, length-1) {
			return book{}, api.ErrArg
		}
	}
	return b, api.OK
}

// openLink returns the book of a chain if a link is one of it.
func openLink(c api.Chain, link int) (book, api.Errno) {
	b, e := open(c)
	if e != api.OK {
		return book{}, e
	}
	if !within(link, 0, len(b.marks)-1) {
		return book{}, api.ErrArg
	}
	return b, api.OK
}

// truths yields the past of each truth, as pasts does.
func (b book) truths(yield func(past) bool) {
	for p := range b.pasts {
		if b.notRight(p) <= b.Wrong && !yield(p) {
			return
		}
	}
}

// pasts yields a past for each choice of the ends that are not known, whichever sights are right then.
// All of them are in the same memory: a loop that keeps one keeps a copy.
func (b book) pasts(yield func(past) bool) {
	choices := 1
	for _, d := range b.Deeds {
		if d.From == unknown {
			choices *= 2
		}
	}
	p := newPast(len(b.Deeds))
	for ends := range choices {
		b.follow(p, ends)
		if !yield(p) {
			return
		}
	}
}

// newPast returns a past with room for each cable that so many deeds can leave.
func newPast(deeds int) past {
	p := make(past, deeds+1)
	memory := make([]int, len(p)*api.MaxDeeds)
	for after := range p {
		from := after * api.MaxDeeds
		p[after] = memory[from : from : from+api.MaxDeeds]
	}
	return p
}

// follow does all deeds. The bits of ends are the ends that are not known, that of the first deed lowest.
func (b book) follow(p past, ends int) {
	link := 0
	for i, d := range b.Deeds {
		if d.From == unknown {
			d.From = ends & 1
			ends >>= 1
		}
		cable := p[i+1][:len(p[i])]
		copy(cable, p[i])
		switch d.What {
		case api.Weld:
			cable = slices.Insert(cable, fromHead(d.At, d.From, len(cable)+1), link)
			link++
		case api.Cut:
			at := fromHead(d.At, d.From, len(cable))
			cable = slices.Delete(cable, at, at+1)
		case api.Turn:
			slices.Reverse(cable)
		}
		p[i+1] = cable
	}
}

// fromHead returns a place, counted from an end of a cable of a length, counted from its head.
func fromHead(at, from, length int) int {
	if from == tail {
		return length - 1 - at
	}
	return at
}

// last returns the cable when all deeds are done.
func (p past) last() []int {
	return p[len(p)-1]
}

// isRight reports whether a sight is right.
func (b book) isRight(p past, s api.Sight) bool {
	cable := p[s.After]
	m := b.marks[cable[fromHead(s.At, s.From, len(cable))]]
	return (s.Bar < 0 || s.Bar == m.bar) && (s.Smith < 0 || s.Smith == m.smith)
}

// notRight returns how many sights are not right.
func (b book) notRight(p past) int {
	n := 0
	for _, s := range b.Sights {
		if !b.isRight(p, s) {
			n++
		}
	}
	return n
}

// answers returns the answers to a question in all truths, each once, ascending.
func (b book) answers(ask func(past) int) ([]int, api.Errno) {
	var list []int
	for p := range b.truths {
		if n := ask(p); !slices.Contains(list, n) {
			list = append(list, n)
		}
	}
	if len(list) == 0 {
		return nil, api.ErrNone
	}
	slices.Sort(list)
	return list, api.OK
}

// proofs returns how often a link was proved, and at which deed last (-1: never).
func (b book) proofs(p past, link int) (times, last int) {
	last = -1
	for i, d := range b.Deeds {
		if d.What == api.Prove && slices.Contains(p[i], link) {
			times++
			last = i
		}
	}
	return times, last
}
