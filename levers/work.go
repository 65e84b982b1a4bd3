package levers

import (
	"maps"
	"slices"

	"shackle/api"
)

// setting is a short arm of each lever, 1 for one that is not there, and a leak.
type setting struct {
	arms [api.MaxLevers]int
	leak int
}

// product returns the product of the short arms.
func (s setting) product() int {
	product := 1
	for _, arm := range s.arms {
		product *= arm
	}
	return product
}

// work is a valid machine at work.
type work struct {
	api.Machine
	shorts [api.MaxLevers]api.Span // of a lever that is not there: 1 to 1
	long   int                     // the product of the long arms
	lever  int                     // the settings of a group have the same short arm of this lever
	others [2]int
	pairs  pairs // short arms of the others
}

// open puts a machine to work if numbers are as those of a balance.
func open(m api.Machine, weight, minutes, load int) (*work, api.Errno) {
	if e := Check(m); e != api.OK {
		return nil, e
	}
	if !validBalance(api.Balance{Weight: weight, Minutes: minutes, Load: load}) {
		return nil, api.ErrArg
	}
	return start(m, 0), api.OK
}

// openLever puts a machine to work if a lever is one of it. Each group has one short arm of this lever.
func openLever(m api.Machine, lever int) (*work, api.Errno) {
	if e := Check(m); e != api.OK {
		return nil, e
	}
	if !within(lever, 0, len(m.Levers)-1) {
		return nil, api.ErrArg
	}
	return start(m, lever), api.OK
}

func start(m api.Machine, lever int) *work {
	w := &work{Machine: m, long: 1, lever: lever}
	for i := range w.shorts {
		w.shorts[i] = api.Span{Low: 1, High: 1}
	}
	for i, l := range w.Levers {
		w.shorts[i] = l.Short
		w.long *= l.Long
	}
	for i := range w.others {
		w.others[i] = (lever + 1 + i) % api.MaxLevers
	}
	w.pairs = newPairs(w.shorts[w.others[0]], w.shorts[w.others[1]])
	return w
}

// force returns the pull of a weight, times the long arms: the load is this divided by the short arms.
func (w *work) force(weight, minutes, leak int) int {
	pull := weight + max(w.Water-minutes*leak, 0)
	return pull * w.long
}

// pulls reports whether the load is at least some load in a setting.
func (w *work) pulls(s setting, weight, minutes, load int) bool {
	return w.force(weight, minutes, s.leak) >= load*s.product()
}

func (w *work) isRight(s setting, b api.Balance) bool {
	force := w.force(b.Weight, b.Minutes, s.leak)
	product := s.product()
	return (b.Load-b.Off)*product <= force && force <= (b.Load+b.Off)*product
}

// notRight returns how many balances are not right in a setting.
func (w *work) notRight(s setting) int {
	n := 0
	for _, b := range w.Balances {
		if !w.isRight(s, b) {
			n++
		}
	}
	return n
}

// truths yields the groups of settings that are truths.
func (w *work) truths(yield func(group) bool) {
	for g := range w.groups {
		if w.notRight(g.least) <= w.Wrong && !yield(g) {
			return
		}
	}
}

func (w *work) hasTruth() bool {
	for range w.truths {
		return true
	}
	return false
}

// answers returns the answers to a question in all truths, each once, ascending. Only the ends of groups are asked:
// the answer must be the same within a group, or change but once as the product grows, between two answers.
func (w *work) answers(ask func(setting) int) ([]int, api.Errno) {
	asked := map[int]bool{}
	for g := range w.truths {
		asked[ask(g.least)] = true
		asked[ask(g.greatest)] = true
	}
	if len(asked) == 0 {
		return nil, api.ErrNone
	}
	return slices.Sorted(maps.Keys(asked)), api.OK
}
