package proofs

import "shackle/api"

// none stands for the link that broke, or its place, if no link did.
const none = -1

// file is a valid proof, and its truths, as far as these make a difference to what is asked.
type file struct {
	api.Proof
	stories []story  // of all truths of the chain
	pulls   [][]load // the loads of all trials, in each truth of the machine that can make a difference
}

// truth is what its story says, and the load of each trial.
type truth struct {
	story
	loads []load
}

// open returns the file of a proof, if it is valid, what is asked of it is allowed, and there is a truth.
func open(p api.Proof, allowed bool) (file, api.Errno) {
	f := file{Proof: p}
	if e := Check(p); e != api.OK {
		return file{}, e
	}
	if !allowed {
		return file{}, api.ErrArg
	}
	f.stories = f.allStories()
	f.pulls = f.allPulls()
	if len(f.stories) == 0 || len(f.pulls) == 0 {
		return file{}, api.ErrNone
	}
	return f, api.OK
}

// openTrial returns the file of a proof if a trial is one of it.
func openTrial(p api.Proof, trial int) (file, api.Errno) {
	return open(p, within(trial, 0, len(p.Trials)-1))
}

// openLink returns the file of a proof if a link is one of its chain.
func openLink(p api.Proof, link int) (file, api.Errno) {
	return open(p, within(link, 0, len(smiths(p.Chain))-1))
}

// smiths returns the smith of each link of a chain.
func smiths(c api.Chain) []int {
	var list []int
	for _, d := range c.Deeds {
		if d.What == api.Weld {
			list = append(list, d.Smith)
		}
	}
	return list
}

// proofs yields each trial and the deed that proves with it.
func (f file) proofs(yield func(trial, deed int) bool) {
	trial := 0
	for deed, d := range f.Chain.Deeds {
		if d.What != api.Prove {
			continue
		}
		if !yield(trial, deed) {
			return
		}
		trial++
	}
}

// truths yields the truths: each story, with all that the machine can have pulled.
func (f file) truths(yield func(truth) bool) {
	for _, s := range f.stories {
		for _, loads := range f.pulls {
			if !yield(truth{s, loads}) {
				return
			}
		}
	}
}

// answer returns whether a question is answered with yes in each truth, in none, or in some.
func (f file) answer(ask func(truth) bool) int {
	yes, no := false, false
	for t := range f.truths {
		if ask(t) {
			yes = true
		} else {
			no = true
		}
		if yes && no {
			return api.Perhaps
		}
	}
	if yes {
		return api.Surely
	}
	return api.Never
}

func (f file) isFailure(t truth, trial int) bool {
	return t.broke[trial] != none && t.loads[trial].atMost(f.Need)
}

func (f file) failures(t truth) int {
	many := 0
	for trial := range f.Trials {
		if f.isFailure(t, trial) {
			many++
		}
	}
	return many
}

func (f file) isCondemned(t truth) bool {
	return f.failures(t) >= f.Rule
}

// proved returns the links that were proved by some trial.
func (f file) proved(t truth) set {
	var all set
	for trial, l := range t.loads {
		if l.atLeast(f.Need) {
			all |= t.tested[trial]
		}
	}
	return all
}

func (f file) isGood(t truth) bool {
	if f.isCondemned(t) {
		return false
	}
	proved := f.proved(t)
	for _, link := range t.last {
		if !proved.has(link) {
			return false
		}
	}
	return true
}
