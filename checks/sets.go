package checks

import (
	"iter"
	"math/bits"
)

// set is a set of comparisons, or of machines: the bit of a number is 1 if the number is in the set.
type set uint

func (s set) has(number int) bool {
	return s>>number&1 == 1
}

func (s set) with(number int) set {
	return s | 1<<number
}

func (s set) count() int {
	return bits.OnesCount(uint(s))
}

// numbers returns the numbers in the set, ascending.
func (s set) numbers() []int {
	var list []int
	for number := range bits.Len(uint(s)) {
		if s.has(number) {
			list = append(list, number)
		}
	}
	return list
}

// sets yields all sets of the numbers below many, smaller sets first.
func sets(many int) iter.Seq[set] {
	return func(yield func(set) bool) {
		for count := range many + 1 {
			for s := range set(1) << many {
				if s.count() == count && !yield(s) {
					return
				}
			}
		}
	}
}

// smallest returns, of all sets that are enough, the smallest ones. The set of all numbers must be enough.
func smallest(many int, enough func(set) bool) []set {
	var list []set
	for s := range sets(many) {
		if len(list) > 0 && s.count() > list[0].count() {
			break
		}
		if enough(s) {
			list = append(list, s)
		}
	}
	return list
}
