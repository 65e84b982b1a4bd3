package repairs

import "math/bits"

// set is a set of links: the bit of a link is 1 if the link is in the set. A repair is the set of the links that are cut out.
type set uint

func (s set) has(link int) bool {
	return s>>link&1 == 1
}

func (s set) with(link int) set {
	return s | 1<<link
}

func (s set) count() int {
	return bits.OnesCount(uint(s))
}

// links returns the links in the set, ascending.
func (s set) links() []int {
	var list []int
	for link := range bits.Len(uint(s)) {
		if s.has(link) {
			list = append(list, link)
		}
	}
	return list
}
