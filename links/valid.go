package links

import "shackle/api"

// The ends that a place can be counted from.
const (
	head    = 0
	tail    = 1
	unknown = 2
)

func within(n, low, high int) bool {
	return low <= n && n <= high
}

func valid(c api.Chain) bool {
	if len(c.Deeds) > api.MaxDeeds || len(c.Sights) > api.MaxMarks || !within(c.Wrong, 0, api.MaxMarks) {
		return false
	}
	for i, d := range c.Deeds {
		if !validDeed(d, lengthAfter(c.Deeds[:i])) {
			return false
		}
	}
	for _, s := range c.Sights {
		if !within(s.After, 0, len(c.Deeds)) || !validSight(s, lengthAfter(c.Deeds[:s.After])) {
			return false
		}
	}
	return true
}

// validDeed reports whether a deed is valid for a cable that has so many links before it.
func validDeed(d api.Deed, length int) bool {
	switch d.What {
	case api.Weld:
		return within(d.At, 0, length) && within(d.From, head, unknown) && within(d.Bar, 0, api.MaxBar) && within(d.Smith, 0, api.MaxSmith)
	case api.Cut:
		return within(d.At, 0, length-1) && within(d.From, head, unknown) && d.Bar == 0 && d.Smith == 0
	case api.Turn, api.Prove:
		return d.At == 0 && d.From == 0 && d.Bar == 0 && d.Smith == 0
	}
	return false
}

// validSight reports whether a sight is valid for a cable that has so many links then.
func validSight(s api.Sight, length int) bool {
	return within(s.At, 0, length-1) && within(s.From, head, tail) && within(s.Bar, -1, api.MaxBar) && within(s.Smith, -1, api.MaxSmith)
}

// lengthAfter returns how many links a cable has after deeds; the ends that they are counted from make no difference to it.
func lengthAfter(deeds []api.Deed) int {
	length := 0
	for _, d := range deeds {
		switch d.What {
		case api.Weld:
			length++
		case api.Cut:
			length--
		}
	}
	return length
}
