package orders

import "shackle/api"

// need is what a ship needs in a truth.
type need struct {
	size, long int
}

// needAt returns what a ship of some tonnage needs.
func needAt(rates []api.Rate, tons int) need {
	var n need
	for _, r := range rates {
		if r.Tons <= tons {
			n = need{r.Size, r.Long}
		}
	}
	return n
}

// needsOf returns all that a ship can need. What it needs changes only where a rate begins.
func needsOf(rates []api.Rate, tons api.Span) map[need]bool {
	needs := map[need]bool{needAt(rates, tons.Low): true}
	for _, r := range rates {
		if within(r.Tons, tons.Low, tons.High) {
			needs[needAt(rates, r.Tons)] = true
		}
	}
	return needs
}
