package bars

import "shackle/api"

func within(n, low, high int) bool {
	return low <= n && n <= high
}

func valid(s api.BarStore) bool {
	if len(s.Bars) > api.MaxBars || len(s.Pieces) > api.MaxPieces {
		return false
	}
	for _, b := range s.Bars {
		if !within(b.Heat, 0, api.MaxHeat) || !within(b.Long, 1, api.MaxIron) {
			return false
		}
	}
	for _, p := range s.Pieces {
		if !within(p.Long, 1, api.MaxIron) || !validHeats(p.Heats) {
			return false
		}
	}
	return within(s.Kerf, 0, api.MaxKerf) && within(s.Wrong, 0, api.MaxPieces)
}

func validHeats(heats []int) bool {
	before := -1
	for _, heat := range heats {
		if heat <= before || heat > api.MaxHeat {
			return false
		}
		before = heat
	}
	return true
}

func isPiece(s api.BarStore, piece int) bool {
	return within(piece, 0, len(s.Pieces)-1)
}

// isSawing reports whether a sawing has a bar of the store for each piece.
func isSawing(s api.BarStore, sawing []int) bool {
	if len(sawing) != len(s.Pieces) {
		return false
	}
	for _, bar := range sawing {
		if !within(bar, 0, len(s.Bars)-1) {
			return false
		}
	}
	return true
}
