package orders

import "shackle/api"

func within(n, low, high int) bool {
	return low <= n && n <= high
}

func isSpan(s api.Span, low, high int) bool {
	return low <= s.Low && s.Low <= s.High && s.High <= high
}

func valid(o api.Order) bool {
	return areRates(o.Rates) && areShips(o.Ships) && areStocks(o.Stocks) && within(o.Shackle, 0, api.MaxShackle)
}

func areRates(rates []api.Rate) bool {
	if len(rates) > api.MaxRates {
		return false
	}
	next := 0
	for _, r := range rates {
		if !within(r.Tons, next, api.MaxTons) || !within(r.Size, 1, api.MaxSize) || !within(r.Long, 0, api.MaxFathoms) {
			return false
		}
		next = r.Tons + 1
	}
	return true
}

func areShips(ships []api.Span) bool {
	if len(ships) > api.MaxShips {
		return false
	}
	for _, tons := range ships {
		if !isSpan(tons, 0, api.MaxTons) {
			return false
		}
	}
	return true
}

func areStocks(stocks []api.Stock) bool {
	if len(stocks) > api.MaxStocks {
		return false
	}
	for _, s := range stocks {
		if !within(s.Size, 1, api.MaxSize) || !isSpan(s.Long, 1, api.MaxFathoms) {
			return false
		}
	}
	return true
}

// isPlan reports whether numbers are those of ships, or unused, one for each stock.
func isPlan(o api.Order, numbers []int) bool {
	if len(numbers) != len(o.Stocks) {
		return false
	}
	for _, ship := range numbers {
		if !within(ship, unused, len(o.Ships)-1) {
			return false
		}
	}
	return true
}
