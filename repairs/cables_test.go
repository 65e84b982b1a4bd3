package repairs_test

import (
	"slices"

	"shackle/api"
)

// dice gives the same numbers in each run.
type dice struct{ state uint64 }

// upTo returns a number from 0 to n-1.
func (d *dice) upTo(n int) int {
	d.state = d.state*6364136223846793005 + 1442695040888963407
	return int(d.state>>33) % n
}

// cable returns a valid cable with so many links, of which a repair is often good.
func (d *dice) cable(many int) api.RepairCable {
	around := []int{0, 40, api.MaxHold - 9}[d.upTo(3)]
	c := api.RepairCable{Need: around + d.upTo(7), Gap: 1 + d.upTo(3), Doubt: d.upTo(4), Joins: d.upTo(4), Least: 1 + d.upTo(many/2+1)}
	for range many {
		low := around + d.upTo(10)
		c.Links = append(c.Links, span(low, min(low+d.upTo(4), api.MaxHold)))
	}
	return c
}

// cables calls f with some cables, and all the edges that the chapter names.
func cables(f func(c api.RepairCable, d *dice)) {
	d := &dice{1}
	for _, c := range edges() {
		f(c, d)
	}
	for range 500 {
		f(d.cable(d.upTo(8)), d)
	}
	for range 3 {
		f(d.cable(api.MaxRepair), d)
	}
}

// rows returns so many links that hold the same.
func rows(many, low, high int) []api.Span { return slices.Repeat([]api.Span{span(low, high)}, many) }

// full returns a cable with as many links as there can be; each one holds something else.
func full() api.RepairCable {
	c := api.RepairCable{Need: 14, Gap: 2, Doubt: 2, Joins: 3, Least: 2}
	for link := range api.MaxRepair {
		c.Links = append(c.Links, span(link*7%13, link*7%13+link*5%11))
	}
	return c
}

func edges() []api.RepairCable {
	l := []api.RepairCable{
		{Gap: 1, Least: 1}, // no links: nothing can be left
		{Links: []api.Span{}, Need: 9999, Gap: 12, Doubt: 12, Joins: 12, Least: 12},
		{Links: rows(12, 0, 9), Need: 9, Gap: 12, Doubt: 12, Joins: 12, Least: 12},
		{Links: rows(12, 9990, 9999), Need: 9999, Gap: 1, Doubt: 6, Joins: 12, Least: 6},
		{Links: rows(11, 0, 9), Gap: 12, Doubt: 12, Joins: 12, Least: 1}, // no piece can be long enough
		{Links: rows(11, 0, 9), Gap: 1, Doubt: 12, Joins: 12, Least: 12}, // nor can so many be left
		{Links: rows(3, 5, 9), Need: 7, Gap: 1, Doubt: 1, Joins: 1, Least: 1},
		{Links: rows(3, 5, 9), Need: 7, Gap: 1, Doubt: 3, Joins: 0, Least: 3},
		example(),
		full(),
	}
	for need := 4; need <= 11; need++ { // too weak, doubtful, or neither
		for doubt := range 2 {
			l = append(l, api.RepairCable{Links: rows(1, 5, 9), Need: need, Gap: 1, Doubt: doubt, Least: 1},
				api.RepairCable{Links: rows(2, 8, 8), Need: need, Gap: 1, Doubt: doubt, Least: 1},
				api.RepairCable{Links: []api.Span{span(9, 9), span(5, 9), span(10, 10), span(0, 12)}, Need: need, Gap: 1, Doubt: doubt, Joins: 1, Least: 1})
		}
	}
	// Links that are cut out at an end, next to each other, or one by one.
	for _, weak := range [][]int{{0}, {6}, {0, 6}, {3}, {2, 3}, {1, 5}, {1, 3, 5}, {0, 2, 4, 6}, {0, 1, 2, 3, 4, 5}, {0, 1, 2, 3, 4, 5, 6}} {
		for gap := 1; gap <= 4; gap++ {
			for joins := range 4 {
				c := api.RepairCable{Links: rows(7, 6, 7), Need: 5, Gap: gap, Joins: joins, Least: 1}
				for _, link := range weak {
					c.Links[link] = span(3, 4)
				}
				l = append(l, c)
			}
		}
	}
	for least := 1; least <= 7; least++ {
		l = append(l, example(func(c *api.RepairCable) { c.Least = least }), example(func(c *api.RepairCable) { c.Least, c.Joins = least, 0 }))
	}
	return l
}
