package ward

import (
	"slices"

	"canebrake/api"
)

// price is what a way costs: how much ground, and how many cells.
type price struct{ ground, length int }

// less tells whether a price is less than another one: of ways that take as much ground the shorter one is cheaper.
func (p price) less(other price) bool {
	if p.ground != other.ground {
		return p.ground < other.ground
	}
	return p.length < other.length
}

type way struct {
	price
	cells []int
}

func priceOf(w way) price { return w.price }

func byCells(w, other way) int { return slices.Compare(w.cells, other.cells) }

// before tells whether a way comes before another one: it is cheaper, or as cheap and the first one in an order.
func before[W any](one, other W, costs func(W) price, order func(W, W) int) bool {
	if costs(one) == costs(other) {
		return order(one, other) < 0
	}
	return costs(one).less(costs(other))
}

// travel is a slope with its ground, and the best way from one cell to each cell that animals reach from it.
type travel struct {
	slope
	ground map[int]bool
	ways   map[int]way
}

// travelOf returns Way's errors.
func travelOf(s api.Slope, c api.Care, from, to int) (travel, api.Errno) {
	w, e := slopeOf(s, c)
	if e != api.OK {
		return travel{}, e
	}
	if !w.carries(from) || !w.carries(to) {
		return travel{}, api.ErrArg
	}
	t := travel{w, w.unbarred(), map[int]way{}}
	t.start(from)
	if _, ok := t.ways[to]; !ok {
		return travel{}, api.ErrNone
	}
	return t, api.OK
}

// carries tells whether there is such a cell, and animals go over it.
func (s slope) carries(cell int) bool {
	return s.has(cell) && s.is(cell, api.CellBare, api.CellGrass, api.CellForest)
}

// start looks for the best ways from a cell. Each way that is better than the one that was found to the same cell is followed on: what is best up to a cell is also best for all that comes after it, so the best ways are found in the end. A way that comes to a cell twice is never followed, as it is dearer than the one that came there first.
func (t travel) start(from int) {
	t.ways[from] = t.longer(way{}, from)
	open := []int{from}
	for len(open) > 0 {
		cell := open[0]
		open = open[1:]
		for next := range t.neighbours(cell) {
			if !t.carries(next) {
				continue
			}
			found, ok := t.ways[next]
			if w := t.longer(t.ways[cell], next); !ok || before(w, found, priceOf, byCells) {
				t.ways[next] = w
				open = append(open, next)
			}
		}
	}
}

// longer is a way with one more cell. The cells are copied, since other ways go on from the same ones.
func (t travel) longer(w way, cell int) way {
	p := price{w.ground, w.length + 1}
	if t.ground[cell] {
		p.ground++
	}
	return way{p, append(slices.Clone(w.cells), cell)}
}

// cuts is, for each number up to the price of the way to a cell, the ground to which the way costs this number.
func (t travel) cuts(to int) [][]int {
	cuts := make([][]int, t.ways[to].price.ground)
	for _, cell := range inOrder(t.ground) {
		w, ok := t.ways[cell]
		if ok && w.price.ground <= len(cuts) {
			cuts[w.price.ground-1] = append(cuts[w.price.ground-1], cell)
		}
	}
	return cuts
}
