package ward_test

import (
	"iter"
	"math/rand/v2"
	"slices"

	"canebrake/api"
)

// The model of these tests goes through all lists of cells of which each one is a neighbour of the one before, none twice, and asks of each list whether it is a way, or one of a fire: it is slow, and shares nothing with the package. It is only asked of small slopes.

// beside tells whether two cells are neighbours.
func beside(s api.Slope, cell, other int) bool {
	cell, other = min(cell, other), max(cell, other)
	return other-cell == s.Wide || other-cell == 1 && other%s.Wide != 0
}

// walks yields all lists of cells from a cell, those that go on over more cells too. What may be walked over is asked of each cell from which a list goes on.
func walks(s api.Slope, from int, over func(cell int) bool) iter.Seq[[]int] {
	return func(yield func([]int) bool) {
		var on func(list []int) bool
		on = func(list []int) bool {
			if !yield(list) {
				return false
			}
			last := list[len(list)-1]
			if len(list) > 1 && !over(last) {
				return true
			}
			for next := range s.Cells {
				if beside(s, last, next) && !slices.Contains(list, next) && !on(append(slices.Clone(list), next)) {
					return false
				}
			}
			return true
		}
		on([]int{from})
	}
}

// modelSlide takes cells into the slide until none is left to take.
func modelSlide(s api.Slope, c api.Care, cell int) []int {
	slides := []int{cell}
	for i := 0; i < len(slides); i++ {
		for next, x := range s.Cells {
			if beside(s, slides[i], next) && x.High+c.Steep <= s.Cells[slides[i]].High && !slices.Contains(slides, next) {
				slides = append(slides, next)
			}
		}
	}
	slices.Sort(slides)
	return slides
}

func modelBurns(s api.Slope, c api.Care, cell int) bool {
	burnt := func(cell int) bool {
		return s.Cells[cell].Kind == api.CellGrass || s.Cells[cell].Kind == api.CellForest
	}
	for list := range walks(s, cell, burnt) {
		if s.Cells[list[len(list)-1]].Kind == api.CellHouse && len(list)-1 <= c.Reach {
			return true
		}
	}
	return false
}

func modelBar(s api.Slope, c api.Care, cell int, burns func(api.Slope, api.Care, int) bool) uint8 {
	if s.Cells[cell].Kind != api.CellBare && s.Cells[cell].Kind != api.CellGrass {
		return api.BarKind
	}
	for _, n := range modelSlide(s, c, cell) {
		if s.Cells[n].Kind == api.CellHouse {
			return api.BarSlide
		}
	}
	if burns(s, c, cell) {
		return api.BarFire
	}
	for n, x := range s.Cells {
		rows, columns := n/s.Wide-cell/s.Wide, n%s.Wide-cell%s.Wide
		if x.Kind == api.CellForest && max(rows, -rows)+max(columns, -columns) <= c.Edge {
			return api.BarForest
		}
	}
	return api.BarNot
}

func modelGround(s api.Slope, c api.Care, burns func(api.Slope, api.Care, int) bool) []int {
	var l []int
	for cell := range s.Cells {
		if modelBar(s, c, cell, burns) == api.BarNot {
			l = append(l, cell)
		}
	}
	return l
}

// walked tells whether animals go over a cell.
func walked(s api.Slope) func(cell int) bool {
	return func(cell int) bool { return s.Cells[cell].Kind <= api.CellForest }
}

func priceOf(way, ground []int) int {
	price := 0
	for _, cell := range way {
		if slices.Contains(ground, cell) {
			price++
		}
	}
	return price
}

// modelWays is, for each cell to which one leads, the best one of all ways from a cell.
func modelWays(s api.Slope, from int, ground []int) map[int][]int {
	best := map[int][]int{}
	over := walked(s)
	for way := range walks(s, from, over) {
		to := way[len(way)-1]
		if !over(to) {
			continue
		}
		found, ok := best[to]
		price, other := priceOf(way, ground), priceOf(found, ground)
		if !ok || price < other || price == other && (len(way) < len(found) || len(way) == len(found) && slices.Compare(way, found) < 0) {
			best[to] = way
		}
	}
	return best
}

func modelCuts(ways map[int][]int, to int, ground []int) [][]int {
	var cuts [][]int
	for n := 1; n <= priceOf(ways[to], ground); n++ {
		var cut []int
		for _, cell := range ground {
			if way, ok := ways[cell]; ok && priceOf(way, ground) == n {
				cut = append(cut, cell)
			}
		}
		cuts = append(cuts, cut)
	}
	return cuts
}

// spreads tells whether a fire comes to a house, step by step: it is asked of large slopes, where there are too many lists.
func spreads(s api.Slope, c api.Care, cell int) bool {
	burning, come := []int{cell}, []int{cell}
	for range c.Reach + 1 {
		var next []int
		for _, at := range burning {
			if s.Cells[at].Kind == api.CellHouse {
				return true
			}
			if at != cell && s.Cells[at].Kind != api.CellGrass && s.Cells[at].Kind != api.CellForest {
				continue
			}
			for n := range s.Cells {
				if beside(s, at, n) && !slices.Contains(come, n) {
					next, come = append(next, n), append(come, n)
				}
			}
		}
		burning = next
	}
	return false
}

// costs is, for each cell, the least cost of a way from there to another cell: a thousand for each cell that is ground, and one for each cell; 0 if there is no way.
func costs(s api.Slope, to int, ground []int) []int {
	over := walked(s)
	cost := make([]int, len(s.Cells))
	own := func(cell int) int { return 1 + 1000*priceOf([]int{cell}, ground) }
	cost[to] = own(to)
	for range s.Cells {
		for cell := range s.Cells {
			for next := range s.Cells {
				if n := cost[next] + own(cell); over(cell) && cost[next] > 0 && beside(s, cell, next) && (cost[cell] == 0 || n < cost[cell]) {
					cost[cell] = n
				}
			}
		}
	}
	return cost
}

// walkDown is the first one of the best ways, by their costs: of a large slope.
func walkDown(s api.Slope, from, to int, ground []int) []int {
	cost := costs(s, to, ground)
	way := []int{from}
	for at := from; at != to; {
		own := 1 + 1000*priceOf([]int{at}, ground)
		for next := range s.Cells {
			if beside(s, at, next) && cost[next] > 0 && cost[next] == cost[at]-own {
				at = next
				break
			}
		}
		way = append(way, at)
	}
	return way
}

func chance(seed uint64) *rand.Rand { return rand.New(rand.NewPCG(seed, 3)) }

// anySlope is a slope with at most so many columns and rows, and a care for it. Some of them have more of one kind than of another one, or few heights.
func anySlope(r *rand.Rand, wide, rows int) (api.Slope, api.Care) {
	s := api.Slope{Wide: 1 + r.IntN(wide)}
	kinds := []uint8{api.CellBare, api.CellGrass, api.CellForest, api.CellRock, api.CellHouse, api.CellWater}
	common := []uint8{kinds[r.IntN(3)], kinds[r.IntN(3)], kinds[r.IntN(2)]}
	rare := 1 + r.IntN(6)
	high := []int{1, 3, 10, 100, api.MaxHigh}[r.IntN(5)]
	for range s.Wide * (1 + r.IntN(rows)) {
		x := api.Cell{High: r.IntN(high + 1), Kind: common[r.IntN(3)]}
		if r.IntN(rare) == 0 {
			x.Kind = kinds[r.IntN(6)]
		}
		s.Cells = append(s.Cells, x)
	}
	steep := 1 + r.IntN(min(2*high, api.MaxHigh))/(1+r.IntN(9))
	return s, careOf(steep, r.IntN([]int{1, 3, 8, 65}[r.IntN(4)]), r.IntN([]int{1, 3, 15}[r.IntN(3)]))
}
