package ward

import (
	"iter"
	"maps"
	"slices"

	"canebrake/api"
)

const maxCells = api.MaxWide * api.MaxWide

// never is more steps than a care has, and than a list of different cells.
const never = api.MaxReach + 1

// slope is a slope at work, with the care that is taken of it, and in how many steps a fire in each cell comes to a house at the earliest.
type slope struct {
	api.Slope
	api.Care
	fire [maxCells]int
}

// slopeOf returns Check's errors.
func slopeOf(s api.Slope, c api.Care) (slope, api.Errno) {
	if e := Check(s, c); e != api.OK {
		return slope{}, e
	}
	w := slope{Slope: s, Care: c}
	w.fire = w.fires()
	return w, api.OK
}

// slopeWith returns ErrArg unless the slope has a cell with an index.
func slopeWith(s api.Slope, c api.Care, cell int) (slope, api.Errno) {
	w, e := slopeOf(s, c)
	if e == api.OK && !w.has(cell) {
		return slope{}, api.ErrArg
	}
	return w, e
}

// inOrder is the cells of a set, in increasing order.
func inOrder(cells map[int]bool) []int { return slices.Sorted(maps.Keys(cells)) }

func (s slope) has(cell int) bool { return cell >= 0 && cell < len(s.Cells) }

// is tells whether a cell is of one of some kinds.
func (s slope) is(cell int, kinds ...uint8) bool {
	return slices.Contains(kinds, s.Cells[cell].Kind)
}

func (s slope) place(cell int) (row, column int) { return cell / s.Wide, cell % s.Wide }

// distance is the number of rows and the number of columns between two cells, together.
func (s slope) distance(cell, other int) int {
	row, column := s.place(cell)
	otherRow, otherColumn := s.place(other)
	return apart(row, otherRow) + apart(column, otherColumn)
}

func apart(n, m int) int { return max(n-m, m-n) }

// neighbours yields the cells above, left, right and below: in increasing order.
func (s slope) neighbours(cell int) iter.Seq[int] {
	row, column := s.place(cell)
	ways := [...]struct {
		there bool
		by    int
	}{
		{row > 0, -s.Wide},
		{column > 0, -1},
		{column < s.Wide-1, 1},
		{cell+s.Wide < len(s.Cells), s.Wide},
	}
	return func(yield func(int) bool) {
		for _, way := range ways {
			if way.there && !yield(cell+way.by) {
				return
			}
		}
	}
}

// slide is the slide of a cell.
func (s slope) slide(cell int) map[int]bool {
	slides := map[int]bool{}
	var loosen func(from int)
	loosen = func(from int) {
		slides[from] = true
		for next := range s.neighbours(from) {
			if drop := s.Cells[from].High - s.Cells[next].High; drop >= s.Steep && !slides[next] {
				loosen(next)
			}
		}
	}
	loosen(cell)
	return slides
}

// fires tells in how many steps a fire in each cell comes to a house. A list of cells that leads from a fire to a house leads back as well: so fires are followed from all houses at once.
func (s slope) fires() [maxCells]int {
	var steps [maxCells]int
	var burning []int
	for cell := range s.Cells {
		steps[cell] = never
		if s.is(cell, api.CellHouse) {
			steps[cell] = 0
			burning = append(burning, cell)
		}
	}
	for len(burning) > 0 {
		cell := burning[0]
		burning = burning[1:]
		for next := range s.neighbours(cell) {
			if steps[next] < never {
				continue
			}
			steps[next] = steps[cell] + 1
			if s.is(next, api.CellGrass, api.CellForest) {
				burning = append(burning, next)
			}
		}
	}
	return steps
}

// bar is something by which cells are barred, and whether it bars one.
type bar struct {
	by    uint8
	holds func(s slope, cell int) bool
}

// bars are in the order in which they are asked.
func bars() []bar {
	return []bar{
		{api.BarKind, slope.isNoGround},
		{api.BarSlide, slope.slidesIntoHouse},
		{api.BarFire, slope.burnsHouse},
		{api.BarForest, slope.isNearForest},
	}
}

func (s slope) isNoGround(cell int) bool {
	return !s.is(cell, api.CellBare, api.CellGrass)
}

func (s slope) slidesIntoHouse(cell int) bool {
	for other := range s.slide(cell) {
		if s.is(other, api.CellHouse) {
			return true
		}
	}
	return false
}

func (s slope) burnsHouse(cell int) bool { return s.fire[cell] <= s.Reach }

func (s slope) isNearForest(cell int) bool {
	for other := range s.Cells {
		if s.is(other, api.CellForest) && s.distance(cell, other) <= s.Edge {
			return true
		}
	}
	return false
}

// barOf is the first bar of a cell that holds.
func (s slope) barOf(cell int) uint8 {
	for _, b := range bars() {
		if b.holds(s, cell) {
			return b.by
		}
	}
	return api.BarNot
}

// unbarred is all ground.
func (s slope) unbarred() map[int]bool {
	free := map[int]bool{}
	for cell := range s.Cells {
		if s.barOf(cell) == api.BarNot {
			free[cell] = true
		}
	}
	return free
}
