package ward_test

import (
	"iter"
	"math/rand/v2"
	"slices"
	"testing"

	"canebrake/api"
	"canebrake/ward"
)

// TestModel holds all that is told of small slopes against the model (P3.1 to P3.4).
func TestModel(t *testing.T) {
	r := chance(1)
	var bars [5]int
	var errors [8]int
	for range 1500 {
		s, c := anySlope(r, 4, 4)
		if len(s.Cells) > 12 {
			s.Cells = s.Cells[:12/s.Wide*s.Wide]
		}
		for cell := range s.Cells {
			b, e := ward.Bar(s, c, cell)
			l, f := ward.Slide(s, c, cell)
			if e != api.OK || b != modelBar(s, c, cell, modelBurns) || f != api.OK || !slices.Equal(l, modelSlide(s, c, cell)) {
				t.Fatal(s, c, cell, b, e, l, f)
			}
			bars[b]++
		}
		ground := modelGround(s, c, modelBurns)
		wantGround(t, s, c, ground...)
		for _, from := range []int{0, r.IntN(len(s.Cells))} {
			for to := range s.Cells {
				errors[wantModelWay(t, s, c, from, to, ground)]++
			}
		}
		if t.Failed() {
			t.Fatal(s, c)
		}
	}
	if slices.Min(bars[:]) < 200 || errors[api.OK] < 200 || errors[api.ErrArg] < 200 || errors[api.ErrNone] < 200 {
		t.Error("one kind of answer was hardly met", bars, errors)
	}
}

func wantModelWay(t *testing.T, s api.Slope, c api.Care, from, to int, ground []int) api.Errno {
	over := walked(s)
	if !over(from) || !over(to) {
		wantNoWay(t, s, c, from, to, api.ErrArg)
		return api.ErrArg
	}
	ways := modelWays(s, from, ground)
	way, ok := ways[to]
	if !ok {
		wantNoWay(t, s, c, from, to, api.ErrNone)
		return api.ErrNone
	}
	wantWay(t, s, c, way, without(ground, way), modelCuts(ways, to, ground))
	return api.OK
}

// without is a list without the cells of another one.
func without(list, cells []int) []int {
	return slices.DeleteFunc(slices.Clone(list), func(cell int) bool { return slices.Contains(cells, cell) })
}

// TestLarge holds what is told of large slopes against other models (P3.1, P3.2, P3.4).
func TestLarge(t *testing.T) {
	r := chance(2)
	ways := 0
	for range 250 {
		s, c := anySlope(r, 8, 8)
		ground := modelGround(s, c, spreads)
		wantGround(t, s, c, ground...)
		from, to := r.IntN(len(s.Cells)), r.IntN(len(s.Cells))
		over := walked(s)
		if !over(from) || !over(to) {
			continue
		}
		cost := costs(s, from, ground)
		if cost[to] == 0 {
			wantNoWay(t, s, c, from, to, api.ErrNone)
			continue
		}
		cuts := make([][]int, cost[to]/1000)
		for _, cell := range ground {
			if n := cost[cell] / 1000; n > 0 && n <= len(cuts) {
				cuts[n-1] = append(cuts[n-1], cell)
			}
		}
		way := walkDown(s, from, to, ground)
		wantWay(t, s, c, way, without(ground, way), cuts)
		if t.Failed() {
			t.Fatal(s, c, from, to)
		}
		ways++
	}
	if ways < 100 {
		t.Error("few ways", ways)
	}
}

// leads tells whether animals come from a cell to another one while some cells are planted.
func leads(s api.Slope, from, to int, planted []int) bool {
	come := []int{from}
	if slices.Contains(planted, from) {
		return false
	}
	for i := 0; i < len(come); i++ {
		for next := range s.Cells {
			if walked(s)(next) && beside(s, come[i], next) && !slices.Contains(come, next) && !slices.Contains(planted, next) {
				come = append(come, next)
			}
		}
	}
	return slices.Contains(come, to)
}

// isWay tells whether a list is a way from a cell to another one.
func isWay(s api.Slope, way []int, from, to int) bool {
	for i, cell := range way {
		if !walked(s)(cell) || slices.Contains(way[:i], cell) || i > 0 && !beside(s, way[i-1], cell) {
			return false
		}
	}
	return way[0] == from && way[len(way)-1] == to
}

// trip is from where to where animals come on some slope, on which way, and over which ground.
type trip struct {
	s           api.Slope
	c           api.Care
	from, to    int
	way, ground []int
}

// trips yields trips on large slopes.
func trips(r *rand.Rand) iter.Seq[trip] {
	return func(yield func(trip) bool) {
		for range 500 {
			s, c := anySlope(r, 8, 8)
			from, to := r.IntN(len(s.Cells)), r.IntN(len(s.Cells))
			way, e := ward.Way(s, c, from, to)
			ground, _ := ward.Ground(s, c)
			if e == api.OK && !yield(trip{s, c, from, to, way, ground}) {
				return
			}
		}
	}
}

// TestAWayStays plants what Plant returns, and more (P3.3, P3.5).
func TestAWayStays(t *testing.T) {
	r := chance(3)
	planted := 0
	for x := range trips(r) {
		plant, e := ward.Plant(x.s, x.c, x.from, x.to)
		if e != api.OK || !isWay(x.s, x.way, x.from, x.to) || !leads(x.s, x.from, x.to, plant) || !slices.Equal(plant, without(x.ground, x.way)) {
			t.Fatal(x, plant, e)
		}
		for range 20 {
			if len(x.ground) == len(plant) {
				break
			}
			more := slices.Clone(x.ground)
			r.Shuffle(len(more), func(i, j int) { more[i], more[j] = more[j], more[i] })
			if more = more[:len(plant)+1]; leads(x.s, x.from, x.to, more) {
				t.Fatal(x, plant, more)
			}
			planted++
		}
		for _, cell := range without(x.ground, plant) {
			if leads(x.s, x.from, x.to, append(slices.Clone(plant), cell)) {
				t.Fatal(x, plant, cell)
			}
		}
	}
	if planted < 1000 {
		t.Error("little was planted", planted)
	}
}

// TestCutsProve looks for cells that two cuts have in common, for ways that do not cross one, and for ways that are left by it (P3.4, P3.5).
func TestCutsProve(t *testing.T) {
	longest := 0
	for x := range trips(chance(4)) {
		cuts, e := ward.Cuts(x.s, x.c, x.from, x.to)
		if e != api.OK || len(cuts) != priceOf(x.way, x.ground) {
			t.Fatal(x, cuts, e)
		}
		var all []int
		for _, cut := range cuts {
			if priceOf(x.way, cut) != 1 || len(without(cut, x.ground)) > 0 || len(without(cut, all)) < len(cut) || !slices.IsSorted(cut) || leads(x.s, x.from, x.to, cut) {
				t.Fatal(x, cuts)
			}
			all = append(all, cut...)
		}
		longest = max(longest, len(cuts))
	}
	if longest < 8 {
		t.Error("no long way", longest)
	}
}

// TestWhatIsPlantedIsSafe asks of ground, and of what is barred, whether it slides, burns or grows (P3.6).
func TestWhatIsPlantedIsSafe(t *testing.T) {
	r := chance(5)
	var met [5]int
	for range 150 {
		s, c := anySlope(r, 8, 8)
		for cell := range s.Cells {
			slides := slices.ContainsFunc(modelSlide(s, c, cell), func(n int) bool { return s.Cells[n].Kind == api.CellHouse })
			burns := spreads(s, c, cell)
			grows := false
			for n, x := range s.Cells {
				away := max(n/s.Wide-cell/s.Wide, cell/s.Wide-n/s.Wide) + max(n%s.Wide-cell%s.Wide, cell%s.Wide-n%s.Wide)
				grows = grows || x.Kind == api.CellForest && away <= c.Edge
			}
			b, e := ward.Bar(s, c, cell)
			so := [5]bool{!slides && !burns && !grows, s.Cells[cell].Kind > api.CellGrass, slides, !slides && burns, !slides && !burns && grows}
			if e != api.OK || !so[b] {
				t.Fatal(s, c, cell, b, e, so)
			}
			met[b]++
		}
	}
	if slices.Min(met[:]) < 100 {
		t.Error("one bar was hardly met", met)
	}
}

// isMore tells whether a list has all of another one.
func isMore(list, other []int) bool { return len(without(other, list)) == 0 }

// TestLessCare takes less care of slopes (P3.7).
func TestLessCare(t *testing.T) {
	r := chance(6)
	more, dearer := 0, 0
	for range 1000 {
		s, c := anySlope(r, 8, 8)
		less := careOf(c.Steep+r.IntN(api.MaxHigh+1-c.Steep), c.Reach-r.IntN(c.Reach+1), c.Edge-r.IntN(c.Edge+1))
		switch r.IntN(4) {
		case 0:
			less = careOf(less.Steep, c.Reach, c.Edge)
		case 1:
			less = careOf(c.Steep, less.Reach, c.Edge)
		case 2:
			less = careOf(c.Steep, c.Reach, less.Edge)
		}
		before, e := ward.Ground(s, c)
		after, f := ward.Ground(s, less)
		if e != api.OK || f != api.OK || !isMore(after, before) {
			t.Fatal(s, c, less, before, after)
		}
		if len(after) > len(before) {
			more++
		}
		from, to := r.IntN(len(s.Cells)), r.IntN(len(s.Cells))
		way, e := ward.Way(s, c, from, to)
		other, f := ward.Way(s, less, from, to)
		if e != f || priceOf(other, after) < priceOf(way, before) {
			t.Fatal(s, c, less, way, other, e, f)
		}
		if priceOf(other, after) > priceOf(way, before) {
			dearer++
		}
	}
	if more < 100 || dearer < 20 {
		t.Error("less care hardly changed anything", more, dearer)
	}
}

// mirrored is a slope whose rows, or columns, are in the other order, or which is turned over a corner, and where its cells have gone.
func mirrored(r *rand.Rand, s api.Slope) (api.Slope, func(cell int) int) {
	rows := len(s.Cells) / s.Wide
	m := api.Slope{Wide: s.Wide, Cells: make([]api.Cell, len(s.Cells))}
	place := func(cell int) int { return cell/s.Wide*s.Wide + s.Wide - 1 - cell%s.Wide }
	switch r.IntN(3) {
	case 0:
		place = func(cell int) int { return (rows-1-cell/s.Wide)*s.Wide + cell%s.Wide }
	case 1:
		m.Wide = rows
		place = func(cell int) int { return cell%s.Wide*rows + cell/s.Wide }
	}
	for cell, x := range s.Cells {
		m.Cells[place(cell)] = x
	}
	return m, place
}

// TestMirrored mirrors slopes (P3.8).
func TestMirrored(t *testing.T) {
	r := chance(7)
	changed, ways := 0, 0
	for range 500 {
		s, c := anySlope(r, 8, 8)
		m, place := mirrored(r, s)
		all := func(cells []int) []int {
			var l []int
			for _, cell := range cells {
				l = append(l, place(cell))
			}
			slices.Sort(l)
			return l
		}
		ground, e := ward.Ground(s, c)
		other, f := ward.Ground(m, c)
		if e != api.OK || f != api.OK || !slices.Equal(all(ground), other) {
			t.Fatal(s, c, m, ground, other)
		}
		if !slices.Equal(ground, other) {
			changed++
		}
		from, to := r.IntN(len(s.Cells)), r.IntN(len(s.Cells))
		slide, _ := ward.Slide(s, c, from)
		if l, e := ward.Slide(m, c, place(from)); e != api.OK || !slices.Equal(l, all(slide)) {
			t.Fatal(s, c, m, from, slide, l, e)
		}
		way, e := ward.Way(s, c, from, to)
		mirroredWay, f := ward.Way(m, c, place(from), place(to))
		if e != f || len(way) != len(mirroredWay) || priceOf(way, ground) != priceOf(mirroredWay, other) {
			t.Fatal(s, c, m, from, to, way, mirroredWay, e, f)
		}
		cuts, _ := ward.Cuts(s, c, from, to)
		for i := range cuts {
			cuts[i] = all(cuts[i])
		}
		if l, e := ward.Cuts(m, c, place(from), place(to)); e != f || !sameLists(l, cuts) {
			t.Fatal(s, c, m, from, to, cuts, l, e)
		}
		if e == api.OK {
			ways++
		}
	}
	if changed < 100 || ways < 100 {
		t.Error("little was mirrored", changed, ways)
	}
}
