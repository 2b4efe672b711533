package ward_test

import (
	"math"
	"slices"
	"strings"
	"testing"

	"canebrake/api"
	"canebrake/ward"
)

// slopeOf is a slope whose kinds are told by letters (spaces are left out), and how high its cells are; cells that are not told are 0 high.
func slopeOf(wide int, kinds string, highs ...int) api.Slope {
	s := api.Slope{Wide: wide}
	for i, letter := range strings.ReplaceAll(kinds, " ", "") {
		c := api.Cell{Kind: uint8(strings.IndexRune("BGFRHW", letter))}
		if i < len(highs) {
			c.High = highs[i]
		}
		s.Cells = append(s.Cells, c)
	}
	return s
}

func careOf(steep, reach, edge int) api.Care {
	return api.Care{Steep: steep, Reach: reach, Edge: edge}
}

// calm is a care by which nothing burns or grows, and nothing slides but what is as high as can be.
func calm() api.Care { return careOf(api.MaxHigh, 0, 0) }

// example is the slope of the chapter's examples.
func example() api.Slope {
	return slopeOf(4, "GBBF RBWB HBBG", 50, 50, 40, 40, 90, 30, 15, 40, 10, 20, 20, 20)
}

func exampleCare() api.Care { return careOf(20, 2, 1) }

func numbers(from, to int) []int {
	var l []int
	for n := from; n <= to; n++ {
		l = append(l, n)
	}
	return l
}

func lists(l ...[]int) [][]int { return l }

func sameLists(l, o [][]int) bool { return slices.EqualFunc(l, o, slices.Equal) }

func wantSlide(t *testing.T, s api.Slope, c api.Care, cell int, want ...int) {
	t.Helper()
	if l, e := ward.Slide(s, c, cell); e != api.OK || !slices.Equal(l, want) {
		t.Error(cell, l, e, want)
	}
}

func wantBars(t *testing.T, s api.Slope, c api.Care, want ...uint8) {
	t.Helper()
	for cell, bar := range want {
		if b, e := ward.Bar(s, c, cell); e != api.OK || b != bar {
			t.Error(cell, b, e, bar)
		}
	}
	if len(want) != len(s.Cells) {
		t.Error("not all cells", len(want))
	}
}

func wantGround(t *testing.T, s api.Slope, c api.Care, want ...int) {
	t.Helper()
	if l, e := ward.Ground(s, c); e != api.OK || !slices.Equal(l, want) {
		t.Error(l, e, want)
	}
}

func wantWay(t *testing.T, s api.Slope, c api.Care, way, plant []int, cuts [][]int) {
	t.Helper()
	from, to := way[0], way[len(way)-1]
	if l, e := ward.Way(s, c, from, to); e != api.OK || !slices.Equal(l, way) {
		t.Error("way", l, e, way)
	}
	if l, e := ward.Plant(s, c, from, to); e != api.OK || !slices.Equal(l, plant) {
		t.Error("plant", l, e, plant)
	}
	if l, e := ward.Cuts(s, c, from, to); e != api.OK || !sameLists(l, cuts) {
		t.Error("cuts", l, e, cuts)
	}
}

func wantNoWay(t *testing.T, s api.Slope, c api.Care, from, to int, want api.Errno) {
	t.Helper()
	way, e := ward.Way(s, c, from, to)
	plant, f := ward.Plant(s, c, from, to)
	cuts, g := ward.Cuts(s, c, from, to)
	if e != want || f != want || g != want || len(way)+len(plant)+len(cuts) != 0 {
		t.Error(from, to, way, e, plant, f, cuts, g, want)
	}
}

// TestExample is the chapter's table.
func TestExample(t *testing.T) {
	s, c := example(), exampleCare()
	wantSlide(t, s, c, 0, 0)
	wantSlide(t, s, c, 1, 1, 5)
	wantSlide(t, s, c, 9, 9)
	wantBars(t, s, c, 0, 0, api.BarForest, api.BarKind, api.BarKind, 0, api.BarKind, api.BarForest, api.BarKind, api.BarFire, 0, 0)
	wantGround(t, s, c, 0, 1, 5, 10, 11)
	wantWay(t, s, c, []int{0, 1, 2, 3}, []int{5, 10, 11}, lists([]int{0}, []int{1}))
	wantWay(t, s, c, []int{0, 1, 2, 3, 7, 11}, []int{5, 10}, lists([]int{0}, []int{1}, []int{5, 11}))
}

// TestBounds has each number at its ends, and beyond them (P3.1).
func TestBounds(t *testing.T) {
	wrong := []int{math.MinInt, math.MinInt + 1, -1 << 32, -1}
	for i, x := range []struct {
		number        func(s *api.Slope, c *api.Care) *int
		least, most   int
		beyond, other []int
		e             api.Errno
	}{
		{func(s *api.Slope, c *api.Care) *int { return &s.Cells[0].High }, 0, 9000, []int{9001}, nil, api.ErrSlope},
		{func(s *api.Slope, c *api.Care) *int { return &s.Cells[11].High }, 0, 9000, []int{9001}, nil, api.ErrSlope},
		{func(s *api.Slope, c *api.Care) *int { return &c.Steep }, 1, 9000, []int{0, 9001}, nil, api.ErrCare},
		{func(s *api.Slope, c *api.Care) *int { return &c.Reach }, 0, 64, []int{65}, nil, api.ErrCare},
		{func(s *api.Slope, c *api.Care) *int { return &c.Edge }, 0, 14, []int{15}, nil, api.ErrCare},
		// Of 12 cells.
		{func(s *api.Slope, c *api.Care) *int { return &s.Wide }, 2, 4, []int{0, 1, 5, 7, 8, 9, 12}, []int{6}, api.ErrSlope},
	} {
		for _, n := range append([]int{x.least, x.least + 1, x.most - 1, x.most}, x.other...) {
			s, c := example(), exampleCare()
			*x.number(&s, &c) = n
			if e := ward.Check(s, c); e != api.OK {
				t.Error(i, n, e)
			}
		}
		for _, n := range slices.Concat(wrong, x.beyond, []int{1 << 32, math.MaxInt - 1, math.MaxInt}) {
			s, c := example(), exampleCare()
			*x.number(&s, &c) = n
			wantError(t, s, c, x.e)
		}
	}
}

// wantError asks all calls for the error of a slope or a care.
func wantError(t *testing.T, s api.Slope, c api.Care, want api.Errno) {
	t.Helper()
	for _, cell := range []int{0, -1} {
		a := ask(s, c, cell, cell)
		for _, e := range []api.Errno{a.check, a.slideE, a.barE, a.groundE, a.wayE, a.plantE, a.cutsE} {
			if e != want {
				t.Error(cell, e, want, s.Wide, len(s.Cells), c)
			}
		}
		if !bare(a) {
			t.Error(a)
		}
	}
}

// TestShapes has slopes of all numbers of columns and cells (P3.1).
func TestShapes(t *testing.T) {
	for wide := -2; wide <= 10; wide++ {
		for cells := range 100 {
			s := api.Slope{Wide: wide, Cells: make([]api.Cell, cells)}
			valid := false
			for rows := 1; rows <= 8; rows++ {
				valid = valid || wide >= 1 && wide <= 8 && cells == rows*wide
			}
			if !valid {
				wantError(t, s, calm(), api.ErrSlope)
			} else if l, e := ward.Ground(s, calm()); e != api.OK || !slices.Equal(l, numbers(0, cells-1)) {
				t.Error(wide, cells, l, e)
			}
		}
	}
}

// TestKinds has cells of all kinds, also of those that there are not, at the beginning, within and at the end (P3.1, P3.2).
func TestKinds(t *testing.T) {
	for kind := range 256 {
		for _, cell := range []int{0, 4, 5, 8} {
			s := slopeOf(3, "BBBBBBBBB")
			s.Cells[cell].Kind = uint8(kind)
			if kind > 5 {
				wantError(t, s, calm(), api.ErrSlope)
				continue
			}
			ground := numbers(0, 8)
			bars := make([]uint8, 9)
			if kind != api.CellBare && kind != api.CellGrass {
				ground = slices.Delete(ground, cell, cell+1)
				bars[cell] = api.BarKind
			}
			wantGround(t, s, calm(), ground...)
			wantBars(t, s, calm(), bars...)
			switch kind {
			case api.CellBare, api.CellGrass:
				wantWay(t, s, calm(), []int{cell}, slices.DeleteFunc(ground, func(n int) bool { return n == cell }), lists([]int{cell}))
			case api.CellForest:
				wantWay(t, s, calm(), []int{cell}, ground, nil)
			default:
				wantNoWay(t, s, calm(), cell, cell, api.ErrArg)
				wantNoWay(t, s, calm(), cell, 3, api.ErrArg)
				wantNoWay(t, s, calm(), 3, cell, api.ErrArg)
			}
		}
	}
}

// TestIndexes asks for cells that there are not (P3.1, P3.2).
func TestIndexes(t *testing.T) {
	s, c := example(), exampleCare()
	for _, cell := range []int{math.MinInt, -1 << 32, -12, -1, 12, 13, 64, 1 << 32, math.MaxInt} {
		l, e := ward.Slide(s, c, cell)
		b, f := ward.Bar(s, c, cell)
		if e != api.ErrArg || f != api.ErrArg || len(l) != 0 || b != 0 {
			t.Error(cell, l, e, b, f)
		}
		wantNoWay(t, s, c, cell, 0, api.ErrArg)
		wantNoWay(t, s, c, 0, cell, api.ErrArg)
		wantNoWay(t, s, c, cell, cell, api.ErrArg)
	}
}

// TestOneCell has slopes of one cell.
func TestOneCell(t *testing.T) {
	widest := careOf(1, api.MaxReach, api.MaxEdge)
	for _, kinds := range []string{"B", "G"} {
		s := slopeOf(1, kinds, api.MaxHigh)
		wantSlide(t, s, widest, 0, 0)
		wantBars(t, s, widest, api.BarNot)
		wantGround(t, s, widest, 0)
		wantWay(t, s, widest, []int{0}, nil, lists([]int{0}))
	}
	for _, kinds := range []string{"F", "R", "H", "W"} {
		s := slopeOf(1, kinds)
		wantSlide(t, s, widest, 0, 0)
		wantBars(t, s, widest, api.BarKind)
		wantGround(t, s, widest)
	}
	wantWay(t, slopeOf(1, "F"), widest, []int{0}, nil, nil)
	wantNoWay(t, slopeOf(1, "H"), widest, 0, 0, api.ErrArg)
}

// TestSlides has slides that go on, or do not, by a pace of height.
func TestSlides(t *testing.T) {
	row := slopeOf(4, "BBBB", 60, 40, 20, 1)
	wantSlide(t, row, careOf(20, 0, 0), 0, 0, 1, 2)
	wantSlide(t, row, careOf(19, 0, 0), 0, 0, 1, 2, 3)
	wantSlide(t, row, careOf(21, 0, 0), 0, 0)
	wantSlide(t, row, careOf(19, 0, 0), 2, 2, 3)
	wantSlide(t, row, careOf(19, 0, 0), 3, 3)
	// It is the cell above that counts, not the one in which the slide began; and a slide goes round, but not up, nor over what is level.
	wantSlide(t, slopeOf(3, "BBB BBB BBB", 90, 80, 70, 90, 20, 60, 30, 40, 50), careOf(10, 0, 0), 0, 0, 1, 2, 4, 5, 6, 7, 8)
	wantSlide(t, slopeOf(3, "BBB BBB BBB", 90, 80, 70, 90, 75, 60, 30, 40, 50), careOf(10, 0, 0), 3, 3, 4, 5, 6, 7, 8)
	wantSlide(t, slopeOf(2, "BB BB", 9, 9, 9, 8), careOf(1, 0, 0), 0, 0)
	wantSlide(t, slopeOf(2, "BB BB", 9, 9, 9, 8), careOf(1, 0, 0), 1, 1, 3)
	// The end of a row is no neighbour of the beginning of the next one.
	wantSlide(t, slopeOf(2, "BB BB BB", 50, 60, 40, 70, 30, 20), careOf(1, 0, 0), 1, 0, 1, 2, 4, 5)
	wantSlide(t, slopeOf(3, "BBB BBB", 90, 90, 80, 70, 90, 90), careOf(1, 0, 0), 2, 2)
	wantSlide(t, slopeOf(3, "BBB BBB", 90, 90, 70, 80, 90, 90), careOf(1, 0, 0), 3, 3)
	// All kinds of cells slide, and are slid over.
	wantSlide(t, slopeOf(6, "WHRFGB", 6, 5, 4, 3, 2, 1), careOf(1, 0, 0), 0, 0, 1, 2, 3, 4, 5)
	wantSlide(t, slopeOf(1, "BB", api.MaxHigh), careOf(api.MaxHigh, 0, 0), 0, 0, 1)
	wantSlide(t, slopeOf(1, "BB", api.MaxHigh-1), careOf(api.MaxHigh, 0, 0), 0, 0)
}

// TestSlideSpreads has a slope that slides as a whole from its highest cell, which lies at one of the corners or within it.
func TestSlideSpreads(t *testing.T) {
	for _, top := range []int{0, 7, 27, 56, 63} {
		s := slopeOf(8, strings.Repeat("B", 64))
		for i := range s.Cells {
			away := max(i/8-top/8, top/8-i/8) + max(i%8-top%8, top%8-i%8)
			s.Cells[i].High = 9000 - 600*away
		}
		wantSlide(t, s, careOf(600, 0, 0), top, numbers(0, 63)...)
		wantSlide(t, s, careOf(601, 0, 0), top, top)
		s.Cells[63-top].Kind = api.CellHouse
		if b, e := ward.Bar(s, careOf(600, 0, 0), top); e != api.OK || b != api.BarSlide {
			t.Error(top, b, e)
		}
		if b, e := ward.Bar(s, careOf(601, 0, 0), top); e != api.OK || b != api.BarNot {
			t.Error(top, b, e)
		}
	}
	// One step after the other, along all cells.
	s := slopeOf(8, strings.Repeat("G", 64))
	for i := range s.Cells {
		column := i % 8
		if i/8%2 == 1 {
			column = 7 - column
		}
		s.Cells[i].High = 9000 - 10*(8*(i/8)+column)
	}
	wantSlide(t, s, careOf(10, 0, 0), 0, numbers(0, 63)...)
	wantSlide(t, s, careOf(10, 0, 0), 60, numbers(56, 60)...)
}

// snake is a slope of 8 columns and 8 rows on which a list of 36 cells winds between water.
func snake(first, within, last string) (s api.Slope, cells []int) {
	s = slopeOf(8, strings.Repeat("W", 64))
	for row := range 8 {
		for column := range 8 {
			if row%2 == 1 {
				column = 7 - 7*(row/2%2)
				cells = append(cells, 8*row+column)
				break
			}
			if row/2%2 == 1 {
				column = 7 - column
			}
			cells = append(cells, 8*row+column)
		}
	}
	for i, cell := range cells {
		kind := within
		switch i {
		case 0:
			kind = first
		case len(cells) - 1:
			kind = last
		}
		s.Cells[cell] = slopeOf(1, kind).Cells[0]
	}
	return s, cells
}

// TestFires has fires that come to a house, or do not, in a number of steps.
func TestFires(t *testing.T) {
	const not, kind, fire = api.BarNot, api.BarKind, api.BarFire
	for reach, want := range [][]uint8{{not, not, not, kind}, {not, not, fire, kind}, {not, fire, fire, kind}, {fire, fire, fire, kind}, {fire, fire, fire, kind}} {
		wantBars(t, slopeOf(4, "BGGH"), careOf(1, reach, 0), want...)
		wantBars(t, slopeOf(1, "GGGH"), careOf(1, reach, 0), want...)
	}
	far := careOf(1, api.MaxReach, 0)
	// What burns within is grass or forest; where a fire begins, it is any ground.
	wantBars(t, slopeOf(3, "BFH"), far, fire, kind, kind)
	wantBars(t, slopeOf(3, "GBH"), far, not, fire, kind)
	wantBars(t, slopeOf(3, "GRH"), far, not, kind, kind)
	wantBars(t, slopeOf(3, "GWH"), far, not, kind, kind)
	wantBars(t, slopeOf(5, "HGBGB"), far, kind, fire, fire, not, not)
	// Round a bare cell, and not from the end of a row to the beginning of the next one.
	wantBars(t, slopeOf(3, "GBH GGG"), careOf(1, 3, 0), not, fire, kind, fire, fire, fire)
	wantBars(t, slopeOf(3, "GBH GGG"), careOf(1, 4, 0), fire, fire, kind, fire, fire, fire)
	wantBars(t, slopeOf(3, "BBH GBB"), careOf(1, 1, 0), not, fire, kind, not, not, fire)
	wantBars(t, slopeOf(3, "BBG HBB"), careOf(1, 1, 0), fire, not, not, kind, fire, not)
	// The nearest one of several houses counts.
	wantBars(t, slopeOf(7, "HGGGGGH"), careOf(1, 2, 0), kind, fire, fire, not, fire, fire, kind)
	for _, within := range []string{"G", "F"} {
		s, cells := snake("B", within, "H")
		last := len(cells) - 1
		for _, x := range []struct {
			reach int
			want  uint8
		}{{last - 1, not}, {last, fire}, {last + 1, fire}, {api.MaxReach, fire}} {
			if b, e := ward.Bar(s, careOf(1, x.reach, 0), cells[0]); e != api.OK || b != x.want {
				t.Error(within, x.reach, b, e)
			}
		}
	}
}

// TestForests has forests of which cells are more or less far.
func TestForests(t *testing.T) {
	whole := slopeOf(8, strings.Repeat("B", 63)+"F")
	for edge := range api.MaxEdge + 1 {
		var want []int
		for cell := range 63 {
			if 7-cell/8+7-cell%8 > edge {
				want = append(want, cell)
			}
		}
		wantGround(t, whole, careOf(1, 64, edge), want...)
	}
	wantGround(t, whole, careOf(1, 64, 13), 0)
	wantGround(t, whole, careOf(1, 64, 14))
	wantGround(t, slopeOf(5, "BBFBB"), careOf(1, 0, 0), 0, 1, 3, 4)
	wantGround(t, slopeOf(5, "BBFBB"), careOf(1, 0, 1), 0, 4)
	// A forest is as near over water and houses, and nearer over a corner than it is along rows.
	wantGround(t, slopeOf(5, "BWFHB"), careOf(1, 0, 1), 0, 4)
	wantGround(t, slopeOf(5, "BWFHB"), careOf(1, 0, 2))
	wantGround(t, slopeOf(3, "BBF BBB BBB"), careOf(1, 0, 2), 3, 6, 7)
	wantGround(t, slopeOf(3, "BBF BBB BBB"), careOf(1, 0, 3), 6)
}

// TestBarsInOrder has cells that are barred by several things: the first one is told.
func TestBarsInOrder(t *testing.T) {
	s := slopeOf(3, "GHF", 20, 10, 10)
	for i, x := range []struct {
		c    api.Care
		want uint8
	}{
		{careOf(10, 1, 2), api.BarSlide}, {careOf(10, 0, 2), api.BarSlide}, {careOf(10, 0, 0), api.BarSlide},
		{careOf(11, 1, 2), api.BarFire}, {careOf(11, 1, 0), api.BarFire},
		{careOf(11, 0, 2), api.BarForest}, {careOf(11, 0, 1), api.BarNot}, {careOf(11, 0, 0), api.BarNot},
	} {
		wantBars(t, s, x.c, x.want, api.BarKind, api.BarKind)
		if t.Failed() {
			t.Fatal(i)
		}
	}
	wantBars(t, slopeOf(3, "RHF", 20, 10, 10), careOf(10, 1, 2), api.BarKind, api.BarKind, api.BarKind)
	// A house that slides, or burns, is barred by its kind.
	wantBars(t, slopeOf(2, "HH", 20), careOf(10, 1, 2), api.BarKind, api.BarKind)
}

// TestWays has ways of one price, of one price and as many cells, of no price, and none.
func TestWays(t *testing.T) {
	// The first one of ways of one price and as many cells: the first cell that differs has a lesser index.
	plain := slopeOf(3, "BBBBBBBBB")
	wantWay(t, plain, calm(), []int{0, 1, 2, 5, 8}, []int{3, 4, 6, 7}, lists([]int{0}, []int{1, 3}, []int{2, 4, 6}, []int{5, 7}, []int{8}))
	wantWay(t, plain, calm(), []int{8, 5, 2, 1, 0}, []int{3, 4, 6, 7}, lists([]int{8}, []int{5, 7}, []int{2, 4, 6}, []int{1, 3}, []int{0}))
	wantWay(t, plain, calm(), []int{6, 3, 0, 1, 2}, []int{4, 5, 7, 8}, lists([]int{6}, []int{3, 7}, []int{0, 4, 8}, []int{1, 5}, []int{2}))
	wantWay(t, plain, calm(), []int{2, 1, 0, 3, 6}, []int{4, 5, 7, 8}, lists([]int{2}, []int{1, 5}, []int{0, 4, 8}, []int{3, 7}, []int{6}))
	wantWay(t, plain, calm(), []int{4}, []int{0, 1, 2, 3, 5, 6, 7, 8}, lists([]int{4}))
	// The one with the least price, though it is longer; and of one price the one with the fewest cells, though another one begins with a lesser index.
	wantWay(t, slopeOf(4, "BBBB FRRF FFFF"), calm(), []int{0, 4, 8, 9, 10, 11, 7, 3}, []int{1, 2}, lists([]int{0}, []int{1, 3}))
	wantWay(t, slopeOf(3, "FFF BFB"), calm(), []int{3, 4, 5}, nil, lists([]int{3}, []int{5}))
	wantWay(t, slopeOf(3, "FBF BFB FBF"), calm(), []int{3, 4, 5}, []int{1, 7}, lists([]int{3}, []int{1, 5, 7}))
	// Of no price.
	wantWay(t, slopeOf(3, "FFF"), calm(), []int{0, 1, 2}, nil, nil)
	wantWay(t, slopeOf(3, "FFF BBB"), calm(), []int{2, 1, 0}, []int{3, 4, 5}, nil)
	// What is barred by a fire costs nothing.
	wantWay(t, slopeOf(4, "HGGB"), careOf(9000, 2, 0), []int{1, 2, 3}, nil, lists([]int{3}))
	wantWay(t, slopeOf(4, "HGGB"), careOf(9000, 1, 0), []int{1, 2, 3}, nil, lists([]int{2}, []int{3}))
}

// TestCuts has ground that lies beside the way, behind its end, and where no way leads.
func TestCuts(t *testing.T) {
	wantWay(t, slopeOf(3, "BFB FWF BFB"), calm(), []int{0, 1, 2}, []int{6, 8}, lists([]int{0}, []int{2, 6}))
	wantWay(t, slopeOf(5, "BBBRB"), calm(), []int{0, 1}, []int{2, 4}, lists([]int{0}, []int{1}))
	wantWay(t, slopeOf(5, "BFFFB"), calm(), []int{0, 1, 2}, []int{4}, lists([]int{0}))
	wantWay(t, slopeOf(5, "BFFFB"), calm(), []int{2, 3, 4}, []int{0}, lists([]int{0, 4}))
	// The least price of ground may be that of a way over the cell at the end.
	wantWay(t, slopeOf(4, "BBFB BRRF BBBB"), calm(), []int{0, 1, 2}, []int{3, 4, 8, 9, 10, 11}, lists([]int{0}, []int{1, 4}))
	wantWay(t, slopeOf(4, "BBFB BRRF BBBB"), calm(), []int{0, 1, 2, 3}, []int{4, 8, 9, 10, 11}, lists([]int{0}, []int{1, 4}, []int{3, 8}))
	wantWay(t, slopeOf(4, "BBFB BRRF BBBB"), calm(), []int{0, 1, 2, 3, 7, 11}, []int{4, 8, 9, 10}, lists([]int{0}, []int{1, 4}, []int{3, 8}, []int{9, 11}))
}

// TestNoWay has cells from which no way leads.
func TestNoWay(t *testing.T) {
	for _, kinds := range []string{"BRB", "BWB", "BHB", "GRF"} {
		wantNoWay(t, slopeOf(3, kinds), calm(), 0, 2, api.ErrNone)
		wantNoWay(t, slopeOf(1, kinds), calm(), 2, 0, api.ErrNone)
		wantNoWay(t, slopeOf(3, kinds), calm(), 0, 1, api.ErrArg)
		wantNoWay(t, slopeOf(3, kinds), calm(), 1, 2, api.ErrArg)
	}
	// Neither over a corner, nor from the end of a row to the beginning of the next one.
	wantNoWay(t, slopeOf(2, "BR RB"), calm(), 0, 3, api.ErrNone)
	wantNoWay(t, slopeOf(3, "RRB BRR"), calm(), 2, 3, api.ErrNone)
	wantWay(t, slopeOf(3, "RRB BRR"), calm(), []int{2}, []int{3}, lists([]int{2}))
}

// TestGreatest has slopes as long, as wide, and as large as can be.
func TestGreatest(t *testing.T) {
	for _, s := range []api.Slope{slopeOf(1, "BBBBBBBB"), slopeOf(8, "BBBBBBBB")} {
		var cuts [][]int
		for cell := range 8 {
			cuts = append(cuts, []int{cell})
		}
		wantWay(t, s, calm(), numbers(0, 7), nil, cuts)
		wantWay(t, s, calm(), []int{4, 3, 2}, []int{0, 1, 5, 6, 7}, lists([]int{4}, []int{3, 5}, []int{2, 6}))
		wantGround(t, s, calm(), numbers(0, 7)...)
		s.Cells[7].Kind = api.CellForest
		wantGround(t, s, careOf(1, 64, 4), 0, 1, 2)
	}
	cuts := make([][]int, 15)
	for cell := range 64 {
		n := cell/8 + cell%8
		cuts[n] = append(cuts[n], cell)
	}
	way := append(numbers(0, 7), 15, 23, 31, 39, 47, 55, 63)
	left := slices.DeleteFunc(numbers(0, 63), func(cell int) bool { return slices.Contains(way, cell) })
	wantWay(t, slopeOf(8, strings.Repeat("B", 64)), calm(), way, left, cuts)
	wantWay(t, slopeOf(8, strings.Repeat("F", 64)), calm(), way, nil, nil)
	s, cells := snake("G", "G", "G")
	cuts = nil
	for _, cell := range cells {
		cuts = append(cuts, []int{cell})
	}
	wantWay(t, s, calm(), cells, nil, cuts)
	s, cells = snake("B", "F", "F")
	wantWay(t, s, calm(), cells, nil, lists([]int{0}))
}
