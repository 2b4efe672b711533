package weave_test

import (
	"slices"
	"strings"
	"testing"

	"canebrake/api"
	"canebrake/weave"
)

// pattern is told by its rows, in which o is over.
func pattern(rows ...string) api.Pattern {
	p := api.Pattern{Wide: len(rows[0])}
	for _, c := range strings.Join(rows, "") {
		p.Over = append(p.Over, c == 'o')
	}
	return p
}

// plain and other are the patterns of the chapter's examples. Of layers the even strips lie over the odd ones, and each of both is plain.
func plain() api.Pattern  { return pattern("ou", "uo") }
func other() api.Pattern  { return pattern("oo", "uo") }
func twill() api.Pattern  { return pattern("oouu", "uoou", "uuoo", "ouuo") }
func layers() api.Pattern { return pattern("ouuu", "ooou", "uuou", "ouoo") }

func flat(columns, rows int) api.Screen { return api.Screen{Columns: columns, Rows: rows} }

func round(columns, rows int) api.Screen {
	return api.Screen{Columns: columns, Rows: rows, Round: true}
}

// example is the gauge of the chapter's examples.
func example() api.Gauge {
	return api.Gauge{Pitch: 10, Bow: 2, Lap: 5, Split: 3, Grade: 1, Buy: 50}
}

// split is the gauge of the examples, with another Split.
func split(n int) api.Gauge {
	g := example()
	g.Split = n
	return g
}

func stick(length, grade int) api.Stick { return api.Stick{Length: length, Grade: grade} }

// numbers are those from one on, before another one.
func numbers(from, to int) []int {
	var l []int
	for n := from; n < to; n++ {
		l = append(l, n)
	}
	return l
}

func wantFloat(t *testing.T, p api.Pattern, s api.Screen, want int) {
	t.Helper()
	if n, e := weave.Float(p, s); n != want || e != api.OK {
		t.Error(p, s, "is", n, e, "not", want)
	}
}

func wantLoose(t *testing.T, p api.Pattern, s api.Screen, want ...int) {
	t.Helper()
	if l, e := weave.Loose(p, s); !slices.Equal(l, want) || e != api.OK {
		t.Error(p, s, "is", l, e, "not", want)
	}
}

func wantFalls(t *testing.T, p api.Pattern, s api.Screen, want ...int) {
	t.Helper()
	if l, e := weave.Falls(p, s); !slices.Equal(l, want) || e != api.OK {
		t.Error(p, s, "is", l, e, "not", want)
	}
}

func wantLengths(t *testing.T, p api.Pattern, s api.Screen, g api.Gauge, want ...int) {
	t.Helper()
	if l, e := weave.Lengths(p, s, g); !slices.Equal(l, want) || e != api.OK {
		t.Error(p, s, g, "is", l, e, "not", want)
	}
}

// wantBundles looks for members of such lengths, each as the gauge asks for it.
func wantBundles(t *testing.T, p api.Pattern, s api.Screen, g api.Gauge, lengths ...int) {
	t.Helper()
	var want []api.Member
	for _, length := range lengths {
		want = append(want, api.Member{Length: length, Grade: g.Grade, Buy: g.Buy})
	}
	if m, e := weave.Bundles(p, s, g); !slices.Equal(m, want) || e != api.OK {
		t.Error(p, s, g, "is", m, e, "not", want)
	}
}

// wantMany looks for more bundles than there may be.
func wantMany(t *testing.T, p api.Pattern, s api.Screen, g api.Gauge) {
	t.Helper()
	if m, e := weave.Bundles(p, s, g); len(m) > 0 || e != api.ErrMany {
		t.Error(p, s, g, "is", m, e)
	}
	if l, n, e := weave.Made(p, s, g, nil); len(l) > 0 || n != 0 || e != api.ErrMany {
		t.Error(p, s, g, "is", l, n, e)
	}
}

func wantMade(t *testing.T, p api.Pattern, s api.Screen, g api.Gauge, l []api.Stick, cost int, plan ...int) {
	t.Helper()
	if got, n, e := weave.Made(p, s, g, l); !slices.Equal(got, plan) || n != cost || e != api.OK {
		t.Error(p, s, g, l, "is", got, n, e, "not", plan, cost)
	}
}

// TestExamples has the examples of the chapter.
func TestExamples(t *testing.T) {
	wantFloat(t, plain(), flat(4, 3), 1)
	wantFalls(t, plain(), flat(4, 3))
	wantLengths(t, plain(), flat(4, 3), example(), 34, 34, 34, 34, 46, 46, 46)
	wantLengths(t, plain(), round(4, 3), example(), 34, 34, 34, 34, 53, 53, 53)
	wantFloat(t, other(), flat(2, 2), 2)
	wantLoose(t, other(), flat(2, 2), 1, 2)
	wantFalls(t, other(), flat(2, 2), 1)
	wantBundles(t, plain(), flat(4, 3), example(), 34, 34, 46)
	wantMade(t, plain(), flat(4, 3), example(), []api.Stick{stick(100, 1), stick(120, 1), stick(150, 1)}, 150, -1, -1, -1)
}

// TestFloat has floats along upright strips and level ones, and round the screen (P8.1).
func TestFloat(t *testing.T) {
	for _, x := range []struct {
		p    api.Pattern
		s    api.Screen
		want int
	}{
		// One crossing, one column and one row.
		{pattern("o"), flat(1, 1), 1}, {pattern("u"), flat(1, 1), 1}, {pattern("o"), round(1, 1), 1}, {twill(), flat(1, 1), 1},
		{pattern("o"), flat(1, 5), 5}, {pattern("u"), flat(1, 5), 5}, {plain(), flat(1, 5), 1}, {pattern("o"), round(1, 5), 5},
		{pattern("o"), flat(5, 1), 5}, {pattern("u"), flat(5, 1), 5}, {plain(), flat(5, 1), 1}, {pattern("o"), round(5, 1), 5},
		// The longest one is over or under, along an upright strip or a level one, at the beginning, in the middle or at the end.
		{pattern("ouuuo"), flat(5, 1), 3}, {pattern("uooou"), flat(5, 1), 3}, {pattern("ooouo"), flat(5, 1), 3}, {pattern("ouooo"), flat(5, 1), 3}, {pattern("oouoo"), flat(5, 1), 2},
		{pattern("o", "u", "u", "u", "o"), flat(1, 5), 3}, {pattern("u", "o", "o", "o", "u"), flat(1, 5), 3}, {pattern("o", "o", "o", "u", "o"), flat(1, 5), 3}, {pattern("u", "o", "u", "u", "u"), flat(1, 5), 3},
		{pattern("ouou", "uouu", "ouou"), flat(4, 3), 3}, {pattern("ouou", "uuuo", "uuou"), flat(4, 3), 3},
		// The pattern comes again, or is not all in the screen.
		{twill(), flat(4, 4), 2}, {twill(), flat(24, 24), 2}, {twill(), flat(2, 1), 2}, {pattern("ouoo"), flat(24, 1), 3}, {pattern("ouoo"), flat(4, 1), 2},
		{pattern("ouuu"), flat(2, 1), 1}, {pattern("o", "u", "u", "u"), flat(1, 2), 1}, {pattern("o", "u", "u", "u"), flat(1, 8), 3}, {pattern("o", "u", "o"), flat(1, 4), 2},
		// Round the screen a float goes on from the last crossing to the first one, but not along an upright strip.
		{pattern("ouoo"), round(4, 1), 3}, {pattern("uouu"), round(4, 1), 3}, {pattern("ouou"), round(4, 1), 1}, {pattern("oouuo"), round(5, 1), 3}, {pattern("oouu"), round(4, 1), 2},
		{pattern("oouo"), round(4, 1), 3}, {pattern("oouuoo"), round(6, 1), 4}, {pattern("ouuuuo"), round(6, 1), 4}, {pattern("oouo"), round(8, 1), 3},
		{pattern("ou", "uo", "ou"), round(2, 3), 1}, {pattern("ou", "ou", "uo", "ou"), round(2, 4), 2}, {pattern("o", "u", "o"), round(1, 3), 1},
		// All the way round no crossing counts twice.
		{pattern("oooo"), round(4, 1), 4}, {pattern("u"), round(6, 1), 6}, {pattern("oo", "uu"), round(4, 3), 4},
		// Two columns are neighbours twice.
		{pattern("oo"), round(2, 1), 2}, {pattern("ou"), round(2, 1), 1}, {pattern("uu", "oo"), round(2, 2), 2},
	} {
		wantFloat(t, x.p, x.s, x.want)
	}
}

// TestLoose has strips that pass only over, or only under, and such that are held by one crossing (P8.2).
func TestLoose(t *testing.T) {
	for _, x := range []struct {
		p    api.Pattern
		s    api.Screen
		want []int
	}{
		{twill(), flat(4, 4), nil}, {layers(), flat(4, 4), nil}, {twill(), round(8, 3), nil},
		// A strip with one crossing is never held.
		{pattern("o"), flat(1, 1), []int{0, 1}}, {pattern("u"), round(1, 1), []int{0, 1}}, {plain(), flat(3, 1), []int{0, 1, 2}}, {plain(), flat(1, 3), []int{1, 2, 3}},
		{plain(), round(2, 1), []int{0, 1}}, {pattern("o", "u"), round(1, 2), []int{1, 2}},
		{pattern("o"), flat(3, 2), []int{0, 1, 2, 3, 4}}, {pattern("u"), flat(3, 2), []int{0, 1, 2, 3, 4}},
		{pattern("oo", "uu"), flat(3, 2), []int{3, 4}}, {pattern("ou"), flat(3, 2), []int{0, 1, 2}}, {pattern("oo", "uu"), round(4, 3), []int{4, 5, 6}},
		// One crossing is enough: the last one, the first one, and one in the middle.
		{pattern("ooo", "ooo", "oou"), flat(3, 3), []int{0, 1, 3, 4}}, {pattern("uoo", "ooo", "ooo"), flat(3, 3), []int{1, 2, 4, 5}}, {pattern("uuu", "uou", "uuu"), flat(3, 3), []int{0, 2, 3, 5}},
		// Only what is in the screen counts.
		{pattern("ooou"), flat(3, 2), []int{0, 1, 2, 3, 4}}, {pattern("oo", "oo", "uu"), flat(2, 2), []int{0, 1, 2, 3}}, {pattern("oo", "oo", "uu"), flat(2, 3), []int{2, 3, 4}},
		{pattern("ooou"), flat(4, 2), []int{0, 1, 2, 3}},
	} {
		wantLoose(t, x.p, x.s, x.want...)
	}
}

// TestFalls has strips that lift off alone, only with others, and not at all (P8.2).
func TestFalls(t *testing.T) {
	for _, x := range []struct {
		p    api.Pattern
		s    api.Screen
		want []int
	}{
		// All strips hang together, so that only all of them could be lifted.
		{plain(), flat(2, 2), nil}, {plain(), round(2, 2), nil}, {twill(), flat(4, 4), nil}, {twill(), flat(24, 24), nil}, {twill(), round(24, 1), []int{0}}, {twill(), round(24, 3), nil},
		{pattern("ouu", "uou", "uuo"), flat(3, 3), nil}, {pattern("ooo", "ouo", "uuu"), flat(3, 3), []int{5}},
		// Of one crossing one strip lifts off.
		{pattern("o"), flat(1, 1), []int{0}}, {pattern("u"), flat(1, 1), []int{1}}, {pattern("o"), round(1, 1), []int{0}}, {pattern("u"), round(1, 1), []int{1}},
		// One strip of each of several lists: the first one is told.
		{pattern("o"), flat(3, 2), []int{0}}, {pattern("u"), flat(3, 2), []int{3}}, {pattern("uoo"), flat(3, 2), []int{1}}, {pattern("uuo"), flat(3, 2), []int{2}},
		{pattern("oo", "uu", "uu"), flat(2, 3), []int{3}}, {pattern("oo", "oo", "uu"), flat(2, 3), []int{4}}, {pattern("oo", "uu"), round(4, 4), []int{5}},
		// One column, and one row.
		{plain(), flat(1, 2), []int{2}}, {plain(), flat(2, 1), []int{0}}, {pattern("uo"), flat(2, 1), []int{1}}, {pattern("uo"), flat(3, 1), []int{1}}, {pattern("u", "o"), flat(1, 4), []int{1}},
		// A strip lifts off though others hang together below it: an upright one, and a level one.
		{pattern("ouo", "uoo"), flat(3, 2), []int{2}}, {pattern("oou", "ouo"), flat(3, 2), []int{0}}, {pattern("ou", "uo", "uu"), flat(2, 3), []int{4}}, {pattern("uu", "ou", "uo"), flat(2, 3), []int{2}},
		// Nothing lifts off alone: four strips of eight do together, and those that lie below would only with them.
		{layers(), flat(4, 4), []int{0, 2, 4, 6}}, {layers(), round(4, 4), []int{0, 2, 4, 6}}, {layers(), flat(5, 4), []int{0, 2, 4, 5, 7}},
		// Four strips lie over a single one, or over two; or one lies over all that would hang together.
		{pattern("ouo", "uoo", "uuo"), flat(3, 3), []int{2}}, {pattern("ouu", "uou", "oou"), flat(3, 3), []int{0, 1, 3, 4}}, {pattern("ouu", "uou"), flat(3, 2), []int{0, 1, 3, 4}},
		{pattern("uou", "uuo"), flat(3, 2), []int{1, 2, 3, 4}}, {pattern("oo", "ou", "uo"), flat(2, 3), []int{0, 1, 3, 4}},
		// Only what is in the screen counts.
		{pattern("ouo", "uoo"), flat(2, 2), nil}, {pattern("ouo", "uoo"), flat(3, 1), []int{0}}, {layers(), flat(2, 2), []int{0}},
	} {
		wantFalls(t, x.p, x.s, x.want...)
	}
}

// TestLengths has neighbours that differ, and others, and laps (P8.3).
func TestLengths(t *testing.T) {
	g := api.Gauge{Pitch: 100, Bow: 10, Lap: 7, Split: 1}
	for _, x := range []struct {
		p    api.Pattern
		s    api.Screen
		want []int
	}{
		// One crossing has no neighbours, also round the screen.
		{pattern("o"), flat(1, 1), []int{100, 100}}, {pattern("u"), flat(1, 1), []int{100, 100}}, {pattern("o"), round(1, 1), []int{100, 107}},
		{pattern("o", "u"), round(1, 3), []int{320, 107, 107, 107}}, {pattern("o"), round(1, 2), []int{200, 107, 107}},
		// Two columns are neighbours twice.
		{pattern("ou"), flat(2, 1), []int{100, 100, 210}}, {pattern("ou"), round(2, 1), []int{100, 100, 227}}, {pattern("oo"), round(2, 1), []int{100, 100, 207}}, {pattern("ou", "uu"), round(2, 2), []int{210, 200, 227, 207}},
		// Two rows are not, nor is an upright strip lapped.
		{plain(), round(2, 2), []int{210, 210, 227, 227}}, {pattern("o", "u"), flat(1, 2), []int{210, 100, 100}},
		// The last crossing and the first one differ, or do not.
		{pattern("oouu"), flat(4, 1), []int{100, 100, 100, 100, 410}}, {pattern("oouu"), round(4, 1), []int{100, 100, 100, 100, 427}}, {pattern("ouuo"), flat(4, 1), []int{100, 100, 100, 100, 420}}, {pattern("ouuo"), round(4, 1), []int{100, 100, 100, 100, 427}},
		{pattern("oou"), flat(3, 1), []int{100, 100, 100, 310}}, {pattern("oou"), round(3, 1), []int{100, 100, 100, 327}}, {pattern("ouo"), round(3, 1), []int{100, 100, 100, 327}}, {pattern("uuu"), round(3, 1), []int{100, 100, 100, 307}},
		{pattern("oou"), flat(6, 1), []int{100, 100, 100, 100, 100, 100, 630}}, {pattern("oou"), round(6, 1), []int{100, 100, 100, 100, 100, 100, 647}},
		// Other columns, and other rows.
		{pattern("oou", "ouu", "uuu"), flat(3, 3), []int{310, 310, 300, 310, 310, 300}}, {pattern("oou", "ouu", "uuu"), flat(4, 4), []int{420, 420, 400, 420, 420, 420, 400, 420}},
		{twill(), flat(3, 2), []int{210, 200, 210, 310, 310}},
	} {
		wantLengths(t, x.p, x.s, g, x.want...)
	}
	// With Bow 0 the pattern does not matter, with Lap 0 a lap does not.
	wantLengths(t, twill(), round(4, 3), api.Gauge{Pitch: 100, Lap: 7, Split: 1}, 300, 300, 300, 300, 407, 407, 407)
	wantLengths(t, twill(), round(4, 3), api.Gauge{Pitch: 100, Bow: 1, Split: 1}, 301, 301, 301, 301, 402, 402, 402)
	wantLengths(t, twill(), round(4, 3), api.Gauge{Pitch: 100, Split: 1}, 300, 300, 300, 300, 400, 400, 400)
	wantLengths(t, twill(), flat(4, 3), api.Gauge{Pitch: 1, Lap: 1000, Split: 1}, 3, 3, 3, 3, 4, 4, 4)
	// Split, Grade and Buy do not matter.
	wantLengths(t, plain(), flat(2, 2), api.Gauge{Pitch: 9, Bow: 2, Split: 12, Grade: 3, Buy: 1000000}, 20, 20, 20, 20)
}

// TestBundles has as many strips of one length as Split, more, and fewer (P8.3).
func TestBundles(t *testing.T) {
	// All strips of a square screen are as long.
	for i, bundles := range []int{1, 1, 1, 2, 2, 2, 3, 3, 3, 4, 4, 4, 5, 5, 5, 6, 6, 6, 7, 7, 7, 8, 8, 8} {
		side := i + 1
		wantBundles(t, plain(), flat(side, side), split(6), slices.Repeat([]int{12*side - 2}, bundles)...)
	}
	for _, x := range []struct {
		p     api.Pattern
		s     api.Screen
		split int
		want  []int
	}{
		// Four upright strips of one length, and as many level ones as there are rows.
		{plain(), flat(4, 3), 1, []int{34, 34, 34, 34, 46, 46, 46}}, {plain(), flat(4, 3), 2, []int{34, 34, 46, 46}}, {plain(), flat(4, 3), 4, []int{34, 46}}, {plain(), flat(4, 3), 12, []int{34, 46}},
		{plain(), flat(3, 4), 3, []int{34, 34, 46}}, {plain(), flat(5, 4), 4, []int{46, 46, 58}}, {plain(), flat(3, 5), 4, []int{34, 34, 58}}, {plain(), flat(12, 13), 12, []int{142, 142, 154}}, {plain(), flat(13, 12), 12, []int{142, 142, 154}},
		// Lengths are in order, whichever strips have them.
		{plain(), round(2, 6), 6, []int{29, 70}}, {twill(), round(4, 4), 2, []int{42, 44, 49, 49}}, {pattern("ooo", "ouo", "uuu"), flat(3, 3), 2, []int{30, 32, 32, 34}},
		// Upright strips and level ones of one length share bundles.
		{plain(), flat(4, 4), 8, []int{46}}, {plain(), flat(4, 4), 7, []int{46, 46}}, {plain(), flat(4, 4), 5, []int{46, 46}},
		{pattern("o"), flat(1, 1), 1, []int{10, 10}}, {pattern("o"), flat(1, 1), 2, []int{10}}, {pattern("o"), round(1, 1), 2, []int{10, 15}},
		// As many as there may be: by one strip each, of one length, and of several.
		{plain(), flat(4, 4), 1, slices.Repeat([]int{46}, 8)}, {plain(), flat(24, 24), 6, slices.Repeat([]int{286}, 8)}, {plain(), flat(1, 7), 1, []int{10, 10, 10, 10, 10, 10, 10, 82}}, {plain(), flat(24, 21), 6, []int{250, 250, 250, 250, 286, 286, 286, 286}},
	} {
		wantBundles(t, x.p, x.s, split(x.split), x.want...)
	}
	for _, x := range []struct {
		s     api.Screen
		split int
	}{
		{flat(4, 5), 1}, {flat(5, 4), 1}, {flat(8, 1), 1}, {flat(1, 8), 1}, {flat(24, 24), 5}, {flat(24, 24), 1}, {flat(24, 23), 5}, {round(24, 24), 5}, {flat(9, 8), 2},
	} {
		wantMany(t, plain(), x.s, split(x.split))
	}
	// Eight lengths are as many as there may be; round the screen the level strips have others.
	stairs := pattern("oooooooo", "uooooooo", "ouoooooo", "uouooooo", "ououoooo", "uououooo", "ouououoo", "uouououo")
	wantBundles(t, stairs, flat(8, 8), split(12), 80, 82, 84, 86, 88, 90, 92, 94)
	wantMany(t, stairs, round(8, 8), split(12))
}

// TestMade has sticks that are good for bundles, such that cost more than new ones, and such that are good for none (P8.4).
func TestMade(t *testing.T) {
	// Two bundles of 200 and one of 300.
	p, s := pattern("o"), flat(3, 2)
	g := api.Gauge{Pitch: 100, Split: 2, Grade: 2, Buy: 60}
	wantBundles(t, p, s, g, 200, 200, 300)
	for _, x := range []struct {
		l    []api.Stick
		cost int
		plan []int
	}{
		{nil, 180, []int{-1, -1, -1}},
		// Just as good as it must be: too short, too long to be cheaper than a new one, of a grade that is too low.
		{[]api.Stick{stick(300, 2), stick(200, 2), stick(200, 3)}, 0, []int{1, 2, 0}},
		{[]api.Stick{stick(299, 2), stick(199, 2), stick(260, 3)}, 180, []int{-1, -1, -1}},
		{[]api.Stick{stick(359, 2), stick(259, 2), stick(200, 1)}, 178, []int{-1, 1, 0}},
		{[]api.Stick{stick(300, 1), stick(300, 0), stick(359, 3)}, 179, []int{-1, -1, 2}},
		{[]api.Stick{stick(20000, 3), stick(100, 3)}, 180, []int{-1, -1, -1}},
		// Each stick is good for one bundle.
		{[]api.Stick{stick(210, 2)}, 130, []int{-1, 0, -1}},
		{[]api.Stick{stick(310, 2), stick(250, 2), stick(205, 2), stick(320, 3)}, 65, []int{1, 2, 0}},
	} {
		wantMade(t, p, s, g, x.l, x.cost, x.plan...)
	}
	g.Buy = 0
	wantMade(t, p, s, g, []api.Stick{stick(300, 2), stick(200, 2), stick(200, 3)}, 0, -1, -1, -1)
	g.Buy = 1000000
	wantMade(t, p, s, g, []api.Stick{stick(20000, 2), stick(200, 1)}, 2019700, -1, -1, 0)
}

// TestMadeErrors has sticks that are not valid, and bundles that are too many (P8.4).
func TestMadeErrors(t *testing.T) {
	for _, l := range [][]api.Stick{{stick(99, 1)}, {stick(20001, 1)}, {stick(300, 4)}, {{Trunk: 6, Length: 300}}, make([]api.Stick, 1), slices.Repeat([]api.Stick{stick(300, 1)}, 17)} {
		if plan, n, e := weave.Made(plain(), flat(4, 3), example(), l); len(plan) > 0 || n != 0 || e != api.ErrSticks {
			t.Error(l, plan, n, e)
		}
		if plan, n, e := weave.Made(plain(), flat(4, 5), split(1), l); len(plan) > 0 || n != 0 || e != api.ErrMany {
			t.Error(l, plan, n, e)
		}
	}
	wantMade(t, plain(), flat(4, 3), example(), slices.Repeat([]api.Stick{stick(300, 0)}, 16), 150, -1, -1, -1)
}

// TestGreatest has screens of MaxStrips, and patterns of MaxWeave (P8.1 to P8.4).
func TestGreatest(t *testing.T) {
	// Over on and above the middle from the lower left to the upper right, and under below.
	steps := pattern("oooooooo", "ooooooou", "oooooouu", "ooooouuu", "oooouuuu", "ooouuuuu", "oouuuuuu", "ouuuuuuu")
	wantFloat(t, steps, flat(24, 24), 24)
	wantFloat(t, steps, round(24, 24), 24)
	wantLoose(t, steps, flat(24, 24), 0, 8, 16, 24, 32, 40)
	wantFalls(t, steps, flat(24, 24), 0)
	g := api.Gauge{Pitch: 500, Bow: 100, Lap: 1000, Split: 12, Grade: 3, Buy: 1000000}
	want := slices.Repeat(append([]int{12000}, slices.Repeat([]int{12500}, 7)...), 3)
	want = append(want, slices.Repeat(append([]int{13000}, slices.Repeat([]int{13600}, 7)...), 3)...)
	wantLengths(t, steps, round(24, 24), g, want...)
	wantBundles(t, steps, round(24, 24), g, 12000, 12500, 12500, 13000, 13600, 13600)
	wantMade(t, steps, round(24, 24), g, []api.Stick{stick(20000, 3), stick(13599, 3), stick(13600, 2)}, 4000000+599+6400, -1, -1, -1, 1, -1, 0)
	// Nothing could be longer than this.
	wantLengths(t, plain(), round(24, 24), g, append(slices.Repeat([]int{14300}, 24), slices.Repeat([]int{15400}, 24)...)...)
	wantBundles(t, plain(), round(24, 24), g, 14300, 14300, 15400, 15400)
	// Everything lies over everything: none is held.
	wantLoose(t, pattern("u"), flat(24, 24), numbers(0, 48)...)
	wantFalls(t, pattern("u"), flat(24, 24), 24)
	wantFloat(t, pattern("u"), round(24, 24), 24)
}
