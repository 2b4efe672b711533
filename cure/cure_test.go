package cure_test

import (
	"math"
	"slices"
	"testing"

	"canebrake/api"
	"canebrake/cure"
)

func span(lo, hi int) api.Span { return api.Span{Lo: lo, Hi: hi} }

func vat(water, borax, lo, hi, need int, poles ...[]int) api.Batch {
	return api.Batch{Water: water, Borax: borax, Poles: poles, Spread: span(lo, hi), Need: need}
}

func drying(wetLo, wetHi, lossLo, lossHi, most int) api.Drying {
	return api.Drying{Wet: span(wetLo, wetHi), Loss: span(lossLo, lossHi), Most: most}
}

func pond(lo, hi, limit int) api.Pond { return api.Pond{Out: span(lo, hi), Limit: limit} }

// example is the batch of the chapter's examples.
func example(lo, hi int) api.Batch { return vat(10, 1000, lo, hi, 20, []int{0, 0}) }

func samePoles(a, b [][]int) bool { return slices.EqualFunc(a, b, slices.Equal[[]int]) }

func wantRun(t *testing.T, b api.Batch, spread, hours, borax int, poles ...[]int) {
	t.Helper()
	n, p, e := cure.Run(b, spread, hours)
	if n != borax || !samePoles(p, poles) || e != api.OK {
		t.Error(b, spread, hours, "is", n, p, e, "not", borax, poles)
	}
}

func wantTreated(t *testing.T, b api.Batch, hours int, known ...uint8) {
	t.Helper()
	if l, e := cure.Treated(b, hours); !slices.Equal(l, known) || e != api.OK {
		t.Error(b, hours, "is", l, e, "not", known)
	}
}

func wantReady(t *testing.T, b api.Batch, hours int, e api.Errno) {
	t.Helper()
	if n, f := cure.Ready(b); n != hours || f != e {
		t.Error(b, "is", n, f, "not", hours, e)
	}
}

func wantDry(t *testing.T, d api.Drying, days int, e api.Errno) {
	t.Helper()
	if n, f := cure.Dry(d); n != days || f != e {
		t.Error(d, "is", n, f, "not", days, e)
	}
}

func wantLevels(t *testing.T, p api.Pond, drains []int, first int, levels ...api.Span) {
	t.Helper()
	l, n, e := cure.Levels(p, drains)
	if !slices.Equal(l, levels) || n != first || e != api.OK {
		t.Error(p, drains, "is", l, n, e, "not", levels, first)
	}
}

// TestExamples has the examples of the chapter.
func TestExamples(t *testing.T) {
	b := example(200, 200)
	wantRun(t, b, 200, 1, 980, []int{20, 0})
	wantRun(t, b, 200, 2, 965, []int{31, 4})
	wantRun(t, b, 200, 3, 952, []int{39, 9})
	wantRun(t, b, 200, 4, 941, []int{44, 15})
	wantRun(t, b, 200, 5, 931, []int{49, 20})
	wantTreated(t, example(249, 250), 3, api.KnownNo)
	wantTreated(t, example(249, 250), 4, api.KnownOpen)
	wantTreated(t, example(249, 250), 5, api.KnownYes)
	wantReady(t, example(249, 250), 5, api.OK)
	wantDry(t, drying(800, 1000, 100, 200, 600), 5, api.OK)
	wantLevels(t, pond(300, 500, 200), []int{150, 100, 0}, 1, span(150, 150), span(175, 205), span(88, 144))
}

// TestRun has hours that are easily told by hand (P4.1).
func TestRun(t *testing.T) {
	// No hours: nothing flows.
	wantRun(t, example(1, 250), 7, 0, 1000, []int{0, 0})
	wantRun(t, vat(10, 100000, 250, 250, 1, []int{1000}, []int{0, 3}), 250, 0, 100000, []int{1000}, []int{0, 3})
	// A wall of one cell: a tenth of 100 flows in, then of 89, as the strength is 99.
	wantRun(t, vat(1000, 100000, 100, 100, 1, []int{0}), 100, 1, 99990, []int{10})
	wantRun(t, vat(1000, 100000, 100, 100, 1, []int{0}), 100, 2, 99982, []int{18})
	// The strength is rounded down: 199 grams in 10 litres are 19, of which a quarter is 4.
	wantRun(t, vat(10, 199, 250, 250, 1, []int{0}), 250, 1, 195, []int{4})
	wantRun(t, vat(10, 200, 250, 250, 1, []int{0}), 250, 1, 195, []int{5})
	// So is a flow, also one back into the vat, and one out of the core: 3 of 15, 3 of 19.
	wantRun(t, vat(10, 150, 200, 200, 1, []int{0}), 200, 1, 147, []int{3})
	wantRun(t, vat(10, 190, 200, 200, 1, []int{0}), 200, 1, 187, []int{3})
	wantRun(t, vat(10, 0, 200, 200, 1, []int{15}), 200, 1, 3, []int{12})
	wantRun(t, vat(10, 0, 200, 200, 1, []int{19}), 200, 1, 3, []int{16})
	wantRun(t, vat(10, 190, 200, 200, 1, []int{19, 38}), 200, 1, 190, []int{22, 35})
	wantRun(t, vat(10, 190, 200, 200, 1, []int{19, 34}), 200, 1, 190, []int{22, 31})
	// Nothing flows between equals, nor if there is nothing.
	wantRun(t, vat(10, 500, 250, 250, 1, []int{50, 50, 50}), 250, 300, 500, []int{50, 50, 50})
	wantRun(t, vat(10, 0, 250, 250, 1, []int{0, 0}), 250, 300, 0, []int{0, 0})
	// All flows are told by what there is at the beginning of an hour: 10 into the first pole do not make less for the second one, nor does what comes into a cell flow on.
	wantRun(t, vat(10, 1000, 100, 100, 1, []int{0}, []int{0}, []int{0, 0}, []int{50, 50, 100}), 100, 1, 965, []int{10}, []int{10}, []int{10, 0}, []int{55, 55, 95})
}

// TestRunBack has borax that flows back until too little is left to flow (P4.1).
func TestRunBack(t *testing.T) {
	b := vat(10, 0, 250, 250, 1, []int{1000})
	wantRun(t, b, 250, 1, 250, []int{750})
	wantRun(t, b, 250, 2, 431, []int{569}) // 725, a quarter is 181
	wantRun(t, b, 250, 3, 562, []int{438}) // 43, 526, 131
	// The strength is 90, and a quarter of 3 is nothing.
	wantRun(t, b, 250, 300, 907, []int{93})
	// A vat that has all that may be put into it gets more.
	wantRun(t, vat(10000, 100000, 250, 250, 1, []int{1000}), 250, 1, 100247, []int{753})
	// A cell gets more than may be in it at first.
	wantRun(t, vat(10, 100000, 250, 250, 1, []int{1000}), 250, 1, 97750, []int{3250})
}

// TestRunGreatest has the most poles with the most cells (P4.1).
func TestRunGreatest(t *testing.T) {
	b := vat(10, 4000, 100, 250, 1, []int{0, 0, 0, 0, 0, 0}, []int{100, 200, 300, 400, 500, 600}, []int{400, 400, 400, 400, 400, 400}, []int{1000, 0, 1000, 0, 1000, 0})
	wantRun(t, b, 100, 1, 3990, []int{40, 0, 0, 0, 0, 0}, []int{140, 200, 300, 400, 500, 590}, []int{400, 400, 400, 400, 400, 400}, []int{840, 200, 800, 200, 800, 100})
	// All comes to be much the same after MaxSoak hours: 11,500 grams in 24 cells and 10 litres.
	n, p, e := cure.Run(b, 250, 300)
	total := n
	for _, cells := range p {
		for _, grams := range cells {
			total += grams
			if grams < 317 || grams > 359 {
				t.Error(grams)
			}
		}
	}
	if e != api.OK || total != 4000+2100+2400+3000 {
		t.Error(n, p, e)
	}
}

// TestRunArguments has all spreads and hours about the ends of their spans (P4.1).
func TestRunArguments(t *testing.T) {
	for _, b := range []api.Batch{example(1, 250), example(100, 100), example(100, 103), example(1, 1), example(250, 250)} {
		for _, spread := range []int{math.MinInt, -1, 0, 1, 2, 99, 100, 101, 102, 103, 104, 249, 250, 251, 1 << 32, math.MaxInt} {
			for _, hours := range []int{math.MinInt, -1, 0, 1, 299, 300, 301, 1 << 32, math.MaxInt} {
				n, p, e := cure.Run(b, spread, hours)
				if spread < b.Spread.Lo || spread > b.Spread.Hi || hours < 0 || hours > 300 {
					if n != 0 || len(p) != 0 || e != api.ErrArg {
						t.Error(b, spread, hours, n, p, e)
					}
				} else if e != api.OK || len(p) != 1 {
					t.Error(b, spread, hours, n, p, e)
				}
			}
		}
	}
}

// TestTreated has cores that are reached for a while, and spreads of which only some reach them (P4.2).
func TestTreated(t *testing.T) {
	// Before the first hour, and less ever after.
	lost := vat(10, 0, 250, 250, 1000, []int{1000}, []int{999})
	for _, hours := range []int{0, 1, 300} {
		wantTreated(t, lost, hours, api.KnownYes, api.KnownNo)
	}
	// 6 flow into the core in the first hour, so that it has 50; it has less later.
	for hours, want := range []uint8{api.KnownNo, api.KnownYes, api.KnownYes, api.KnownYes, api.KnownYes, api.KnownYes} {
		wantTreated(t, vat(10, 0, 100, 100, 50, []int{104, 44}), hours, want)
	}
	wantTreated(t, vat(10, 0, 100, 100, 50, []int{104, 44}), 300, api.KnownYes)
	if _, p, _ := cure.Run(vat(10, 0, 100, 100, 50, []int{104, 44}), 100, 300); p[0][1] >= 50 {
		t.Error("nothing was lost", p)
	}
	// One gram too few.
	wantTreated(t, vat(10, 0, 100, 100, 51, []int{104, 44}), 1, api.KnownNo)
	// Only cores count: the last cells.
	wantTreated(t, vat(10, 0, 1, 1, 500, []int{1000, 0, 499}, []int{0, 0, 500}, []int{499}, []int{500}), 0, api.KnownNo, api.KnownYes, api.KnownNo, api.KnownYes)
	// At the spreads 66 and 68 the core has 58 at most; at 67 it has 59 after five hours.
	one := vat(20, 900, 66, 68, 59, []int{6, 96, 52})
	wantTreated(t, one, 4, api.KnownNo)
	wantTreated(t, one, 5, api.KnownOpen)
	wantTreated(t, one, 300, api.KnownOpen)
	// At 165 and at 166 it never has as much as at those below and above.
	two := vat(30, 0, 162, 167, 33, []int{67, 76, 0})
	wantTreated(t, two, 300, api.KnownOpen)
	two.Spread = span(162, 164)
	wantTreated(t, two, 6, api.KnownNo)
	wantTreated(t, two, 7, api.KnownYes)
	two.Spread = span(165, 166)
	wantTreated(t, two, 300, api.KnownNo)
	two.Spread = span(164, 165)
	wantTreated(t, two, 300, api.KnownOpen)
	// The widest span: at 1 nothing flows, at 100 there is enough.
	wide := vat(10, 1000, 1, 250, 10, []int{0}, []int{0, 10})
	wantTreated(t, wide, 0, api.KnownNo, api.KnownYes)
	wantTreated(t, wide, 1, api.KnownOpen, api.KnownYes)
	wantTreated(t, wide, 300, api.KnownOpen, api.KnownYes)
	for _, hours := range []int{math.MinInt, -1, 301, math.MaxInt} {
		if l, e := cure.Treated(wide, hours); len(l) != 0 || e != api.ErrArg {
			t.Error(hours, l, e)
		}
	}
}

// TestReady has cores that are reached at once, late, or never (P4.2).
func TestReady(t *testing.T) {
	wantReady(t, vat(10, 0, 1, 250, 1000, []int{1000}, []int{0, 1000}), 0, api.OK)
	wantReady(t, vat(10, 0, 1, 250, 1000, []int{1000}, []int{0, 999}), 0, api.ErrNone)
	wantReady(t, vat(10, 0, 250, 250, 1, []int{0}), 0, api.ErrNone)
	// The last pole counts, whichever it is: 10 and 19 after two hours, 27 after three.
	wantReady(t, vat(1000, 100000, 100, 100, 25, []int{25}, []int{0}), 3, api.OK)
	wantReady(t, vat(1000, 100000, 100, 100, 25, []int{0}, []int{25}), 3, api.OK)
	wantReady(t, vat(1000, 100000, 100, 100, 10, []int{0}), 1, api.OK)
	wantReady(t, vat(1000, 100000, 100, 100, 11, []int{0}), 2, api.OK)
	// A spread is enough at which it is never reached, the first one or the last one or one between.
	wantReady(t, vat(1000, 100000, 1, 250, 10, []int{0}), 0, api.ErrNone)
	two := vat(30, 0, 162, 164, 33, []int{67, 76, 0})
	wantReady(t, two, 7, api.OK)
	two.Spread = span(162, 167)
	wantReady(t, two, 0, api.ErrNone)
	// At 132 it takes an hour more than at 130, 131 and 133.
	slow := vat(30, 1600, 130, 133, 21, []int{0, 68, 0, 6})
	wantReady(t, slow, 38, api.OK)
	slow.Spread = span(130, 131)
	wantReady(t, slow, 37, api.OK)
	slow.Spread = span(133, 133)
	wantReady(t, slow, 37, api.OK)
	// The greatest spread may be the slowest.
	wantReady(t, vat(20, 1100, 208, 214, 26, []int{0, 71, 0}), 7, api.OK)
	wantReady(t, vat(20, 1100, 208, 211, 26, []int{0, 71, 0}), 6, api.OK)
	// In MaxSoak hours, and in one more.
	wantReady(t, vat(100, 30000, 13, 13, 63, []int{0, 0, 0}), 300, api.OK)
	wantReady(t, vat(100, 30000, 18, 18, 103, []int{0, 0, 0}), 298, api.OK)
	wantReady(t, vat(100, 30000, 18, 18, 104, []int{0, 0, 0}), 0, api.ErrNone)
	wantTreated(t, vat(100, 30000, 18, 18, 104, []int{0, 0, 0}), 300, api.KnownNo)
}

// bound is a change of a batch by a number, and the range in which the batch stays valid.
type bound struct {
	least, most int
	set         func(b *api.Batch, n int)
}

func bounds() []bound {
	return []bound{
		{10, 10000, func(b *api.Batch, n int) { b.Water = n }},
		{0, 100000, func(b *api.Batch, n int) { b.Borax = n }},
		{0, 1000, func(b *api.Batch, n int) { b.Poles[0][0] = n }},
		{0, 1000, func(b *api.Batch, n int) { b.Poles[1][0] = n }},
		{0, 1000, func(b *api.Batch, n int) { b.Poles[1][1] = n }},
		{0, 1000, func(b *api.Batch, n int) { b.Poles[1][2] = n }},
		{1, 120, func(b *api.Batch, n int) { b.Spread.Lo = n }},
		{110, 250, func(b *api.Batch, n int) { b.Spread.Hi = n }},
		{1, 250, func(b *api.Batch, n int) { b.Spread = span(n, n) }},
		{1, 1000, func(b *api.Batch, n int) { b.Need = n }},
	}
}

// numbers are those at the ends of a range, and others far from it.
func numbers(least, most int) []int {
	return []int{least - 1, least, least + 1, most - 1, most, most + 1, math.MinInt, math.MinInt + 1, -1 << 32, 1 << 32, math.MaxInt - 1, math.MaxInt}
}

// wantCheck asks all functions whether a batch is valid.
func wantCheck(t *testing.T, b api.Batch, valid bool) {
	t.Helper()
	want := api.OK
	if !valid {
		want = api.ErrBatch
	}
	_, _, e := cure.Run(b, b.Spread.Lo, 0)
	_, f := cure.Treated(b, 0)
	_, g := cure.Ready(b)
	if g == api.ErrNone && valid {
		g = api.OK
	}
	if c := cure.Check(b); c != want || e != want || f != want || g != want {
		t.Error(b, "is", c, e, f, g, "not", want)
	}
}

// TestCheck sets each number of a batch to the ends of its range, and beyond (P4.1, R5).
func TestCheck(t *testing.T) {
	sound := func() api.Batch { return vat(20, 2000, 110, 120, 15, []int{5}, []int{10, 0, 4}) }
	wantCheck(t, sound(), true)
	for i, x := range bounds() {
		for _, n := range numbers(x.least, x.most) {
			b := sound()
			x.set(&b, n)
			if valid := n >= x.least && n <= x.most; (cure.Check(b) == api.OK) != valid {
				t.Error("bound", i, n)
			} else {
				wantCheck(t, b, valid)
			}
		}
	}
}

// TestCheckLists has lists of all lengths (P4.1).
func TestCheckLists(t *testing.T) {
	for poles := range 7 {
		b := vat(10, 0, 1, 1, 1)
		for range poles {
			b.Poles = append(b.Poles, []int{0})
		}
		wantCheck(t, b, poles >= 1 && poles <= 4)
		for pole := range poles {
			for cells := range 9 {
				b.Poles[pole] = make([]int, cells)
				wantCheck(t, b, poles <= 4 && cells >= 1 && cells <= 6)
			}
			b.Poles[pole] = []int{0}
		}
	}
	// Each cell of each pole counts.
	for pole := range 4 {
		for cell := range 6 {
			for _, n := range []int{-1, 1000, 1001} {
				b := vat(10, 0, 1, 1, 1, make([]int, 6), make([]int, 6), make([]int, 6), make([]int, 6))
				b.Poles[pole][cell] = n
				wantCheck(t, b, n == 1000)
			}
		}
	}
	wantCheck(t, vat(10, 0, 1, 1, 1, make([]int, 1<<20)), false)
	wantCheck(t, vat(10, 0, 1, 1, 1, make([][]int, 1<<16)...), false)
}

// TestDry has poles that are dry at once, late, or never (P4.3).
func TestDry(t *testing.T) {
	wantDry(t, drying(0, 0, 0, 0, 0), 0, api.OK)
	wantDry(t, drying(0, 700, 0, 0, 700), 0, api.OK)
	wantDry(t, drying(0, 700, 0, 1000, 699), 0, api.ErrNone)
	wantDry(t, drying(700, 700, 1000, 1000, 0), 1, api.OK)
	wantDry(t, drying(0, 1000, 1, 1000, 999), 1, api.OK)
	// The wettest poles count, and the least loss: 1000, 500, 250, 125, 63.
	wantDry(t, drying(0, 1000, 500, 1000, 125), 3, api.OK)
	wantDry(t, drying(0, 1000, 500, 1000, 124), 4, api.OK)
	wantDry(t, drying(0, 1000, 500, 1000, 63), 4, api.OK)
	wantDry(t, drying(0, 1000, 500, 1000, 62), 5, api.OK)
	// Half of 1 is nothing, so 1 stays.
	wantDry(t, drying(1, 1000, 500, 500, 1), 10, api.OK)
	wantDry(t, drying(1, 1000, 500, 500, 0), 0, api.ErrNone)
	// From 900 on one goes each day, as long as there are 500: that many days, and one more.
	wantDry(t, drying(0, 900, 2, 1000, 536), 364, api.OK)
	wantDry(t, drying(0, 900, 2, 1000, 535), 365, api.OK)
	wantDry(t, drying(0, 900, 2, 1000, 534), 0, api.ErrNone)
}

// TestDryBounds sets each number of a drying to the ends of its range, and beyond (P4.3, R5).
func TestDryBounds(t *testing.T) {
	for i, x := range []struct {
		least, most int
		set         func(d *api.Drying, n int)
	}{
		{0, 1000, func(d *api.Drying, n int) { d.Wet = span(n, n) }},
		{0, 900, func(d *api.Drying, n int) { d.Wet.Lo = n }},
		{800, 1000, func(d *api.Drying, n int) { d.Wet.Hi = n }},
		{0, 1000, func(d *api.Drying, n int) { d.Loss = span(n, n) }},
		{0, 600, func(d *api.Drying, n int) { d.Loss.Lo = n }},
		{500, 1000, func(d *api.Drying, n int) { d.Loss.Hi = n }},
		{0, 1000, func(d *api.Drying, n int) { d.Most = n }},
	} {
		for _, n := range numbers(x.least, x.most) {
			d := drying(800, 900, 500, 600, 100)
			x.set(&d, n)
			days, e := cure.Dry(d)
			if valid := n >= x.least && n <= x.most; valid == (e == api.ErrDry) || e != api.OK && days != 0 {
				t.Error("bound", i, n, days, e)
			}
		}
	}
}

// TestLevels has ponds that keep all, or nothing, and levels about the limit (P4.4).
func TestLevels(t *testing.T) {
	wantLevels(t, pond(0, 1000, 0), nil, -1)
	wantLevels(t, pond(300, 500, 0), []int{}, -1)
	// All stays, or all goes.
	wantLevels(t, pond(0, 0, 100), []int{50, 50, 1, 0}, 2, span(50, 50), span(100, 100), span(101, 101), span(101, 101))
	wantLevels(t, pond(1000, 1000, 50), []int{50, 7, 0, 51}, 3, span(50, 50), span(7, 7), span(0, 0), span(51, 51))
	wantLevels(t, pond(0, 1000, 100), []int{50, 50, 1, 0}, 2, span(50, 50), span(50, 100), span(1, 101), span(0, 101))
	// What goes is rounded down: a tenth of 19 is 1, of 9 nothing.
	wantLevels(t, pond(100, 100, 1000000), []int{19, 0, 0}, -1, span(19, 19), span(18, 18), span(17, 17))
	wantLevels(t, pond(100, 100, 1000000), []int{9, 0, 0}, -1, span(9, 9), span(9, 9), span(9, 9))
	// What is drained on a day goes from the next one on.
	wantLevels(t, pond(500, 500, 99), []int{0, 100, 100}, 1, span(0, 0), span(100, 100), span(150, 150))
	// Just at the limit, and just above: of the greatest level alone.
	wantLevels(t, pond(300, 500, 205), []int{150, 100, 0}, -1, span(150, 150), span(175, 205), span(88, 144))
	wantLevels(t, pond(300, 500, 204), []int{150, 100, 0}, 1, span(150, 150), span(175, 205), span(88, 144))
	wantLevels(t, pond(300, 500, 150), []int{150, 100, 0}, 1, span(150, 150), span(175, 205), span(88, 144))
	wantLevels(t, pond(300, 500, 149), []int{150, 100, 0}, 0, span(150, 150), span(175, 205), span(88, 144))
	wantLevels(t, pond(0, 1000, 0), []int{0, 0}, -1, span(0, 0), span(0, 0))
}

// TestLevelsGreatest drains the most on the most days (P4.4, R5).
func TestLevelsGreatest(t *testing.T) {
	drains := slices.Repeat([]int{100000}, 40)
	levels := make([]api.Span, 40)
	for day := range levels {
		levels[day] = span(100000, 100000*(day+1))
	}
	wantLevels(t, pond(0, 1000, 1000000), drains, 10, levels...)
	wantLevels(t, pond(1000, 1000, 1000000), drains, -1, slices.Repeat([]api.Span{span(100000, 100000)}, 40)...)
}

// TestLevelsBounds sets each number of a pond, and of its drains, to the ends of its range, and beyond (P4.4, R5).
func TestLevelsBounds(t *testing.T) {
	wantError := func(p api.Pond, drains []int, valid bool) {
		t.Helper()
		l, n, e := cure.Levels(p, drains)
		if valid != (e == api.OK) || !valid && (e != api.ErrPond || len(l) != 0 || n != 0) {
			t.Error(p, drains, l, n, e)
		}
	}
	for _, n := range numbers(0, 1000) {
		wantError(pond(n, n, 5), nil, n >= 0 && n <= 1000)
	}
	for _, n := range numbers(0, 500) {
		wantError(pond(n, 500, 5), nil, n >= 0 && n <= 500)
	}
	for _, n := range numbers(300, 1000) {
		wantError(pond(300, n, 5), []int{1}, n >= 300 && n <= 1000)
	}
	for _, n := range numbers(0, 1000000) {
		wantError(pond(300, 500, n), []int{1}, n >= 0 && n <= 1000000)
	}
	for _, n := range numbers(0, 100000) {
		for day := range 3 {
			drains := []int{1, 2, 3}
			drains[day] = n
			wantError(pond(300, 500, 5), drains, n >= 0 && n <= 100000)
		}
	}
	for days := range 45 {
		wantError(pond(300, 500, 5), make([]int, days), days <= 40)
	}
	wantError(pond(300, 500, 5), make([]int, 1<<20), false)
}
