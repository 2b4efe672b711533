package grade_test

import (
	"math"
	"slices"
	"testing"

	"canebrake/api"
	"canebrake/grade"
)

func span(lo, hi int) api.Span { return api.Span{Lo: lo, Hi: hi} }

// alike is a span for each section, the same one.
func alike(lo, hi int) [3]api.Span { return [3]api.Span{span(lo, hi), span(lo, hi), span(lo, hi)} }

// grading is that of the chapter's examples.
func grading() api.Grading {
	return api.Grading{Grades: []api.Grade{{Age: 2, Wall: 4, Stress: alike(20000, 60000)}, {Age: 3, Wall: 8, Stress: alike(40000, 90000)}}, Vary: 5000}
}

// pole has the areas 2,700, 1,728 and 1,248.
func pole(id, cut, shot int) api.Pole {
	return api.Pole{Id: id, Clone: 7, Cut: cut, Shot: shot, Girths: [3]int{100, 80, 60}, Walls: [3]int{10, 8, 8}}
}

func held(id, pole, section, force int) api.Test {
	return api.Test{Id: id, Pole: pole, Section: section, Force: force, Held: true}
}

func broke(id, pole, section, force int) api.Test {
	return api.Test{Id: id, Pole: pole, Section: section, Force: force}
}

// sheet has the poles of the chapter's examples: 1 and 2 are of the grade 2, 3 is of the grade 1.
func sheet(tests ...api.Test) api.Sheet {
	return api.Sheet{Poles: []api.Pole{pole(1, 105, 102), pole(2, 105, 102), pole(3, 105, 103)}, Tests: tests}
}

// example is the sheet of the chapter's examples, with its tests.
func example() api.Sheet { return sheet(held(4, 1, 0, 135000), broke(5, 2, 0, 162000)) }

// with is a sheet with tests in place of those that it has.
func with(s api.Sheet, tests ...api.Test) api.Sheet {
	s.Tests = tests
	return s
}

func wantGrade(t *testing.T, s api.Sheet, g api.Grading, pole, want int) {
	t.Helper()
	if n, e := grade.Grade(s, g, pole); n != want || e != api.OK {
		t.Error(s, g, pole, "is", n, e, "not", want)
	}
}

func wantStrength(t *testing.T, s api.Sheet, g api.Grading, pole, section int, want api.Span) {
	t.Helper()
	if n, e := grade.Strength(s, g, pole, section); n != want || e != api.OK {
		t.Error(s, g, pole, section, "is", n, e, "not", want)
	}
}

func wantNoStrength(t *testing.T, s api.Sheet, g api.Grading, pole, section int, want api.Errno) {
	t.Helper()
	if n, e := grade.Strength(s, g, pole, section); n != span(0, 0) || e != want {
		t.Error(s, g, pole, section, "is", n, e, "not", want)
	}
}

func wantClash(t *testing.T, s api.Sheet, g api.Grading, want ...int) {
	t.Helper()
	if l, e := grade.Clash(s, g); !slices.Equal(l, want) || e != api.OK {
		t.Error(s, g, "is", l, e, "not", want)
	}
}

// wantKnown takes what Trace or Fit returns.
func wantKnown(t *testing.T, l []uint8, e api.Errno, want ...uint8) {
	t.Helper()
	if !slices.Equal(l, want) || e != api.OK {
		t.Error("is", l, e, "not", want)
	}
}

// TestExamples has the examples of the chapter.
func TestExamples(t *testing.T) {
	wantGrade(t, example(), grading(), 1, 2)
	wantGrade(t, example(), grading(), 3, 1)
	wantStrength(t, example(), grading(), 1, 0, span(135000, 175497))
	wantStrength(t, example(), grading(), 2, 0, span(121500, 161997))
	wantStrength(t, example(), grading(), 3, 0, span(54000, 162000))
	wantClash(t, example(), grading())
	wantClash(t, sheet(append(example().Tests, broke(6, 2, 0, 118800))...), grading(), 4, 6)
	// Of those that shot in 104 none are ripe; 1 of 102 and 2 of 103 are all that were cut.
	grove := api.Grove{Id: 7, Habit: api.Habit{Ripe: 2, Dies: 4}, First: 104, Start: []int{5, 2, 1, 0, 0}, Seasons: []api.Season{{Cut: 3}}}
	l, e := grade.Trace(example(), grading(), []api.Grove{grove})
	wantKnown(t, l, e, api.KnownOpen, api.KnownOpen, api.KnownYes)
}

// TestGrade has poles whose years and walls are just enough, and just too few (P5.1).
func TestGrade(t *testing.T) {
	g := api.Grading{Grades: []api.Grade{{Age: 1, Wall: 4, Stress: alike(1, 1)}, {Age: 3, Wall: 4, Stress: alike(1, 1)}, {Age: 3, Wall: 9, Stress: alike(1, 1)}}}
	one := func(years int, walls ...int) api.Sheet {
		p := pole(5, 100+years, 100)
		p.Walls = [3]int(walls)
		return api.Sheet{Poles: []api.Pole{p}}
	}
	for i, x := range []struct{ years, foot, middle, top, want int }{
		{0, 9, 9, 9, 0}, {1, 9, 9, 9, 1}, {2, 9, 9, 9, 1}, {3, 9, 9, 9, 3}, {4, 9, 9, 9, 3}, {900, 30, 30, 30, 3},
		{3, 8, 9, 9, 2}, {3, 9, 8, 9, 2}, {3, 9, 9, 8, 2}, {3, 4, 4, 4, 2}, {2, 4, 30, 30, 1},
		{3, 3, 9, 9, 0}, {3, 9, 3, 9, 0}, {3, 9, 9, 3, 0}, {1, 3, 9, 9, 0}, {0, 1, 1, 1, 0}, {6, 1, 1, 1, 0},
	} {
		if n, e := grade.Grade(one(x.years, x.foot, x.middle, x.top), g, 5); n != x.want || e != api.OK {
			t.Error(i, n, e)
		}
	}
	// Of grades that ask for the same it is the greatest one.
	g.Grades = slices.Repeat(g.Grades[:1], 3)
	wantGrade(t, one(1, 4, 4, 4), g, 5, 3)
	wantGrade(t, one(1, 4, 3, 4), g, 5, 0)
	// The least grade that there is takes every pole, the greatest one only those of six years with the thickest walls.
	g.Grades = []api.Grade{{Age: 0, Wall: 1, Stress: alike(1, 1)}, {Age: 6, Wall: 60, Stress: alike(1, 1)}}
	thick := one(6, 60, 60, 60)
	thick.Poles[0].Girths = [3]int{120, 120, 120}
	wantGrade(t, thick, g, 5, 2)
	thick.Poles[0].Shot++
	wantGrade(t, thick, g, 5, 1)
	wantGrade(t, one(0, 1, 1, 1), g, 5, 1)
	// From the first year to the last one.
	thick.Poles[0].Shot, thick.Poles[0].Cut = 0, 3000
	wantGrade(t, thick, g, 5, 2)
	// Whether tests contradict each other does not matter.
	wantGrade(t, sheet(held(1, 1, 0, 1000000), broke(2, 3, 2, 1)), grading(), 1, 2)
}

// TestNoSuchPole asks for Ids that no pole has (P5.1, P5.2).
func TestNoSuchPole(t *testing.T) {
	for _, s := range []api.Sheet{{}, example(), sheet(held(1, 1, 0, 1000000))} {
		for _, id := range []int{math.MinInt, -1, 0, 4, 9999, 10000, 1<<32 + 1, math.MaxInt} {
			for _, section := range []int{-1, 0, 3} {
				wantNoStrength(t, s, grading(), id, section, api.ErrNone)
			}
			if n, e := grade.Grade(s, grading(), id); n != 0 || e != api.ErrNone {
				t.Error(s, id, n, e)
			}
		}
	}
	far := api.Sheet{Poles: []api.Pole{pole(0, 105, 102), pole(9999, 105, 103)}}
	wantGrade(t, far, grading(), 0, 2)
	wantGrade(t, far, grading(), 9999, 1)
}

// TestStrength has a test or two of poles of the chapter's grading (P5.2).
func TestStrength(t *testing.T) {
	for i, x := range []struct {
		tests         []api.Test
		pole, section int
		want          api.Span
	}{
		// Each section has its own area: of the foot 40,000 are 108,000.
		{nil, 1, 0, span(108000, 243000)}, {nil, 1, 1, span(69120, 155520)}, {nil, 1, 2, span(49920, 112320)}, {nil, 3, 2, span(24960, 74880)},
		// A force that is held by 50,000 alone, and one that needs a little more: 50,001 are 135,002.7.
		{[]api.Test{held(4, 1, 0, 135000)}, 1, 0, span(135000, 243000)},
		{[]api.Test{held(4, 1, 0, 135001)}, 1, 0, span(135002, 243000)},
		{[]api.Test{held(4, 1, 0, 135002)}, 1, 0, span(135002, 243000)},
		{[]api.Test{held(4, 1, 0, 135003)}, 1, 0, span(135005, 243000)},
		// One that is not: 49,999 are 134,997.3.
		{[]api.Test{broke(4, 1, 0, 135000)}, 1, 0, span(108000, 134997)},
		{[]api.Test{broke(4, 1, 0, 135001)}, 1, 0, span(108000, 135000)},
		// What is known of one is known of others of its grade, but for 5,000 times 2,700.
		{[]api.Test{held(4, 1, 0, 135000)}, 2, 0, span(121500, 243000)},
		{[]api.Test{broke(4, 1, 0, 135000)}, 2, 0, span(108000, 148497)},
		// It tells nothing of other sections, nor of another grade.
		{[]api.Test{held(4, 1, 0, 135000)}, 1, 1, span(69120, 155520)},
		{[]api.Test{held(4, 1, 0, 135000)}, 2, 2, span(49920, 112320)},
		{[]api.Test{held(4, 1, 0, 162000)}, 3, 0, span(54000, 162000)},
		{[]api.Test{held(4, 3, 0, 162000)}, 1, 0, span(108000, 243000)},
		{[]api.Test{held(4, 3, 0, 162000)}, 3, 0, span(162000, 162000)},
		{[]api.Test{broke(4, 3, 2, 24961)}, 3, 2, span(24960, 24960)},
		// Of several tests of a section the closest ones count, in any order.
		{[]api.Test{held(4, 1, 0, 120000), held(5, 1, 0, 135000), held(6, 1, 0, 130000)}, 1, 0, span(135000, 243000)},
		{[]api.Test{broke(4, 1, 0, 150000), broke(5, 1, 0, 135000), broke(6, 1, 0, 140000)}, 1, 0, span(108000, 134997)},
		{[]api.Test{broke(4, 1, 0, 162000), held(5, 1, 0, 135000)}, 1, 0, span(135000, 161997)},
		// Of several poles as well: 3 is of another grade.
		{[]api.Test{held(4, 1, 0, 135000), held(5, 2, 0, 135000), broke(6, 3, 0, 60000)}, 2, 0, span(135000, 243000)},
	} {
		if n, e := grade.Strength(sheet(x.tests...), grading(), x.pole, x.section); n != x.want || e != api.OK {
			t.Error(i, n, e)
		}
	}
}

// row is poles of one grade and the area 3,000 in all sections, by the Ids from 0 on.
func row(poles int) api.Sheet {
	var s api.Sheet
	for id := range poles {
		s.Poles = append(s.Poles, api.Pole{Id: id, Girths: [3]int{110, 110, 110}, Walls: [3]int{10, 10, 10}})
	}
	return s
}

// plain is a grading of one grade, of which every pole is, with the same span in all sections.
func plain(lo, hi, vary int) api.Grading {
	return api.Grading{Grades: []api.Grade{{Wall: 1, Stress: alike(lo, hi)}}, Vary: vary}
}

// TestVary has poles that are all the same, and poles that may differ by all that there is (P5.2).
func TestVary(t *testing.T) {
	tests := []api.Test{held(1, 0, 0, 300), broke(2, 2, 0, 600)}
	// 100 to 199 are 300 to 597.
	for _, id := range []int{0, 1, 2} {
		wantStrength(t, with(row(3), tests...), plain(1, 200000, 0), id, 0, span(300, 597))
	}
	wantStrength(t, with(row(3), tests...), plain(1, 200000, 1), 0, 0, span(300, 600))
	wantStrength(t, with(row(3), tests...), plain(1, 200000, 1), 1, 0, span(297, 600))
	wantStrength(t, with(row(3), tests...), plain(1, 200000, 1), 2, 0, span(297, 597))
	// Nothing that differs by 199,999 at most is bound by 199,999 or more.
	for _, vary := range []int{199999, 200000} {
		wantStrength(t, with(row(3), tests...), plain(1, 200000, vary), 0, 0, span(300, 600000))
		wantStrength(t, with(row(3), tests...), plain(1, 200000, vary), 1, 0, span(3, 600000))
		wantStrength(t, with(row(3), tests...), plain(1, 200000, vary), 2, 0, span(3, 597))
	}
	// By 199,998: 2 and above if one is 200,000.
	top := with(row(3), held(1, 0, 0, 600000))
	wantStrength(t, top, plain(1, 200000, 199998), 1, 0, span(6, 600000))
	wantStrength(t, top, plain(1, 200000, 199999), 1, 0, span(3, 600000))
	// What two poles tell does not add up: each one binds the third by itself.
	chain := with(row(3), held(1, 0, 0, 300), held(2, 1, 0, 330))
	wantStrength(t, chain, plain(50, 300, 20), 2, 0, span(270, 900))
	wantStrength(t, chain, plain(50, 300, 20), 0, 0, span(300, 900))
	wantStrength(t, with(row(3), broke(1, 0, 0, 303), held(2, 2, 0, 270)), plain(50, 300, 20), 1, 0, span(210, 360))
}

// TestOneStress has spans of one number (P5.2, P5.3).
func TestOneStress(t *testing.T) {
	g := plain(70, 70, 0)
	wantStrength(t, row(1), g, 0, 0, span(210, 210))
	wantStrength(t, with(row(12), held(1, 3, 1, 210), broke(2, 4, 1, 211)), g, 11, 1, span(210, 210))
	wantClash(t, with(row(12), held(1, 3, 1, 210), broke(2, 4, 1, 211)), g)
	wantClash(t, with(row(12), held(1, 3, 1, 211), broke(2, 4, 1, 211)), g, 1)
	wantClash(t, with(row(12), held(1, 3, 1, 210), broke(2, 4, 1, 210)), g, 2)
	// A span in one section, and single numbers in the others.
	g.Grades[0].Stress[2] = span(60, 80)
	wantStrength(t, row(2), g, 1, 1, span(210, 210))
	wantStrength(t, with(row(2), held(1, 0, 2, 201)), g, 1, 2, span(201, 240))
}

// TestGreatStrength has strengths that are cut at MaxForce, and some that are rounded down to nothing (P5.2).
func TestGreatStrength(t *testing.T) {
	// 43,200, 27 and 72.
	s := api.Sheet{Poles: []api.Pole{{Id: 1, Girths: [3]int{300, 10, 10}, Walls: [3]int{60, 1, 4}}}}
	wantStrength(t, s, plain(1, 200000, 0), 1, 0, span(43, 1000000))
	wantStrength(t, s, plain(23148, 23148, 0), 1, 0, span(999993, 999993))
	wantStrength(t, s, plain(23148, 23149, 0), 1, 0, span(999993, 1000000))
	wantStrength(t, s, plain(23149, 200000, 0), 1, 0, span(1000000, 1000000))
	wantStrength(t, s, plain(1, 200000, 0), 1, 1, span(0, 5400))
	wantStrength(t, s, plain(37, 38, 0), 1, 1, span(0, 1))
	wantStrength(t, s, plain(13, 14, 0), 1, 2, span(0, 1))
	// What is cut still holds no more than MaxForce for sure, and what is not cut is told by a test of it.
	wantStrength(t, with(s, held(1, 1, 0, 1000000)), plain(1, 200000, 0), 1, 0, span(1000000, 1000000))
	wantStrength(t, with(s, broke(1, 1, 0, 1000000)), plain(1, 200000, 0), 1, 0, span(43, 999993))
	wantNoStrength(t, with(s, broke(1, 1, 0, 1000000)), plain(23149, 200000, 0), 1, 0, api.ErrTests)
	// One newton breaks no section whose least stress holds it, and 38 are needed to hold one.
	wantNoStrength(t, with(s, broke(1, 1, 0, 1)), plain(1, 200000, 0), 1, 0, api.ErrTests)
	wantStrength(t, with(s, broke(1, 1, 1, 1)), plain(1, 200000, 0), 1, 1, span(0, 0))
	wantNoStrength(t, with(s, held(1, 1, 1, 1)), plain(1, 37, 0), 1, 1, api.ErrTests)
}

// TestNoGrade has poles of no grade: they have no strength, and their tests tell nothing (P5.2, P5.3).
func TestNoGrade(t *testing.T) {
	s := sheet()
	s.Poles[1].Walls[2] = 3
	wantGrade(t, s, grading(), 2, 0)
	for _, section := range []int{0, 1, 2} {
		wantNoStrength(t, s, grading(), 2, section, api.ErrBad)
	}
	odd := with(s, held(1, 2, 0, 1000000), broke(2, 2, 0, 1))
	wantClash(t, odd, grading())
	wantStrength(t, odd, grading(), 1, 0, span(108000, 243000))
	wantNoStrength(t, odd, grading(), 2, 0, api.ErrBad)
	// The error of the pole comes before that of the tests of others.
	wantNoStrength(t, with(s, held(1, 1, 0, 1000000)), grading(), 2, 0, api.ErrBad)
}

// TestNoTruth has tests that allow none: then no pole has a strength, also one of another grade or without tests (P5.2).
func TestNoTruth(t *testing.T) {
	for i, tests := range [][]api.Test{
		{held(1, 1, 0, 243001)}, {broke(1, 1, 0, 108000)}, {held(1, 3, 2, 74881)}, {broke(1, 2, 1, 69120)},
		{held(1, 1, 0, 135000), broke(2, 1, 0, 135000)},
		{held(1, 1, 0, 135000), broke(2, 2, 0, 121500)},
	} {
		for _, p := range sheet().Poles {
			for section := range 3 {
				if n, e := grade.Strength(sheet(tests...), grading(), p.Id, section); n != span(0, 0) || e != api.ErrTests {
					t.Error(i, p.Id, section, n, e)
				}
			}
		}
	}
	// A newton more or less, and there is a truth: a single one of 135,000 and 121,500.
	tight := sheet(held(1, 1, 0, 135000), broke(2, 2, 0, 121501))
	wantStrength(t, tight, grading(), 1, 0, span(135000, 135000))
	wantStrength(t, tight, grading(), 2, 0, span(121500, 121500))
	wantStrength(t, sheet(held(1, 1, 0, 243000)), grading(), 1, 0, span(243000, 243000))
	wantStrength(t, sheet(broke(1, 1, 0, 108001)), grading(), 1, 0, span(108000, 108000))
	wantStrength(t, sheet(held(1, 1, 0, 135000), broke(2, 1, 0, 135001)), grading(), 1, 0, span(135000, 135000))
}

// TestClash has tests that allow no truth alone, pairs of which each one does, and both (P5.3).
func TestClash(t *testing.T) {
	wantClash(t, api.Sheet{}, grading())
	wantClash(t, sheet(), grading())
	wantClash(t, sheet(held(1, 1, 0, 243000), held(2, 2, 0, 243000)), grading())
	// One that can't be held, one that can't but be held.
	wantClash(t, sheet(held(8, 1, 0, 243001)), grading(), 8)
	wantClash(t, sheet(broke(8, 1, 0, 108000)), grading(), 8)
	// One is fewer than two, wherever it stands, and the first one counts.
	wantClash(t, sheet(held(1, 1, 0, 135000), broke(2, 1, 0, 135000), held(3, 3, 1, 1000000)), grading(), 3)
	wantClash(t, sheet(held(0, 1, 0, 135000), broke(2, 1, 0, 135000), held(3, 3, 1, 1000000), broke(4, 2, 2, 1)), grading(), 3)
	// Of pairs the first one counts: by the first Id, then by the second one.
	wantClash(t, sheet(broke(1, 2, 2, 60000), held(2, 1, 0, 140000), broke(3, 1, 0, 130000), held(4, 2, 2, 60000)), grading(), 1, 4)
	wantClash(t, sheet(held(1, 1, 0, 135000), held(2, 1, 0, 150000), broke(3, 1, 0, 149000), broke(4, 1, 0, 130000)), grading(), 1, 4)
	wantClash(t, sheet(held(2, 1, 0, 150000), broke(3, 1, 0, 149000), broke(4, 1, 0, 130000)), grading(), 2, 3)
	wantClash(t, sheet(held(2, 1, 0, 150000), held(3, 1, 0, 160000), broke(4, 1, 0, 155000)), grading(), 3, 4)
	// The one that was not held may come first.
	wantClash(t, sheet(broke(0, 2, 0, 121500), held(9999, 1, 0, 135000)), grading(), 0, 9999)
	wantClash(t, sheet(broke(0, 2, 0, 121501), held(9999, 1, 0, 135000)), grading())
	// Of other sections, and of poles of another grade, nothing follows.
	wantClash(t, sheet(held(1, 1, 0, 135000), broke(2, 1, 1, 70000), broke(3, 2, 2, 50000), broke(4, 3, 0, 54001)), grading())
	// The last two of the most tests, of the last pole and of the first one.
	var most []api.Test
	for id := range 18 {
		most = append(most, held(id, id%12, id%3, 300))
	}
	most = append(most, held(18, 11, 2, 600), broke(19, 0, 2, 571))
	wantClash(t, with(row(12), most...), plain(100, 300, 10))
	most[19].Force = 570
	wantClash(t, with(row(12), most...), plain(100, 300, 10), 18, 19)
}
