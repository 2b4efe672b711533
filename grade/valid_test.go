package grade_test

import (
	"math"
	"testing"

	"canebrake/api"
	"canebrake/grade"
)

// wantCheck asks all functions whether a sheet and a grading are valid. All other arguments are wrong, so that their errors show that these come first.
func wantCheck(t *testing.T, s api.Sheet, g api.Grading, want api.Errno) {
	t.Helper()
	if e := grade.Check(s, g); e != want {
		t.Error(s, g, "is", e, "not", want)
	}
	others := []api.Errno{api.ErrNone, api.ErrNone, api.OK, api.ErrGroves, api.ErrSoaks}
	if want != api.OK {
		others = []api.Errno{want, want, want, want, want}
	}
	n, e := grade.Grade(s, g, -1)
	x, f := grade.Strength(s, g, -1, -1)
	l, h := grade.Clash(s, g)
	k, i := grade.Trace(s, g, make([]api.Grove, 1))
	m, j := grade.Fit(s, g, make([]api.Soak, 1))
	for at, got := range []api.Errno{e, f, h, i, j} {
		if got != others[at] {
			t.Error(s, g, "is", got, "not", others[at], "at", at)
		}
	}
	if n != 0 || x != span(0, 0) || want != api.OK && len(l) > 0 || len(k)+len(m) > 0 {
		t.Error("there is something beside an error", n, x, l, k, m)
	}
}

// bound is a change of a sheet and a grading by a number, and the range in which they stay valid.
type bound struct {
	name        string
	least, most int
	set         func(s *api.Sheet, g *api.Grading, n int)
}

func gradingBounds() []bound {
	l := []bound{
		{"first age", 0, 3, func(_ *api.Sheet, g *api.Grading, n int) { g.Grades[0].Age = n }},
		{"second age", 2, 6, func(_ *api.Sheet, g *api.Grading, n int) { g.Grades[1].Age = n }},
		{"first wall", 1, 8, func(_ *api.Sheet, g *api.Grading, n int) { g.Grades[0].Wall = n }},
		{"second wall", 4, 60, func(_ *api.Sheet, g *api.Grading, n int) { g.Grades[1].Wall = n }},
		{"vary", 0, 200000, func(_ *api.Sheet, g *api.Grading, n int) { g.Vary = n }},
	}
	for section := range 3 {
		l = append(l, []bound{
			{"lo of a stress", 1, 60000, func(_ *api.Sheet, g *api.Grading, n int) { g.Grades[0].Stress[section].Lo = n }},
			{"hi of a stress", 40000, 200000, func(_ *api.Sheet, g *api.Grading, n int) { g.Grades[1].Stress[section].Hi = n }},
			{"a stress", 1, 200000, func(_ *api.Sheet, g *api.Grading, n int) { g.Grades[1].Stress[section] = span(n, n) }},
		}...)
	}
	return l
}

func sheetBounds() []bound {
	l := []bound{
		{"first pole", 0, 1, func(s *api.Sheet, _ *api.Grading, n int) { s.Poles[0].Id, s.Tests = n, nil }},
		{"second pole", 2, 2, func(s *api.Sheet, _ *api.Grading, n int) { s.Poles[1].Id, s.Tests = n, nil }},
		{"last pole", 3, 9999, func(s *api.Sheet, _ *api.Grading, n int) { s.Poles[2].Id, s.Tests = n, nil }},
		{"clone", 0, 9999, func(s *api.Sheet, _ *api.Grading, n int) { s.Poles[1].Clone = n }},
		{"shot", 0, 105, func(s *api.Sheet, _ *api.Grading, n int) { s.Poles[1].Shot = n }},
		{"cut", 102, 3000, func(s *api.Sheet, _ *api.Grading, n int) { s.Poles[1].Cut = n }},
		{"shot and cut", 0, 3000, func(s *api.Sheet, _ *api.Grading, n int) { s.Poles[1].Shot, s.Poles[1].Cut = n, n }},
		{"soak", 0, 5, func(s *api.Sheet, _ *api.Grading, n int) { s.Poles[2].Soak = n }},
		{"place", 0, 3, func(s *api.Sheet, _ *api.Grading, n int) { s.Poles[2].Place = n }},
		{"first test", 0, 4, func(s *api.Sheet, _ *api.Grading, n int) { s.Tests[0].Id = n }},
		{"last test", 5, 9999, func(s *api.Sheet, _ *api.Grading, n int) { s.Tests[1].Id = n }},
		{"pole of a test", 1, 3, func(s *api.Sheet, _ *api.Grading, n int) { s.Tests[0].Pole = n }},
		{"section of a test", 0, 2, func(s *api.Sheet, _ *api.Grading, n int) { s.Tests[1].Section = n }},
		{"force", 1, 1000000, func(s *api.Sheet, _ *api.Grading, n int) { s.Tests[1].Force = n }},
	}
	for section := range 3 {
		size := func(s *api.Sheet, girth, wall int) {
			s.Poles[1].Girths[section], s.Poles[1].Walls[section] = girth, wall
		}
		l = append(l, []bound{
			{"girth", 16, 300, func(s *api.Sheet, _ *api.Grading, n int) { size(s, n, 8) }},
			{"girth of a thin wall", 10, 300, func(s *api.Sheet, _ *api.Grading, n int) { size(s, n, 1) }},
			{"wall", 1, 60, func(s *api.Sheet, _ *api.Grading, n int) { size(s, 300, n) }},
			{"wall of an even girth", 1, 17, func(s *api.Sheet, _ *api.Grading, n int) { size(s, 34, n) }},
			{"wall of an odd girth", 1, 17, func(s *api.Sheet, _ *api.Grading, n int) { size(s, 35, n) }},
		}...)
	}
	return l
}

// TestCheckBounds sets each number to the ends of its range, and beyond (P5.1, R5).
func TestCheckBounds(t *testing.T) {
	for wrong, list := range map[api.Errno][]bound{api.ErrGrading: gradingBounds(), api.ErrSheet: sheetBounds()} {
		for _, x := range list {
			for _, n := range []int{x.least - 1, x.least, x.least + 1, x.most - 1, x.most, x.most + 1, math.MinInt, math.MinInt + 1, -1 << 32, 1 << 32, math.MaxInt/2 + 1, math.MaxInt - 1, math.MaxInt} {
				s, g := example(), grading()
				x.set(&s, &g, n)
				want := orError(n >= x.least && n <= x.most, wrong)
				if e := grade.Check(s, g); e != want {
					t.Error(x.name, n, e)
				} else {
					wantCheck(t, s, g, want)
				}
			}
		}
	}
}

// orError is no error if all is valid, otherwise the one that is named.
func orError(valid bool, e api.Errno) api.Errno {
	if valid {
		return api.OK
	}
	return e
}

// TestCheckLists has lists of all lengths, and in any order (P5.1).
func TestCheckLists(t *testing.T) {
	for grades := range 6 {
		g := api.Grading{}
		for range grades {
			g.Grades = append(g.Grades, api.Grade{Wall: 1, Stress: alike(1, 1)})
		}
		want := orError(grades >= 1 && grades <= 3, api.ErrGrading)
		wantCheck(t, api.Sheet{}, g, want)
		wantCheck(t, example(), g, want)
		// Each grade counts, the last one too.
		if want == api.OK {
			g.Grades[grades-1].Stress[2].Lo = 2
			wantCheck(t, example(), g, api.ErrGrading)
		}
	}
	for number := range 23 {
		s := row(number)
		wantCheck(t, s, grading(), orError(number <= 12, api.ErrSheet))
		s = example()
		s.Tests = nil
		for id := range number {
			s.Tests = append(s.Tests, held(id, 1, 0, 1))
		}
		wantCheck(t, s, grading(), orError(number <= 20, api.ErrSheet))
	}
	for _, x := range []struct{ poles, tests []int }{
		{[]int{1, 1}, nil}, {[]int{2, 1}, nil}, {[]int{1, 2, 1}, nil}, {[]int{1, 3, 2}, nil}, {[]int{1, 2, 4, 4}, nil},
		{[]int{1}, []int{5, 5}}, {[]int{1}, []int{5, 4}}, {[]int{1}, []int{5, 6, 5}}, {[]int{1}, []int{4, 6, 5}}, {[]int{1}, []int{0, 1, 1}},
		{nil, []int{1}}, {[]int{0, 2}, []int{1}},
	} {
		var s api.Sheet
		for _, id := range x.poles {
			s.Poles = append(s.Poles, pole(id, 105, 102))
		}
		for _, id := range x.tests {
			s.Tests = append(s.Tests, held(id, 1, 0, 5))
		}
		wantCheck(t, s, grading(), api.ErrSheet)
	}
	wantCheck(t, api.Sheet{Poles: make([]api.Pole, 1<<16)}, grading(), api.ErrSheet)
	wantCheck(t, with(example(), make([]api.Test, 1<<16)...), grading(), api.ErrSheet)
	wantCheck(t, example(), api.Grading{Grades: make([]api.Grade, 1<<16)}, api.ErrGrading)
}

// TestCheckGradingFirst has a grading and a sheet that are both wrong (P5.1, R1).
func TestCheckGradingFirst(t *testing.T) {
	s := example()
	s.Poles[0].Id = -1
	wantCheck(t, s, api.Grading{}, api.ErrGrading)
	wantCheck(t, s, grading(), api.ErrSheet)
	wantCheck(t, example(), api.Grading{}, api.ErrGrading)
}
