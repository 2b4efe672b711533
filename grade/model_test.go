package grade_test

import (
	"math/rand/v2"

	"canebrake/api"
)

// The model of these tests goes through all truths, and all lists of tests: it is slow, and shares nothing with the package.

func modelGrade(g api.Grading, p api.Pole) int {
	for n := len(g.Grades); n > 0; n-- {
		x := g.Grades[n-1]
		if p.Shot+x.Age <= p.Cut && p.Walls[0] >= x.Wall && p.Walls[1] >= x.Wall && p.Walls[2] >= x.Wall {
			return n
		}
	}
	return 0
}

func modelArea(p api.Pole, section int) int {
	return 3*p.Walls[section]*p.Girths[section] - 3*p.Walls[section]*p.Walls[section]
}

func modelStrength(p api.Pole, section, stress int) int {
	newtons := stress * modelArea(p, section) / 1000
	if newtons > 1000000 {
		return 1000000
	}
	return newtons
}

// agrees tells whether a stress is what all tests of a section tell.
func agrees(p api.Pole, section, stress int, tests []api.Test) bool {
	for _, x := range tests {
		if x.Pole == p.Id && x.Section == section && x.Held != (stress*modelArea(p, section) >= 1000*x.Force) {
			return false
		}
	}
	return true
}

// strong is a section of a pole, by its Id.
type strong struct{ pole, section int }

// modelPart goes through all stresses of one section of the poles of one grade, adds the strengths that come about, and tells whether any do.
func modelPart(poles []api.Pole, section int, whole api.Span, vary int, tests []api.Test, all map[strong]api.Span) bool {
	stresses := make([]int, len(poles))
	found := false
	add := func() {
		for i, p := range poles {
			n := modelStrength(p, section, stresses[i])
			was, ok := all[strong{p.Id, section}]
			if !ok {
				was = span(n, n)
			}
			all[strong{p.Id, section}] = span(min(was.Lo, n), max(was.Hi, n))
		}
		found = true
	}
	var try func(i int)
	try = func(i int) {
		if i == len(poles) {
			add()
			return
		}
	stresses:
		for stresses[i] = whole.Lo; stresses[i] <= whole.Hi; stresses[i]++ {
			for _, other := range stresses[:i] {
				if stresses[i]-other > vary || other-stresses[i] > vary {
					continue stresses
				}
			}
			if agrees(poles[i], section, stresses[i], tests) {
				try(i + 1)
			}
		}
	}
	try(0)
	return found
}

// modelStrengths is between which strengths each section of each pole with a grade is in all truths, and whether there is one.
func modelStrengths(s api.Sheet, g api.Grading) (all map[strong]api.Span, ok bool) {
	all = map[strong]api.Span{}
	for n, x := range g.Grades {
		var poles []api.Pole
		for _, p := range s.Poles {
			if modelGrade(g, p) == n+1 {
				poles = append(poles, p)
			}
		}
		for section, whole := range x.Stress {
			if !modelPart(poles, section, whole, g.Vary, s.Tests, all) {
				return nil, false
			}
		}
	}
	return all, true
}

func modelAllows(s api.Sheet, g api.Grading, tests ...api.Test) bool {
	s.Tests = tests
	_, ok := modelStrengths(s, g)
	return ok
}

// lists is all lists of so many tests, in their order, the first ones first.
func lists(tests []api.Test, length int) [][]api.Test {
	if length == 0 {
		return [][]api.Test{nil}
	}
	var all [][]api.Test
	for i, x := range tests {
		for _, rest := range lists(tests[i+1:], length-1) {
			all = append(all, append([]api.Test{x}, rest...))
		}
	}
	return all
}

// modelClash is the Ids of the first one of the shortest lists that allow no truth, whatever their length is.
func modelClash(s api.Sheet, g api.Grading) []int {
	for length := range len(s.Tests) + 1 {
		for _, list := range lists(s.Tests, length) {
			if !modelAllows(s, g, list...) {
				return ids(list)
			}
		}
	}
	return nil
}

func ids(tests []api.Test) []int {
	var l []int
	for _, x := range tests {
		l = append(l, x.Id)
	}
	return l
}

func chance(seed uint64) *rand.Rand { return rand.New(rand.NewPCG(seed, 5)) }

// among is a number of a span.
func among(r *rand.Rand, lo, hi int) int { return lo + r.IntN(hi-lo+1) }

// anyGrading is a grading with so many numbers in each span of stresses at most.
func anyGrading(r *rand.Rand, numbers int) api.Grading {
	g := api.Grading{Vary: r.IntN(numbers)}
	age, wall := 0, 1
	base := among(r, 1, []int{50, 20000, 200000 - numbers}[r.IntN(3)])
	for range among(r, 1, 3) {
		age, wall = among(r, age, min(6, age+2)), among(r, wall, min(60, wall+3))
		x := api.Grade{Age: age, Wall: wall}
		for section := range x.Stress {
			lo := base + r.IntN(numbers)*r.IntN(2)
			x.Stress[section] = span(lo, max(lo, base+numbers-1-r.IntN(3)))
		}
		g.Grades = append(g.Grades, x)
	}
	return g
}

// anyPole is a pole that may be of any of the grades of anyGrading, and is of one more often than not.
func anyPole(r *rand.Rand, id int) api.Pole {
	p := api.Pole{Id: id, Clone: among(r, 0, 9999), Shot: among(r, 0, 2990), Soak: r.IntN(6), Place: r.IntN(4)}
	p.Cut = p.Shot + among(r, 0, 8)
	for section := range p.Walls {
		p.Walls[section] = among(r, 1, 10)
		if r.IntN(3) > 0 {
			p.Walls[section] = among(r, 7, 60)
		}
		p.Girths[section] = among(r, max(10, 2*p.Walls[section]), 300)
	}
	return p
}

// anyTest is a test of a pole, most often of its foot. If the pole has a grade, the test allows a truth alone more often than not.
func anyTest(r *rand.Rand, id int, p api.Pole, g api.Grading) api.Test {
	x := api.Test{Id: id, Pole: p.Id, Section: r.IntN(3) * r.IntN(2), Held: r.IntN(2) == 0}
	stress := span(1, 200000)
	if n := modelGrade(g, p); n > 0 {
		stress = g.Grades[n-1].Stress[x.Section]
	}
	force := modelStrength(p, x.Section, among(r, stress.Lo, stress.Hi))
	if !x.Held {
		force++
	}
	if r.IntN(12) == 0 {
		force += among(r, -1, 1)
	}
	x.Force = min(1000000, max(1, force))
	return x
}

// anySheet is a sheet of so many poles and tests at most.
func anySheet(r *rand.Rand, g api.Grading, poles, tests int) api.Sheet {
	var s api.Sheet
	id := 0
	for range r.IntN(poles + 1) {
		id += among(r, 1, 800)
		s.Poles = append(s.Poles, anyPole(r, id))
	}
	id = 0
	for range r.IntN(tests + 1) {
		if len(s.Poles) > 0 {
			id += among(r, 1, 400)
			s.Tests = append(s.Tests, anyTest(r, id, s.Poles[r.IntN(len(s.Poles))], g))
		}
	}
	return s
}
