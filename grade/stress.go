package grade

import (
	"iter"
	"slices"

	"canebrake/api"
)

// Why spans are enough: its grade and its tests leave a pole a span of stresses in each section, and stresses of one grade differ by at most Vary. So the stress of a pole is at least the greatest beginning of such a span of its grade, less Vary, and at most the least end of one, and Vary. If something is left of each span, there is a truth in which all stresses are the least ones that are left, and one in which all are the greatest ones: no two of either kind differ by more than Vary. If nothing is left of one, it takes one beginning and one end to tell so, and each of them is that of a grade or of one test: so two tests are enough to contradict each other.

// sheet is a sheet at work, with what its poles are graded by.
type sheet struct {
	api.Sheet
	api.Grading
}

// stress is between which numbers the stresses of the sections of a pole lie.
type stress [api.Sections]api.Span

func poleWith(poles []api.Pole, id int) (api.Pole, bool) {
	return first(poles, func(p api.Pole) bool { return p.Id == id })
}

// gradeOf is the grade of a pole, 0 if it has none.
func (s sheet) gradeOf(p api.Pole) int {
	grade := 0
	for i, g := range s.Grades {
		if g.Age <= p.Cut-p.Shot && g.Wall <= slices.Min(p.Walls[:]) {
			grade = i + 1
		}
	}
	return grade
}

// ofGrade yields the poles of a grade.
func (s sheet) ofGrade(grade int) iter.Seq[api.Pole] {
	return func(yield func(api.Pole) bool) {
		for _, p := range s.Poles {
			if s.gradeOf(p) == grade && !yield(p) {
				return
			}
		}
	}
}

// stresses is what is left by some tests for each pole that has a grade, by Ids, and whether they allow a truth.
func (s sheet) stresses(tests []api.Test) (left map[int]stress, allowed bool) {
	left = map[int]stress{}
	allowed = true
	for i, g := range s.Grades {
		near := stress(g.Stress)
		for p := range s.ofGrade(i + 1) {
			left[p.Id] = tested(p, g, tests)
			near = near.both(left[p.Id].wider(s.Vary))
		}
		for p := range s.ofGrade(i + 1) {
			left[p.Id] = left[p.Id].both(near)
			allowed = allowed && !left[p.Id].none()
		}
	}
	return left, allowed
}

// both is what two have in common, in each section.
func (s stress) both(other stress) stress {
	for section := range api.Sections {
		s[section] = cut(s[section], other[section])
	}
	return s
}

// wider goes further by a number, down and up, in each section. Where nothing was left there may be something then: it is the pole itself that tells that there is no truth.
func (s stress) wider(by int) stress {
	for section := range api.Sections {
		s[section].Lo -= by
		s[section].Hi += by
	}
	return s
}

// none tells whether nothing is left in a section.
func (s stress) none() bool { return slices.ContainsFunc(s[:], empty) }

// tested is what some tests leave a pole of a grade, whatever other poles are like.
func tested(p api.Pole, g api.Grade, tests []api.Test) stress {
	var said [api.Sections][]api.Span
	for _, t := range tests {
		if t.Pole == p.Id {
			said[t.Section] = append(said[t.Section], trialOf(t).says(area(p, t.Section)))
		}
	}
	left := stress(g.Stress)
	for section, spans := range said {
		left[section] = cut(left[section], spans...)
	}
	return left
}

// trial is a test at work: leaves is which stresses it leaves, if with the least one a section would hold its force.
type trial struct {
	api.Test
	leaves func(least int) api.Span
}

func trialOf(t api.Test) trial {
	if t.Held {
		return trial{t, atLeast}
	}
	return trial{t, below}
}

func atLeast(least int) api.Span { return api.Span{Lo: least, Hi: api.MaxStress} }

func below(least int) api.Span { return fromOne(least - 1) }

// says is which stresses a trial leaves a section with an area. A stress times an area is told in thousandths of a newton.
func (t trial) says(area int) api.Span {
	return t.leaves((t.Force*api.Whole + area - 1) / area)
}

// clash is the Ids of the fewest tests that allow no truth, none if there is one.
func (s sheet) clash() []int {
	allowed := func(tests ...api.Test) bool {
		_, ok := s.stresses(tests)
		return ok
	}
	if allowed(s.Tests...) {
		return nil
	}
	if t, ok := first(s.Tests, func(t api.Test) bool { return !allowed(t) }); ok {
		return []int{t.Id}
	}
	var two []int
pairs:
	for i := range len(s.Tests) {
		for k := range len(s.Tests) {
			if i < k && !allowed(s.Tests[i], s.Tests[k]) {
				two = []int{s.Tests[i].Id, s.Tests[k].Id}
				break pairs
			}
		}
	}
	return two
}

// area is that of a section of a pole.
func area(p api.Pole, section int) int {
	wall := p.Walls[section]
	return 3 * wall * (p.Girths[section] - wall)
}

// strengths is between which strengths a section with an area is, by its stresses.
func strengths(stresses api.Span, area int) api.Span {
	strength := func(n int) int { return min(n*area/api.Whole, api.MaxForce) }
	return api.Span{Lo: strength(stresses.Lo), Hi: strength(stresses.Hi)}
}

func empty(s api.Span) bool { return s.Lo > s.Hi }

// cut is what a span has in common with all others. It is empty if there is no such number.
func cut(s api.Span, others ...api.Span) api.Span {
	for _, o := range others {
		s = api.Span{Lo: max(s.Lo, o.Lo), Hi: min(s.Hi, o.Hi)}
	}
	return s
}
