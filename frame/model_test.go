package frame_test

import (
	"fmt"
	"math/rand/v2"
	"slices"

	"canebrake/api"
)

// The model of these tests goes through all truths: it is slow, and shares nothing with the package, nor with package grade.

// place is a section of a pole.
type place struct{ pole, section int }

// truth is what is put on each knot, how strong sections are, and what joints of each kind hold.
type truth struct {
	puts   []int
	strong map[place]int
	holds  [3]int
}

func isGone(p api.Prop, out []int) bool { return slices.Contains(out, p.Pole) }

// knotBears is what is put on a knot, and what the props bear that stand with it as To.
func knotBears(f api.Frame, out, puts []int, knot int) int {
	bears := puts[knot]
	for i, p := range f.Props {
		if p.To == knot {
			bears += propBears(f, out, puts, i)
		}
	}
	return bears
}

func propBears(f api.Frame, out, puts []int, i int) int {
	p := f.Props[i]
	if isGone(p, out) {
		return 0
	}
	shares := 0
	for _, other := range f.Props {
		if other.From == p.From && !isGone(other, out) {
			shares += other.Share
		}
	}
	bears := knotBears(f, out, puts, p.From) * p.Share
	if bears%shares > 0 {
		return bears/shares + 1
	}
	return bears / shares
}

// allBear is what each prop bears, and the knots that fall.
func allBear(f api.Frame, out, puts []int) (bears, fall []int) {
	for i := range f.Props {
		bears = append(bears, propBears(f, out, puts, i))
	}
	for knot := range f.Knots {
		carried := slices.ContainsFunc(f.Props, func(p api.Prop) bool { return p.From == knot && !isGone(p, out) })
		if !carried && knotBears(f, out, puts, knot) > 0 {
			fall = append(fall, knot)
		}
	}
	return bears, fall
}

// holdIn tells whether all props hold what they bear. Those that are gone bear nothing.
func holdIn(f api.Frame, bears []int, x truth) bool {
	for i, p := range f.Props {
		if bears[i] > x.strong[place{p.Pole, p.Section}] || bears[i] > x.holds[p.Joint-1] {
			return false
		}
	}
	return true
}

func standsIn(f api.Frame, out []int, x truth) bool {
	bears, fall := allBear(f, out, x.puts)
	return len(fall) == 0 && holdIn(f, bears, x)
}

// lists are all lists of a number of each span.
func lists(spans ...api.Span) [][]int {
	all := [][]int{nil}
	for _, s := range spans {
		var longer [][]int
		for _, list := range all {
			for n := s.Lo; n <= s.Hi; n++ {
				longer = append(longer, append(slices.Clone(list), n))
			}
		}
		all = longer
	}
	return all
}

func modelGrade(g api.Grading, p api.Pole) int {
	grade := 0
	for i, x := range g.Grades {
		if p.Cut-p.Shot >= x.Age && min(p.Walls[0], p.Walls[1], p.Walls[2]) >= x.Wall {
			grade = i + 1
		}
	}
	return grade
}

func modelArea(p api.Pole, section int) int {
	return 3 * p.Walls[section] * (p.Girths[section] - p.Walls[section])
}

func modelStrength(p api.Pole, section, stress int) int {
	return min(1000000, modelArea(p, section)*stress/1000)
}

// agrees tells whether stresses of a section of poles are within Vary of each other, and as the tests tell.
func agrees(f api.Frame, poles []api.Pole, section int, stresses []int) bool {
	for i, p := range poles {
		for _, x := range f.Sheet.Tests {
			if x.Pole == p.Id && x.Section == section && x.Held != (modelArea(p, section)*stresses[i] >= 1000*x.Force) {
				return false
			}
		}
	}
	return len(poles) == 0 || slices.Max(stresses)-slices.Min(stresses) <= f.Grading.Vary
}

func ofGrade(f api.Frame, grade int) []api.Pole {
	var l []api.Pole
	for _, p := range f.Sheet.Poles {
		if modelGrade(f.Grading, p) == grade {
			l = append(l, p)
		}
	}
	return l
}

// hasPart tells whether a section of a pole is that of a prop.
func hasPart(f api.Frame, part place) bool {
	return slices.ContainsFunc(f.Props, func(p api.Prop) bool { return part == place{p.Pole, p.Section} })
}

// strengthsOf is how strong the sections of one index can be of the poles of one grade, all together, as far as they are those of props; it is empty if no truth is left.
func strengthsOf(f api.Frame, grade, section int) []map[place]int {
	l := ofGrade(f, grade)
	stress := f.Grading.Grades[grade-1].Stress[section]
	seen := map[string]bool{}
	var all []map[place]int
	for _, stresses := range lists(slices.Repeat([]api.Span{stress}, len(l))...) {
		if !agrees(f, l, section, stresses) {
			continue
		}
		strong := map[place]int{}
		for i, p := range l {
			if part := (place{p.Id, section}); hasPart(f, part) {
				strong[part] = modelStrength(p, section, stresses[i])
			}
		}
		if key := fmt.Sprint(strong); !seen[key] {
			seen[key] = true
			all = append(all, strong)
		}
	}
	return all
}

// allStrengths is how strong the sections of all props can be together, in all truths.
func allStrengths(f api.Frame) []map[place]int {
	all := []map[place]int{{}}
	for grade := 1; grade <= len(f.Grading.Grades); grade++ {
		for section := range 3 {
			var more []map[place]int
			for _, strong := range all {
				for _, others := range strengthsOf(f, grade, section) {
					both := map[place]int{}
					for _, list := range []map[place]int{strong, others} {
						for part, n := range list {
							both[part] = n
						}
					}
					more = append(more, both)
				}
			}
			all = more
		}
	}
	return all
}

// modelLoads are between which loads each prop is in all truths, and the first knot that falls in some.
func modelLoads(f api.Frame, out []int) (loads []api.Span, falls int) {
	falls = -1
	for i, puts := range lists(f.Knots...) {
		bears, fall := allBear(f, out, puts)
		for k, n := range bears {
			if i == 0 {
				loads = append(loads, just(n))
			}
			loads[k] = span(min(loads[k].Lo, n), max(loads[k].Hi, n))
		}
		if len(fall) > 0 && (falls < 0 || fall[0] < falls) {
			falls = fall[0]
		}
	}
	return loads, falls
}

// modelStands goes through all truths.
func modelStands(f api.Frame, out []int, strengths []map[place]int) uint8 {
	var stands, not bool
	for _, puts := range lists(f.Knots...) {
		bears, fall := allBear(f, out, puts)
		for _, strong := range strengths {
			for _, holds := range lists(f.Holds[:]...) {
				if len(fall) == 0 && holdIn(f, bears, truth{puts, strong, [3]int(holds)}) {
					stands = true
				} else {
					not = true
				}
			}
		}
	}
	switch {
	case !not:
		return api.KnownYes
	case !stands:
		return api.KnownNo
	}
	return api.KnownOpen
}

// used are the Ids of the poles that have props, in increasing order.
func used(f api.Frame) []int {
	var l []int
	for _, p := range f.Props {
		l = append(l, p.Pole)
	}
	slices.Sort(l)
	return slices.Compact(l)
}

// modelAccept takes poles out one by one, and tells also which of them may be.
func modelAccept(f api.Frame, strengths []map[place]int) (known uint8, pole int, turns []int) {
	known, pole = modelStands(f, nil, strengths), -1
	for _, id := range used(f) {
		turn := modelStands(f, []int{id}, strengths)
		if turn < known {
			known, pole = turn, id
		}
		if turn == api.KnownYes {
			turns = append(turns, id)
		}
	}
	return known, pole, turns
}

// raised is a frame with more on a knot.
func raised(f api.Frame, knot, by int) api.Frame {
	return with(f, func(f *api.Frame) { f.Knots[knot].Hi += by })
}

// modelMost tries all numbers, from 0 on.
func modelMost(f api.Frame, knot int, strengths []map[place]int) int {
	by := 0
	for {
		known, _, _ := modelAccept(raised(f, knot, by+1), strengths)
		if known != api.KnownYes {
			return by
		}
		by++
	}
}

func chance(seed uint64) *rand.Rand { return rand.New(rand.NewPCG(seed, 6)) }

// among is a number of a span.
func among(r *rand.Rand, lo, hi int) int { return lo + r.IntN(hi-lo+1) }

// anyParts are all sections of all poles, in any order.
func anyParts(r *rand.Rand, s api.Sheet) []place {
	var l []place
	for _, p := range s.Poles {
		for section := range 3 {
			l = append(l, place{p.Id, section})
		}
	}
	r.Shuffle(len(l), func(i, k int) { l[i], l[k] = l[k], l[i] })
	return l
}

// anyProps are so many props of each knot, as long as there are sections for them, to later knots or to the ground, in any order.
func anyProps(r *rand.Rand, f api.Frame, least, most int) []api.Prop {
	var l []api.Prop
	parts := anyParts(r, f.Sheet)
	for knot := range f.Knots {
		for range min(among(r, least, most), len(parts)) {
			to := among(r, knot+1, len(f.Knots))
			if to == len(f.Knots) {
				to = api.Ground
			}
			l = append(l, prop(parts[0].pole, parts[0].section, knot, to, among(r, 1, 9), uint8(among(r, 1, 3))))
			parts = parts[1:]
		}
	}
	r.Shuffle(len(l), func(i, k int) { l[i], l[k] = l[k], l[i] })
	return l
}

// anySheet is so many poles. Each of them has a grade, if the last of the grades asks for an Age of at most 3, and the first one for 2.
func anySheet(r *rand.Rand, number int) api.Sheet {
	var s api.Sheet
	id := r.IntN(5)
	for range number {
		p := api.Pole{Id: id, Cut: 105, Shot: among(r, 100, 103)}
		for section := range 3 {
			p.Walls[section] = among(r, 8, 10)
			p.Girths[section] = among(r, 40, 60)
		}
		s.Poles = append(s.Poles, p)
		id += among(r, 1, 90)
	}
	return s
}

// smallFrame has few truths, by sections and joints that hold a few newtons: so few that all of them can be gone through.
func smallFrame(r *rand.Rand) api.Frame {
	f := api.Frame{Sheet: anySheet(r, among(r, 1, 4)), Grading: api.Grading{Vary: r.IntN(3)}}
	lo := among(r, 2, 30)
	for age := range among(r, 1, 2) {
		g := api.Grade{Age: 2 + age, Wall: 1}
		for section := range g.Stress {
			g.Stress[section] = span(lo, lo+r.IntN(2))
		}
		f.Grading.Grades = append(f.Grading.Grades, g)
	}
	for range among(r, 1, 3) {
		n := r.IntN(9) * r.IntN(2)
		f.Knots = append(f.Knots, span(n, n+r.IntN(3)))
	}
	f.Props = anyProps(r, f, r.IntN(2), 3)
	for i := range f.Holds {
		n := among(r, lo/2, 30)
		f.Holds[i] = span(n, n+r.IntN(2))
	}
	for id := range r.IntN(3) {
		f.Sheet.Tests = append(f.Sheet.Tests, api.Test{Id: id, Pole: f.Sheet.Poles[0].Id, Section: r.IntN(3), Force: among(r, 1, lo+2), Held: r.IntN(3) > 0})
	}
	return f
}

// outs are some poles that are taken out, often one that has props.
func outs(r *rand.Rand, f api.Frame) []int {
	var l []int
	for _, p := range f.Sheet.Poles {
		if r.IntN(len(f.Sheet.Poles)+1) == 0 {
			l = append(l, p.Id)
		}
	}
	return l
}
