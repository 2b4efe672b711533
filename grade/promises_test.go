package grade_test

import (
	"math/rand/v2"
	"slices"
	"testing"

	"canebrake/api"
	"canebrake/clump"
	"canebrake/cure"
	"canebrake/grade"
)

// TestModel holds grades, strengths and clashes against the model, which goes through all truths (P5.1 to P5.3, P5.6, P5.8).
func TestModel(t *testing.T) {
	r := chance(1)
	var truths, ones, twos, bare int
	for range 4000 {
		g := anyGrading(r, among(r, 1, 5))
		s := anySheet(r, g, 4, 8)
		all, ok := modelStrengths(s, g)
		for _, p := range s.Poles {
			n := modelGrade(g, p)
			wantGrade(t, s, g, p.Id, n)
			for section := range 3 {
				switch {
				case n == 0:
					wantNoStrength(t, s, g, p.Id, section, api.ErrBad)
					bare++
				case !ok:
					wantNoStrength(t, s, g, p.Id, section, api.ErrTests)
				default:
					wantStrength(t, s, g, p.Id, section, all[strong{p.Id, section}])
					truths++
				}
			}
		}
		wanted := modelClash(s, g)
		wantClash(t, s, g, wanted...)
		switch len(wanted) {
		case 1:
			ones++
		case 2:
			twos++
		}
		if t.Failed() {
			t.Fatal(s, g)
		}
	}
	if min(truths, ones, twos, bare) < 150 {
		t.Error("one kind of answer was hardly met", truths, ones, twos, bare)
	}
}

// someTruth is a stress for each section of each pole with a grade: those of a grade are within Vary of each other.
func someTruth(r *rand.Rand, s api.Sheet, g api.Grading) map[strong]int {
	truth := map[strong]int{}
	for n, x := range g.Grades {
		for section, whole := range x.Stress {
			lo := among(r, whole.Lo, whole.Hi)
			for _, p := range s.Poles {
				if modelGrade(g, p) == n+1 {
					truth[strong{p.Id, section}] = among(r, lo, min(whole.Hi, lo+g.Vary))
				}
			}
		}
	}
	return truth
}

// trueTests are tests that tell of a truth, with forces near to its strengths.
func trueTests(r *rand.Rand, s api.Sheet, truth map[strong]int, number int) []api.Test {
	var tests []api.Test
	for id := range number {
		p, section := s.Poles[r.IntN(len(s.Poles))], r.IntN(3)
		stress, graded := truth[strong{p.Id, section}]
		x := api.Test{Id: id * 7, Pole: p.Id, Section: section, Force: among(r, 1, 1000000)}
		if graded {
			x.Force = min(1000000, max(1, modelStrength(p, section, stress)+among(r, -3000, 3000)))
			x.Held = stress*modelArea(p, section) >= 1000*x.Force
		}
		tests = append(tests, x)
	}
	return tests
}

// wideSheet is a sheet of 1 to 12 poles with the most tests, and a truth of which these tell, all by a grading with wide spans.
func wideSheet(r *rand.Rand) (s api.Sheet, g api.Grading, truth map[strong]int) {
	numbers := []int{100, 5000, 150000}[r.IntN(3)]
	g = anyGrading(r, numbers)
	g.Vary = among(r, 0, []int{0, numbers / 10, numbers, 200000}[r.IntN(4)])
	for len(s.Poles) == 0 {
		s = anySheet(r, g, 12, 0)
	}
	truth = someTruth(r, s, g)
	s.Tests = trueTests(r, s, truth, r.IntN(20))
	return s, g, truth
}

// TestWithinSpan has sheets too large for the model, and truths that must be within all spans (P5.6).
func TestWithinSpan(t *testing.T) {
	r := chance(2)
	met := 0
	for range 1500 {
		s, g, truth := wideSheet(r)
		wantClash(t, s, g)
		for x, stress := range truth {
			n, e := grade.Strength(s, g, x.pole, x.section)
			p := s.Poles[slices.IndexFunc(s.Poles, func(p api.Pole) bool { return p.Id == x.pole })]
			if is := modelStrength(p, x.section, stress); e != api.OK || is < n.Lo || is > n.Hi {
				t.Fatal(s, g, x, n, e, is)
			}
			met++
		}
	}
	if met < 5000 {
		t.Error("hardly a pole had a grade", met)
	}
}

// tested is a sheet with one test more.
func tested(s api.Sheet, pole, section, force int, held bool) api.Sheet {
	s.Tests = append(slices.Clone(s.Tests), api.Test{Id: 9999, Pole: pole, Section: section, Force: force, Held: held})
	return s
}

// TestEndsComeAbout asks what would follow of one test more, with a force that is just within a span, or just not (P5.6).
func TestEndsComeAbout(t *testing.T) {
	r := chance(3)
	wide := 0
	for range 1500 {
		s, g, truth := wideSheet(r)
		for x := range truth {
			was, e := grade.Strength(s, g, x.pole, x.section)
			if e != api.OK {
				t.Fatal(s, g, x, e)
			}
			strength := func(force int, held bool) (api.Span, api.Errno) {
				return grade.Strength(tested(s, x.pole, x.section, force, held), g, x.pole, x.section)
			}
			// A force of at most the least strength is held in every truth, so it is news to nobody that it was.
			if was.Lo > 0 {
				if n, e := strength(was.Lo, true); n != was || e != api.OK {
					t.Fatal(s, g, x, was, n, e)
				}
				if _, e := strength(was.Lo, false); e != api.ErrTests {
					t.Fatal(s, g, x, was, e)
				}
			}
			// One above the greatest is held in none.
			if was.Hi < 1000000 {
				if n, e := strength(was.Hi+1, false); n != was || e != api.OK {
					t.Fatal(s, g, x, was, n, e)
				}
				if _, e := strength(was.Hi+1, true); e != api.ErrTests {
					t.Fatal(s, g, x, was, e)
				}
			}
			// Both ends are those of some truth.
			if was.Lo < was.Hi {
				wide++
				if n, e := strength(was.Lo+1, false); n != span(was.Lo, was.Lo) || e != api.OK {
					t.Fatal(s, g, x, was, n, e)
				}
				if n, e := strength(was.Hi, true); n != span(was.Hi, was.Hi) || e != api.OK {
					t.Fatal(s, g, x, was, n, e)
				}
			}
		}
	}
	if wide < 2000 {
		t.Error("hardly a span was wide", wide)
	}
}

// TestNoSpanGetsWider adds the tests of sheets one by one (P5.6).
func TestNoSpanGetsWider(t *testing.T) {
	r := chance(4)
	narrower := 0
	for range 400 {
		s, g, truth := wideSheet(r)
		for x := range truth {
			was := span(0, 1000000)
			for i := range len(s.Tests) + 1 {
				n, e := grade.Strength(with(s, s.Tests[:i]...), g, x.pole, x.section)
				if e != api.OK || n.Lo < was.Lo || n.Hi > was.Hi || n.Lo > n.Hi {
					t.Fatal(s, g, x, i, n, was, e)
				}
				if i > 0 && n != was {
					narrower++
				}
				was = n
			}
		}
	}
	if narrower < 1000 {
		t.Error("hardly a test told something", narrower)
	}
}

// allows tells whether a list of tests allows a truth, by all poles that have a grade.
func allows(s api.Sheet, g api.Grading, tests ...api.Test) bool {
	for _, p := range s.Poles {
		if _, e := grade.Strength(with(s, tests...), g, p.Id, 0); e == api.ErrTests {
			return false
		}
	}
	return true
}

// TestNamedTestsContradict looks at the tests that are named, of many that are drawn (P5.3, P5.8).
func TestNamedTestsContradict(t *testing.T) {
	r := chance(5)
	var found [3]int
	for range 1500 {
		s, g, _ := wideSheet(r)
		if !allows(s, g) {
			t.Fatal(s, g, "allows no truth without tests")
		}
		for i := range s.Tests {
			if r.IntN(9) == 0 {
				s.Tests[i].Held = !s.Tests[i].Held
			}
		}
		l, e := grade.Clash(s, g)
		if e != api.OK || len(l) > 2 || !slices.IsSorted(l) || (len(l) == 0) != allows(s, g, s.Tests...) {
			t.Fatal(s, g, l, e)
		}
		found[len(l)]++
		var named []api.Test
		for _, x := range s.Tests {
			if slices.Contains(l, x.Id) {
				named = append(named, x)
			}
		}
		if len(named) != len(l) || len(l) > 0 && allows(s, g, named...) {
			t.Fatal(s, g, l)
		}
		// Of two, each one allows a truth, and so does every pair that comes before them.
		for i, x := range s.Tests {
			if len(l) == 1 && x.Id < l[0] || len(l) == 2 {
				if !allows(s, g, x) {
					t.Fatal(s, g, l, x.Id)
				}
			}
			for _, y := range s.Tests[i+1:] {
				if len(l) == 2 && slices.Compare([]int{x.Id, y.Id}, l) < 0 && !allows(s, g, x, y) {
					t.Fatal(s, g, l, x.Id, y.Id)
				}
			}
		}
	}
	if slices.Min(found[:]) < 100 {
		t.Error("one kind of answer was hardly met", found)
	}
}

// anyGrove is a valid grove with some seasons, in most of which something is cut.
func anyGrove(r *rand.Rand, id int) api.Grove {
	g := api.Grove{Id: id, Habit: api.Habit{Dies: among(r, 1, 6)}, First: among(r, 10, 20)}
	g.Habit.Ripe = among(r, 1, g.Habit.Dies)
	for range g.Habit.Dies + 1 {
		g.Start = append(g.Start, r.IntN(4))
	}
	for range r.IntN(5) {
		g.Seasons = append(g.Seasons, api.Season{Shots: r.IntN(4), Cut: r.IntN(6)})
		last := &g.Seasons[len(g.Seasons)-1]
		for clump.Check(g) != api.OK {
			last.Cut--
		}
	}
	return g
}

// origin is what is written on a pole.
type origin struct{ clone, cut, shot int }

// felled are all culms that were cut by the books of groves: what has to be written on their poles, once for each culm.
func felled(groves []api.Grove) []origin {
	var all []origin
	for _, g := range groves {
		for year := g.First; year <= g.First+len(g.Seasons); year++ {
			takes, _ := clump.Taken(g, year)
			for _, x := range takes {
				all = append(all, slices.Repeat([]origin{{g.Id, year, x.Shot}}, x.Number)...)
			}
		}
	}
	return all
}

// count is how many times each origin is in a list.
func count(list []origin) map[origin]int {
	number := map[origin]int{}
	for _, from := range list {
		number[from]++
	}
	return number
}

// polesOf are poles by the Ids from 0 on, on which origins are written.
func polesOf(list []origin) []api.Pole {
	var l []api.Pole
	for id, from := range list {
		p := pole(id, from.cut, from.shot)
		p.Clone = from.clone
		l = append(l, p)
	}
	return l
}

// claimed are up to 12 origins, most of them of culms that were cut, others near to these.
func claimed(r *rand.Rand, all []origin) []origin {
	var list []origin
	for range r.IntN(13) {
		from := origin{3, 12, 11}
		if len(all) > 0 {
			from = all[r.IntN(min(len(all), 6))]
		}
		switch r.IntN(12) {
		case 0:
			from.clone++
		case 1:
			from.cut++
		case 2:
			from.shot--
		}
		list = append(list, from)
	}
	return list
}

// TestEveryPoleIsTraced writes poles down, and counts them against the books of groves (P5.4, P5.7).
func TestEveryPoleIsTraced(t *testing.T) {
	r := chance(6)
	var known [3]int
	for range 2000 {
		groves := []api.Grove{anyGrove(r, 3), anyGrove(r, 4), anyGrove(r, 900)}[:among(r, 1, 3)]
		cut := felled(groves)
		list := claimed(r, cut)
		number, there, sure := count(cut), count(list), map[origin]int{}
		var want []uint8
		for _, from := range list {
			switch {
			case number[from] == 0:
				want = append(want, api.KnownNo)
			case there[from] > number[from]:
				want = append(want, api.KnownOpen)
			default:
				want = append(want, api.KnownYes)
			}
		}
		l, e := grade.Trace(api.Sheet{Poles: polesOf(list)}, grading(), groves)
		wantKnown(t, l, e, want...)
		for i, k := range l {
			known[k]++
			if k == api.KnownYes {
				sure[list[i]]++
			}
			if sure[list[i]] > number[list[i]] {
				t.Error(list[i], "is known of more than were cut")
			}
		}
		if t.Failed() {
			t.Fatal(list, groves)
		}
	}
	if slices.Min(known[:]) < 1000 {
		t.Error("one kind of answer was hardly met", known)
	}
}

// TestAllThatWereCut writes down as many poles as were cut in a book: all are traced, and with one more those with the same origin are not (P5.7).
func TestAllThatWereCut(t *testing.T) {
	r := chance(7)
	met := 0
	for met < 300 {
		groves := []api.Grove{anyGrove(r, among(r, 0, 9999))}
		all := felled(groves)
		if len(all) < 2 || len(all) > 11 {
			continue
		}
		met++
		wantTrace(t, polesOf(all), groves, slices.Repeat([]uint8{api.KnownYes}, len(all))...)
		more := all[r.IntN(len(all))]
		all = append(all, more)
		var want []uint8
		for _, from := range all {
			if from == more {
				want = append(want, api.KnownOpen)
			} else {
				want = append(want, api.KnownYes)
			}
		}
		wantTrace(t, polesOf(all), groves, want...)
	}
}

// anyBatch is a batch with cores that need much, or little.
func anyBatch(r *rand.Rand) api.Batch {
	lo := among(r, 1, 250)
	b := api.Batch{Water: among(r, 10, 40), Borax: among(r, 0, 4000), Spread: span(lo, among(r, lo, 250)), Need: among(r, 1, 40)}
	for range among(r, 1, 4) {
		cells := make([]int, among(r, 1, 3))
		for i := range cells {
			cells[i] = r.IntN(2) * r.IntN(60)
		}
		b.Poles = append(b.Poles, cells)
	}
	return b
}

// coreAt tells whether the core of a pole has enough after one of some hours at a spread, or before the first one.
func coreAt(b api.Batch, place, spread, hours int) bool {
	for hour := range hours + 1 {
		_, poles, _ := cure.Run(b, spread, hour)
		if cells := poles[place]; cells[len(cells)-1] >= b.Need {
			return true
		}
	}
	return false
}

// fitness is whether a pole is fit by some soaks, told spread by spread.
func fitness(p api.Pole, list []api.Soak) uint8 {
	if p.Soak >= len(list) || p.Place >= len(list[p.Soak].Batch.Poles) {
		return api.KnownNo
	}
	x := list[p.Soak]
	reached := 0
	for spread := x.Batch.Spread.Lo; spread <= x.Batch.Spread.Hi; spread++ {
		if coreAt(x.Batch, p.Place, spread, x.Hours) {
			reached++
		}
	}
	switch reached {
	case 0:
		return api.KnownNo
	case x.Batch.Spread.Hi - x.Batch.Spread.Lo + 1:
		return api.KnownYes
	}
	return api.KnownOpen
}

// TestNoPoleIsFitTooEarly runs the batches of soaks at all spreads (P5.5, P5.9).
func TestNoPoleIsFitTooEarly(t *testing.T) {
	r := chance(8)
	var known [3]int
	for range 400 {
		var list []api.Soak
		for range min(6, r.IntN(12)) {
			list = append(list, api.Soak{Batch: anyBatch(r), Hours: r.IntN(12)})
		}
		var places [][2]int
		for range r.IntN(13) {
			places = append(places, [2]int{r.IntN(6), r.IntN(4)})
		}
		l := in(places...)
		var want []uint8
		for _, p := range l {
			k := fitness(p, list)
			want = append(want, k)
			known[k]++
		}
		wantFit(t, l, list, want...)
		if t.Failed() {
			t.Fatal(l, list)
		}
	}
	if slices.Min(known[:]) < 50 {
		t.Error("one kind of answer was hardly met", known)
	}
}

// TestFitWhenReady soaks for as many hours as Ready tells, and for an hour less (P5.9).
func TestFitWhenReady(t *testing.T) {
	r := chance(9)
	met := 0
	for met < 200 {
		b := anyBatch(r)
		hours, e := cure.Ready(b)
		if e != api.OK || hours == 0 {
			continue
		}
		met++
		all := in([2]int{2, 0}, [2]int{2, 1}, [2]int{2, 2}, [2]int{2, 3})[:len(b.Poles)]
		list := []api.Soak{{Batch: batch()}, {Batch: batch()}, {Batch: b, Hours: hours}}
		wantFit(t, all, list, slices.Repeat([]uint8{api.KnownYes}, len(all))...)
		list[2].Hours--
		l, e := grade.Fit(api.Sheet{Poles: all}, grading(), list)
		if e != api.OK || !slices.ContainsFunc(l, func(k uint8) bool { return k != api.KnownYes }) {
			t.Error(b, hours, l, e)
		}
	}
}
