package frame_test

import (
	"math/rand/v2"
	"slices"
	"testing"

	"canebrake/api"
	"canebrake/frame"
	"canebrake/grade"
)

// TestModel holds all that is told of a frame against the model, which goes through all truths (P6.1 to P6.6, P6.9).
func TestModel(t *testing.T) {
	r := chance(1)
	var known, accepted [3]int
	var none, more int
	for range 1000 {
		f := smallFrame(r)
		out := outs(r, f)
		loads, falls := modelLoads(f, out)
		wantLoads(t, f, out, falls, loads...)
		strengths := allStrengths(f)
		if len(f.Props) == 0 {
			// Without props no strength is asked for.
			strengths = []map[place]int{{}}
		}
		if len(strengths) == 0 {
			if n, e := frame.Stands(f, out); n != 0 || e != api.ErrTests {
				t.Error(f, n, e)
			}
			none++
			continue
		}
		stands := modelStands(f, out, strengths)
		wantStands(t, f, stands, out...)
		known[stands]++
		all, pole, turns := modelAccept(f, strengths)
		wantAccept(t, f, all, pole)
		wantTurns(t, f, turns...)
		accepted[all]++
		knot := r.IntN(len(f.Knots))
		if all == api.KnownYes {
			most := modelMost(f, knot, strengths)
			wantMost(t, f, knot, most, api.OK)
			more += min(most, 1)
		} else {
			wantMost(t, f, knot, 0, api.ErrBad)
		}
		if t.Failed() {
			t.FailNow()
		}
	}
	if min(slices.Min(known[:]), slices.Min(accepted[:]), none, more) < 50 {
		t.Error("one kind of answer was hardly met", known, accepted, none, more)
	}
}

// wideFrame is a frame with up to ten knots and twenty props, whose sections and joints hold about as much as they bear. Its tests tell of the strengths of a truth, which is returned.
func wideFrame(r *rand.Rand) (f api.Frame, strong map[place]int) {
	f = api.Frame{Sheet: anySheet(r, among(r, 4, 12))}
	forces := []int{10, 1000, 20000}[r.IntN(3)]
	for range among(r, 1, 10) {
		hi := r.IntN(forces+1) * r.IntN(4) / 3
		f.Knots = append(f.Knots, span(among(r, hi/2, hi), hi))
	}
	f.Props = anyProps(r, f, among(r, 1, 2), among(r, 2, max(2, min(5, 20/len(f.Knots)))))
	bears := mostBorne(f)
	for i := range f.Holds {
		f.Holds[i] = about(r, bears)
	}
	for age := range among(r, 1, 2) {
		g := api.Grade{Age: 2 + age, Wall: 8}
		for section := range g.Stress {
			s := about(r, bears)
			g.Stress[section] = span(s.Lo+1, min(200000, s.Hi+1))
		}
		f.Grading.Grades = append(f.Grading.Grades, g)
	}
	f.Grading.Vary = []int{0, bears, 200000}[r.IntN(3)]
	strong, tests := trueTests(r, f, r.IntN(9))
	f.Sheet.Tests = tests
	return f, strong
}

// mostBorne is the most that a prop bears with one pole out.
func mostBorne(f api.Frame) int {
	var puts []int
	for _, s := range f.Knots {
		puts = append(puts, s.Hi)
	}
	most := 0
	for _, id := range used(f) {
		bears, _ := allBear(f, []int{id}, puts)
		most = max(most, slices.Max(bears))
	}
	return most
}

// about is a span that begins near to a number, or far above it. A stress of it makes a section hold as much, or twice that.
func about(r *rand.Rand, n int) api.Span {
	lo := n * among(r, 60, 130) / 100
	if r.IntN(2) == 0 {
		lo = 2*n + 1
	}
	lo = min(lo, 199999)
	return span(lo, among(r, lo, min(199999, 3*lo+1)))
}

// trueTests are a truth of strengths, and tests that tell of it.
func trueTests(r *rand.Rand, f api.Frame, number int) (strong map[place]int, tests []api.Test) {
	strong = map[place]int{}
	for i, g := range f.Grading.Grades {
		for section, whole := range g.Stress {
			lo := among(r, whole.Lo, whole.Hi)
			for _, p := range ofGrade(f, i+1) {
				stress := among(r, lo, min(whole.Hi, lo+f.Grading.Vary))
				strong[place{p.Id, section}] = modelStrength(p, section, stress)
			}
		}
	}
	for id := range number {
		part := place{f.Sheet.Poles[r.IntN(len(f.Sheet.Poles))].Id, r.IntN(3)}
		// A section is at least as strong as a force if, rounded down, it is.
		force := max(1, strong[part]*among(r, 80, 120)/100)
		tests = append(tests, api.Test{Id: id, Pole: part.pole, Section: part.section, Force: force, Held: strong[part] >= force})
	}
	return strong, tests
}

// anyTruth is one with some strengths.
func anyTruth(r *rand.Rand, f api.Frame, strong map[place]int) truth {
	x := truth{strong: strong}
	ends := r.IntN(3)
	pick := func(s api.Span, end int) int {
		switch ends {
		case 0:
			return among(r, s.Lo, s.Hi)
		case end:
			return s.Lo
		}
		return s.Hi
	}
	for _, s := range f.Knots {
		x.puts = append(x.puts, pick(s, 1))
	}
	for i, s := range f.Holds {
		x.holds[i] = pick(s, 2)
	}
	return x
}

// TestAcceptedStands draws truths, and takes poles out by turns (P6.6).
func TestAcceptedStands(t *testing.T) {
	r := chance(2)
	var accepted, not int
	for range 2500 {
		f, strong := wideFrame(r)
		known, pole, e := frame.Accept(f)
		if e != api.OK {
			t.Fatal(f, e)
		}
		for range 4 {
			x := anyTruth(r, f, strong)
			if known == api.KnownYes {
				for _, out := range append(singles(f), nil) {
					if !standsIn(f, out, x) {
						t.Fatal(f, out, x, "does not stand")
					}
				}
				accepted++
			}
			if known == api.KnownNo {
				out := []int{pole}
				if pole < 0 {
					out = nil
				}
				if standsIn(f, out, x) {
					t.Fatal(f, out, x, "stands")
				}
				not++
			}
		}
	}
	if min(accepted, not) < 300 {
		t.Error("one kind of answer was hardly met", accepted, not)
	}
}

// singles are the poles that have props, each one in a list of its own.
func singles(f api.Frame) [][]int {
	var l [][]int
	for _, id := range used(f) {
		l = append(l, []int{id})
	}
	return l
}

// TestKnownStands has any poles out, and truths with the strengths at the ends of all spans (P6.2, P6.6).
func TestKnownStands(t *testing.T) {
	r := chance(3)
	var known [3]int
	for range 4000 {
		f, strong := wideFrame(r)
		out := outs(r, f)
		n, e := frame.Stands(f, out)
		if e != api.OK {
			t.Fatal(f, e)
		}
		known[n]++
		x := anyTruth(r, f, strong)
		if stands := standsIn(f, out, x); stands && n == api.KnownNo || !stands && n == api.KnownYes {
			t.Fatal(f, out, x, n)
		}
		if worst := standsIn(f, out, endOf(f, true)); worst != (n == api.KnownYes) {
			t.Fatal(f, out, n, "at its worst")
		}
		if best := standsIn(f, out, endOf(f, false)); best != (n != api.KnownNo) {
			t.Fatal(f, out, n, "at its best")
		}
	}
	if slices.Min(known[:]) < 300 {
		t.Error("one kind of answer was hardly met", known)
	}
}

// endOf is the worst truth, or the best one: package grade promises that all strengths are at the same ends of their spans in some truth.
func endOf(f api.Frame, worst bool) truth {
	x := truth{strong: map[place]int{}}
	pick := func(s api.Span, lo bool) int {
		if lo {
			return s.Lo
		}
		return s.Hi
	}
	for _, s := range f.Knots {
		x.puts = append(x.puts, pick(s, !worst))
	}
	for i, s := range f.Holds {
		x.holds[i] = pick(s, worst)
	}
	for _, p := range f.Props {
		s, _ := grade.Strength(f.Sheet, f.Grading, p.Pole, p.Section)
		x.strong[place{p.Pole, p.Section}] = pick(s, worst)
	}
	return x
}

// putting is a frame with numbers that are put on its knots for sure.
func putting(f api.Frame, puts []int) api.Frame {
	return with(f, func(f *api.Frame) {
		for knot, n := range puts {
			f.Knots[knot] = just(n)
		}
	})
}

// TestLoadsGoDown draws what is put on knots, and follows it to the ground (P6.7).
func TestLoadsGoDown(t *testing.T) {
	r := chance(4)
	var down, fallen int
	for range 4000 {
		f, strong := wideFrame(r)
		out := outs(r, f)
		loads, falls, _ := frame.Loads(f, out)
		puts := anyTruth(r, f, strong).puts
		bears, fall := allBear(f, out, puts)
		is, falling, e := frame.Loads(putting(f, puts), out)
		if e != api.OK || falling != append(fall, -1)[0] || falls < 0 && falling >= 0 || falling >= 0 && falls > falling {
			t.Fatal(f, out, puts, falls, falling, fall, e)
		}
		ground, sum, standing := 0, 0, 0
		for i, s := range is {
			if s != just(bears[i]) || s.Lo < loads[i].Lo || s.Hi > loads[i].Hi {
				t.Fatal(f, out, puts, i, s, bears[i], loads[i])
			}
			if f.Props[i].To == api.Ground {
				ground += s.Lo
			}
			if !isGone(f.Props[i], out) {
				standing++
			}
		}
		for _, n := range puts {
			sum += n
		}
		if falling >= 0 {
			fallen++
			continue
		}
		down++
		if ground < sum || ground > sum+max(0, standing-1) {
			t.Fatal(f, out, puts, ground, sum)
		}
	}
	if min(down, fallen) < 500 {
		t.Error("one kind of answer was hardly met", down, fallen)
	}
}

// TestLoadsComeAbout puts the least and the most on all knots (P6.7).
func TestLoadsComeAbout(t *testing.T) {
	r := chance(5)
	for range 1500 {
		f, _ := wideFrame(r)
		out := outs(r, f)
		loads, falls, _ := frame.Loads(f, out)
		least, _ := allBear(f, out, endOf(f, false).puts)
		most, fall := allBear(f, out, endOf(f, true).puts)
		for i, s := range loads {
			if s != span(least[i], most[i]) {
				t.Fatal(f, out, i, s, least[i], most[i])
			}
		}
		if falls != append(fall, -1)[0] {
			t.Fatal(f, out, falls, fall)
		}
	}
}

// lower is a span of which neither end is above that of another one, higher one of which neither is below.
func lower(r *rand.Rand, s api.Span) api.Span {
	lo := among(r, s.Lo/2, s.Lo)
	return span(lo, among(r, max(lo, s.Hi/2), s.Hi))
}

func higher(r *rand.Rand, s api.Span) api.Span {
	hi := s.Hi + r.IntN(s.Hi/2+1)
	return span(among(r, s.Lo, min(hi, s.Lo*3/2)), hi)
}

// narrower is a span within another one.
func narrower(r *rand.Rand, s api.Span) api.Span {
	lo := among(r, s.Lo, s.Hi)
	return span(lo, among(r, lo, s.Hi))
}

// TestLessOnKnots makes frames better and worse (P6.8).
func TestLessOnKnots(t *testing.T) {
	r := chance(6)
	changed := 0
	for range 4000 {
		f, _ := wideFrame(r)
		out := outs(r, f)
		was, _ := frame.Stands(f, out)
		knot, joint := r.IntN(len(f.Knots)), r.IntN(3)
		for _, change := range []func(f *api.Frame){
			func(f *api.Frame) { f.Knots[knot] = lower(r, f.Knots[knot]) },
			func(f *api.Frame) { f.Holds[joint] = higher(r, f.Holds[joint]) },
		} {
			n, e := frame.Stands(with(f, change), out)
			if e != api.OK || n < was {
				t.Fatal(f, out, was, "is worse with less on a knot, or stronger joints:", n, e)
			}
			changed += int(n - was)
		}
		for _, change := range []func(f *api.Frame){
			func(f *api.Frame) { f.Knots[knot] = higher(r, f.Knots[knot]) },
			func(f *api.Frame) { f.Holds[joint] = lower(r, f.Holds[joint]) },
		} {
			n, e := frame.Stands(with(f, change), out)
			if e != api.OK || n > was {
				t.Fatal(f, out, was, "is better with more on a knot, or weaker joints:", n, e)
			}
			changed += int(was - n)
		}
	}
	if changed < 300 {
		t.Error("hardly anything was changed by much", changed)
	}
}

// TestKnownStaysKnown makes spans narrower, and adds tests (P6.8).
func TestKnownStaysKnown(t *testing.T) {
	r := chance(7)
	var stays, news int
	for range 4000 {
		f, strong := wideFrame(r)
		out := outs(r, f)
		was, _ := frame.Stands(f, out)
		knot, joint, section := r.IntN(len(f.Knots)), r.IntN(3), r.IntN(3)
		for _, change := range []func(f *api.Frame){
			func(f *api.Frame) { f.Knots[knot] = narrower(r, f.Knots[knot]) },
			func(f *api.Frame) { f.Holds[joint] = narrower(r, f.Holds[joint]) },
			func(f *api.Frame) { f.Grading.Vary = r.IntN(f.Grading.Vary + 1) },
			func(f *api.Frame) {
				f.Grading.Grades = slices.Clone(f.Grading.Grades)
				s := &f.Grading.Grades[0].Stress[section]
				*s = narrower(r, *s)
			},
			func(f *api.Frame) { f.Sheet.Tests = append(slices.Clone(f.Sheet.Tests), oneMore(r, f, strong)) },
		} {
			// What is narrower may contradict the tests; then there is no truth any more.
			n, e := frame.Stands(with(f, change), out)
			if e == api.ErrTests {
				continue
			}
			if e != api.OK || was != api.KnownOpen && n != was {
				t.Fatal(f, out, was, "becomes", n, e)
			}
			if was != api.KnownOpen {
				stays++
			} else if n != was {
				news++
			}
		}
	}
	if stays < 5000 || news < 100 {
		t.Error("one kind of answer was hardly met", stays, news)
	}
}

// oneMore is a test of a section of a prop, by a truth.
func oneMore(r *rand.Rand, f *api.Frame, strong map[place]int) api.Test {
	p := f.Props[r.IntN(len(f.Props))]
	force := max(1, strong[place{p.Pole, p.Section}]+r.IntN(2))
	return api.Test{Id: 9999, Pole: p.Pole, Section: p.Section, Force: force, Held: strong[place{p.Pole, p.Section}] >= force}
}

// TestMostIsJustAccepted puts on a knot what Most returns, and one newton more (P6.5, P6.9).
func TestMostIsJustAccepted(t *testing.T) {
	r := chance(8)
	var zero, some, bad int
	for range 4000 {
		f, _ := wideFrame(r)
		knot := r.IntN(len(f.Knots))
		known, _, _ := frame.Accept(f)
		n, e := frame.Most(f, knot)
		if (known == api.KnownYes) != (e == api.OK) || e != api.OK && (e != api.ErrBad || n != 0) {
			t.Fatal(f, knot, known, n, e)
		}
		if e != api.OK {
			bad++
			continue
		}
		wantAccept(t, raised(f, knot, n), api.KnownYes, -1)
		if f.Knots[knot].Hi+n < 1000000 {
			if known, _, e := frame.Accept(raised(f, knot, n+1)); known == api.KnownYes || e != api.OK {
				t.Error(f, knot, n, "is not the most", known, e)
			}
		}
		wantMost(t, raised(f, knot, n), knot, 0, api.OK)
		if n == 0 {
			zero++
		} else {
			some++
			wantMost(t, raised(f, knot, n-1), knot, 1, api.OK)
		}
		if t.Failed() {
			t.FailNow()
		}
	}
	if min(zero, some, bad) < 100 {
		t.Error("one kind of answer was hardly met", zero, some, bad)
	}
}

// TestAnyOrder lists props in other orders (P6.10).
func TestAnyOrder(t *testing.T) {
	r := chance(9)
	for range 1500 {
		f, _ := wideFrame(r)
		out, knot := outs(r, f), r.IntN(len(f.Knots))
		loads, falls, _ := frame.Loads(f, out)
		stands, _ := frame.Stands(f, out)
		known, pole, _ := frame.Accept(f)
		turns, _ := frame.Turns(f)
		most, e := frame.Most(f, knot)
		other := with(f)
		r.Shuffle(len(f.Props), func(i, k int) {
			other.Props[i], other.Props[k] = other.Props[k], other.Props[i]
			loads[i], loads[k] = loads[k], loads[i]
		})
		wantLoads(t, other, out, falls, loads...)
		wantStands(t, other, stands, out...)
		wantAccept(t, other, known, pole)
		wantTurns(t, other, turns...)
		wantMost(t, other, knot, most, e)
		if t.Failed() {
			t.FailNow()
		}
	}
}
