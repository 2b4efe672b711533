package frame_test

import (
	"math"
	"math/rand/v2"
	"reflect"
	"slices"
	"sync"
	"testing"

	"canebrake/api"
	"canebrake/frame"
)

// question is arguments for all calls of the package.
type question struct {
	f    api.Frame
	out  []int
	knot int
}

// answer is all that the calls return.
type answer struct {
	check   api.Errno
	loads   []api.Span
	falls   int
	loadsE  api.Errno
	stands  uint8
	standsE api.Errno
	accept  uint8
	pole    int
	acceptE api.Errno
	turns   []int
	turnsE  api.Errno
	most    int
	mostE   api.Errno
}

func ask(q question) answer {
	var a answer
	a.check = frame.Check(q.f)
	a.loads, a.falls, a.loadsE = frame.Loads(q.f, q.out)
	a.stands, a.standsE = frame.Stands(q.f, q.out)
	a.accept, a.pole, a.acceptE = frame.Accept(q.f)
	a.turns, a.turnsE = frame.Turns(q.f)
	a.most, a.mostE = frame.Most(q.f, q.knot)
	return a
}

func (a answer) errors() [6]api.Errno {
	return [6]api.Errno{a.check, a.loadsE, a.standsE, a.acceptE, a.turnsE, a.mostE}
}

// bare tells whether there is nothing beside errors.
func (a answer) bare() bool {
	return (a.loadsE == api.OK || len(a.loads) == 0 && a.falls == 0) &&
		(a.standsE == api.OK || a.stands == 0) &&
		(a.acceptE == api.OK || a.accept == 0 && a.pole == 0) &&
		(a.turnsE == api.OK || len(a.turns) == 0) &&
		(a.mostE == api.OK || a.most == 0)
}

// usual asks for something to be told by each call: the last prop is of a pole that stands alone, unless it is out.
func usual() question {
	f := rig([]api.Span{span(300, 400), span(0, 600), span(100, 200)},
		prop(1, 0, 0, 1, 1, 2), prop(2, 0, 0, 2, 3, 3), prop(2, 1, 1, 2, 1, 3), prop(3, 1, 1, -1, 2, 3), prop(3, 0, 2, -1, 1, 3), prop(4, 2, 2, -1, 1, 3))
	f.Sheet.Tests = []api.Test{{Id: 3, Pole: 2, Force: 5500, Held: true}, {Id: 5, Pole: 4, Section: 2, Force: 8000}}
	return question{f, []int{2, 5}, 1}
}

// weak is the usual question of a frame that is not accepted.
func weak() question {
	q := usual()
	q.f.Props[5].Joint = api.JointLash
	return q
}

// anyQuestion is a question to which there are answers.
func anyQuestion(r *rand.Rand) question {
	f, _ := wideFrame(r)
	return question{f, outs(r, f), r.IntN(len(f.Knots))}
}

// TestErrorsInOrder gives calls arguments with several faults (R1), and looks at what stands beside an error (R2).
func TestErrorsInOrder(t *testing.T) {
	same := func(e api.Errno) [6]api.Errno { return [6]api.Errno{e, e, e, e, e, e} }
	badGrading := func(q *question) { q.f.Grading.Vary = -1 }
	badSheet := func(q *question) { q.f.Sheet.Poles[5].Place = 4 }
	badFrame := func(q *question) { q.f.Props[0].Share = 10 }
	badOut := func(q *question) { q.out = []int{5, 2} }
	noKnot := func(q *question) { q.knot = 3 }
	noGrade := func(q *question) { q.f.Sheet.Poles[0].Shot = 105 }
	noTruth := func(q *question) { q.f.Sheet.Tests[0].Force = 1000000 }
	heavy := func(q *question) { q.f.Knots[0].Hi = 1000000 }
	for i, x := range []struct {
		changes []func(q *question)
		want    [6]api.Errno
	}{
		{nil, same(api.OK)},
		{[]func(q *question){badGrading, badSheet, badFrame, badOut, noKnot, noGrade, noTruth, heavy}, same(api.ErrGrading)},
		{[]func(q *question){badSheet, badFrame, badOut, noKnot, noGrade, noTruth, heavy}, same(api.ErrSheet)},
		{[]func(q *question){badFrame, badOut, noKnot, noGrade, noTruth, heavy}, same(api.ErrFrame)},
		{[]func(q *question){badOut, noKnot, noGrade, noTruth, heavy}, [6]api.Errno{0, api.ErrArg, api.ErrArg, api.ErrBad, api.ErrBad, api.ErrNone}},
		{[]func(q *question){badOut, noKnot, noTruth, heavy}, [6]api.Errno{0, api.ErrArg, api.ErrArg, api.ErrTests, api.ErrTests, api.ErrNone}},
		{[]func(q *question){noGrade, noTruth, heavy}, [6]api.Errno{0, 0, api.ErrBad, api.ErrBad, api.ErrBad, api.ErrBad}},
		{[]func(q *question){noTruth, heavy}, [6]api.Errno{0, 0, api.ErrTests, api.ErrTests, api.ErrTests, api.ErrTests}},
		{[]func(q *question){noTruth}, [6]api.Errno{0, 0, api.ErrTests, api.ErrTests, api.ErrTests, api.ErrTests}},
		{[]func(q *question){heavy}, [6]api.Errno{0, 0, 0, 0, 0, api.ErrBad}},
		{[]func(q *question){heavy, noKnot}, [6]api.Errno{0, 0, 0, 0, 0, api.ErrNone}},
		{[]func(q *question){badOut}, [6]api.Errno{0, api.ErrArg, api.ErrArg, 0, 0, 0}},
	} {
		q := usual()
		for _, change := range x.changes {
			change(&q)
		}
		if a := ask(q); a.errors() != x.want || !a.bare() {
			t.Error(i, a)
		}
	}
}

// roomy is a slice with something behind its end, and all of it.
func roomy[T any](list []T, behind T) (short, whole []T) {
	whole = append(slices.Clone(list), behind, behind)
	return whole[:len(list)], whole
}

// kept are all lists of a question, with what is behind their ends.
type kept struct {
	poles  []api.Pole
	tests  []api.Test
	grades []api.Grade
	knots  []api.Span
	props  []api.Prop
	out    []int
}

// withRoom gives all lists of a question something behind their ends.
func withRoom(q question) (question, kept) {
	var k kept
	q.f.Sheet.Poles, k.poles = roomy(q.f.Sheet.Poles, pole(77))
	q.f.Sheet.Tests, k.tests = roomy(q.f.Sheet.Tests, api.Test{Id: 77})
	q.f.Grading.Grades, k.grades = roomy(q.f.Grading.Grades, api.Grade{Age: 77})
	q.f.Knots, k.knots = roomy(q.f.Knots, span(77, 78))
	q.f.Props, k.props = roomy(q.f.Props, bolt(77, 0, 0, 1))
	q.out, k.out = roomy(q.out, 77)
	return q, k
}

// TestArgumentsStay looks for arguments that were written to, also behind their ends (R3).
func TestArgumentsStay(t *testing.T) {
	for _, from := range []func() question{
		usual, weak,
		func() question { q := usual(); q.f.Sheet.Poles[0].Shot = 105; return q },
		func() question { q := usual(); q.f.Props[5].To = 1; return q },
		func() question { q := usual(); q.out = []int{5, 2}; return q },
		func() question { return question{tower(0, 10), []int{1, 12}, 9} },
	} {
		q, k := withRoom(from())
		same, want := withRoom(from())
		ask(q)
		if !reflect.DeepEqual(q, same) || !reflect.DeepEqual(k, want) {
			t.Error(q, k)
		}
	}
}

// spoil writes all over a list, up to its capacity.
func spoil[T any](list []T, with T) {
	list = list[:cap(list)]
	for i := range list {
		list[i] = with
	}
}

// TestResultsAreNew writes over results, and looks at the arguments, and at what is told again (R3).
func TestResultsAreNew(t *testing.T) {
	for _, from := range []func() question{usual, weak} {
		q, same := from(), from()
		want, a := ask(q), ask(q)
		if len(a.loads) != 6 || len(a.turns) < 2 {
			t.Fatal(a)
		}
		spoil(a.loads, span(-7, -7))
		spoil(a.turns, -7)
		if !reflect.DeepEqual(q, same) {
			t.Error("an argument was spoilt", q)
		}
		if again := ask(q); !reflect.DeepEqual(again, want) {
			t.Error("a call remembers another one", again, want)
		}
	}
}

// TestNoCallRemembers asks for many things in two orders, and at the same time (R3).
func TestNoCallRemembers(t *testing.T) {
	r := chance(20)
	questions := []question{usual(), weak()}
	for range 100 {
		questions = append(questions, anyQuestion(r))
	}
	want := make([]answer, len(questions))
	for i, q := range questions {
		want[i] = ask(q)
	}
	for i, q := range slices.Backward(questions) {
		if a := ask(q); !reflect.DeepEqual(a, want[i]) {
			t.Error(q, a, want[i])
		}
	}
	got := make([]answer, len(questions))
	var all sync.WaitGroup
	for i, q := range questions {
		all.Go(func() { got[i] = ask(q) })
	}
	all.Wait()
	if !reflect.DeepEqual(got, want) {
		t.Error("calls at the same time disturb each other")
	}
}

// TestNilIsEmpty gives the calls nil lists and empty ones (R4).
func TestNilIsEmpty(t *testing.T) {
	for _, x := range []struct {
		toNil, toEmpty func(q *question)
		want           [6]api.Errno
	}{
		{func(q *question) { q.out = nil }, func(q *question) { q.out = []int{} }, [6]api.Errno{}},
		{func(q *question) { q.f.Props = nil }, func(q *question) { q.f.Props = []api.Prop{} }, [6]api.Errno{0, 0, 0, 0, 0, api.ErrBad}},
		{func(q *question) { q.f.Knots = nil }, func(q *question) { q.f.Knots = []api.Span{} }, [6]api.Errno{60, 60, 60, 60, 60, 60}},
		{func(q *question) { q.f.Sheet.Tests = nil }, func(q *question) { q.f.Sheet.Tests = []api.Test{} }, [6]api.Errno{}},
		{func(q *question) { q.f.Sheet = api.Sheet{} }, func(q *question) { q.f.Sheet = api.Sheet{Poles: []api.Pole{}, Tests: []api.Test{}} }, [6]api.Errno{60, 60, 60, 60, 60, 60}},
		{func(q *question) { q.f.Grading.Grades = nil }, func(q *question) { q.f.Grading.Grades = []api.Grade{} }, [6]api.Errno{50, 50, 50, 50, 50, 50}},
	} {
		one, other := usual(), usual()
		x.toNil(&one)
		x.toEmpty(&other)
		a, b := ask(one), ask(other)
		if !reflect.DeepEqual(a, b) || a.errors() != x.want {
			t.Error(a, b)
		}
	}
}

// TestAnyValue has values that nobody would find in a valley: they count as valid (R6).
func TestAnyValue(t *testing.T) {
	// Joints that hold nothing, and less the better they are; a knot above which nothing is, and from which props go past others; a pole that carries its own load.
	f := rig([]api.Span{just(0), span(0, 90), just(0)}, bolt(6, 2, 1, 2), bolt(6, 1, 2, -1), prop(5, 0, 1, -1, 9, 1), prop(5, 1, 2, -1, 9, 2))
	f.Holds = [3]api.Span{just(90), span(89, 90), span(0, 90)}
	wantLoads(t, f, nil, -1, span(0, 9), span(0, 1), span(0, 81), span(0, 9))
	wantStands(t, f, api.KnownOpen)
	wantStands(t, f, api.KnownYes, 6)
	wantStands(t, f, api.KnownOpen, 5)
	wantAccept(t, f, api.KnownOpen, -1)
	wantTurns(t, f, 6)
	// A frame of nothing but a knot.
	bare := api.Frame{Grading: graded(1, 1, 0), Knots: make([]api.Span, 1)}
	wantCheck(t, bare, api.OK)
	wantLoads(t, bare, nil, -1)
	wantAccept(t, bare, api.KnownYes, -1)
	wantMost(t, bare, 0, 0, api.OK)
}

// odd are numbers at the ends of ranges, and others far from them.
func odd() []int {
	return []int{math.MinInt, math.MinInt + 1, -1 << 32, -2, -1, 0, 1, 2, 3, 4, 5, 6, 7, 9, 10, 20, 103, 105, 2000, 9999, 200000, 1000000, 1000001, 1 << 32, math.MaxInt/2 + 1, math.MaxInt - 1, math.MaxInt}
}

// numbersOf are numbers of a question that are in a list, or in none.
func numbersOf(r *rand.Rand, q *question) []*int {
	p, k := &q.f.Props[r.IntN(6)], &q.f.Knots[r.IntN(3)]
	x, g := &q.f.Sheet.Poles[r.IntN(6)], &q.f.Grading.Grades[0]
	h, section := &q.f.Holds[r.IntN(3)], r.IntN(3)
	return []*int{
		&p.Pole, &p.Section, &p.From, &p.To, &p.Share, &p.To, &p.Section,
		&k.Lo, &k.Hi, &k.Hi, &h.Lo, &h.Hi, &q.out[0], &q.out[1], &q.knot,
		&x.Id, &x.Shot, &x.Walls[section], &g.Stress[section].Lo, &g.Stress[section].Hi, &q.f.Grading.Vary, &q.f.Sheet.Tests[0].Force,
	}
}

// TestOddArguments gives the calls numbers and lists of all kinds: each call ends, without a panic, and all of them agree on what is valid (R5, R7).
func TestOddArguments(t *testing.T) {
	r := chance(21)
	numbers := odd()
	valid := 0
	for range 20000 {
		q := usual()
		for range r.IntN(4) {
			all := numbersOf(r, &q)
			*all[r.IntN(len(all))] = numbers[r.IntN(len(numbers))]
		}
		switch r.IntN(20) {
		case 0:
			q.f.Props = append(q.f.Props, make([]api.Prop, r.IntN(20))...)
		case 1:
			q.f.Knots = append(q.f.Knots, make([]api.Span, r.IntN(10))...)
		case 2:
			q.f.Props = q.f.Props[:r.IntN(6)]
		case 3:
			q.f.Knots = q.f.Knots[:r.IntN(3)]
		case 4:
			q.f.Props[r.IntN(6)].Joint = uint8(r.IntN(256))
		case 5:
			q.f.Sheet.Poles = q.f.Sheet.Poles[:r.IntN(6)]
		case 6:
			q.out = append(q.out, make([]int, r.IntN(9))...)
		}
		a := ask(q)
		if a.check == api.OK {
			valid++
		}
		for _, e := range a.errors() {
			if e != a.check && (a.check != api.OK || e == api.ErrGrading || e == api.ErrSheet || e == api.ErrFrame) {
				t.Fatal(q, a)
			}
		}
		if !a.bare() {
			t.Fatal(q, a)
		}
	}
	if valid < 2000 || valid > 18000 {
		t.Error("one kind of answer was hardly met", valid)
	}
}

// TestGreatest has the greatest number of everything, so that each call has most to do (R7).
func TestGreatest(t *testing.T) {
	f := tower(0, 1)
	f.Grading = graded(1, 200000, 200000)
	f.Grading.Grades = slices.Repeat(f.Grading.Grades, 3)
	for id := range 20 {
		f.Sheet.Tests = append(f.Sheet.Tests, api.Test{Id: id, Pole: id%10 + 1, Section: id / 10, Force: 500000, Held: true})
	}
	a := ask(question{f, []int{1, 2, 3, 4, 5, 6, 7, 8, 9, 10, 11, 12}, 0})
	// By its test each section holds 185,186 times 2,700, divided by 1,000: 500,002. Without 9 the fifth knot and the last one have one prop each, and what others hand on is rounded up: 499,986 on the first knot are 500,001 on the last one, and two more would be 500,003.
	want := answer{loads: make([]api.Span, 20), stands: api.KnownOpen, accept: api.KnownYes, pole: -1, turns: []int{1, 2, 3, 4, 5, 6, 7, 8, 9, 10}, most: 499985}
	if !reflect.DeepEqual(a, want) {
		t.Error(a, want)
	}
}
