package grade_test

import (
	"math"
	"math/rand/v2"
	"reflect"
	"slices"
	"sync"
	"testing"

	"canebrake/api"
	"canebrake/grade"
)

// question is arguments for all calls of the package.
type question struct {
	s             api.Sheet
	g             api.Grading
	pole, section int
	groves        []api.Grove
	soaks         []api.Soak
}

// answer is all that the calls return.
type answer struct {
	check     api.Errno
	grade     int
	gradeE    api.Errno
	strength  api.Span
	strengthE api.Errno
	clash     []int
	clashE    api.Errno
	trace     []uint8
	traceE    api.Errno
	fit       []uint8
	fitE      api.Errno
}

func ask(q question) answer {
	var a answer
	a.check = grade.Check(q.s, q.g)
	a.grade, a.gradeE = grade.Grade(q.s, q.g, q.pole)
	a.strength, a.strengthE = grade.Strength(q.s, q.g, q.pole, q.section)
	a.clash, a.clashE = grade.Clash(q.s, q.g)
	a.trace, a.traceE = grade.Trace(q.s, q.g, q.groves)
	a.fit, a.fitE = grade.Fit(q.s, q.g, q.soaks)
	return a
}

func (a answer) errors() [6]api.Errno {
	return [6]api.Errno{a.check, a.gradeE, a.strengthE, a.clashE, a.traceE, a.fitE}
}

// bare tells whether there is nothing beside errors.
func (a answer) bare() bool {
	return (a.gradeE == api.OK || a.grade == 0) &&
		(a.strengthE == api.OK || a.strength == span(0, 0)) &&
		(a.clashE == api.OK || len(a.clash) == 0) &&
		(a.traceE == api.OK || len(a.trace) == 0) &&
		(a.fitE == api.OK || len(a.fit) == 0)
}

// usual asks for something to be told by each call.
func usual() question {
	s := sheet(held(4, 1, 0, 135000), broke(5, 2, 0, 162000), broke(6, 2, 1, 100000))
	s.Poles[0].Cut, s.Poles[0].Shot = 102, 99
	s.Poles[1].Place, s.Poles[2].Place = 1, 2
	return question{s: s, g: grading(), pole: 1, groves: []api.Grove{grove()}, soaks: soaks(4)}
}

// contrary is the usual question with tests that contradict each other.
func contrary() question {
	q := usual()
	q.s.Tests = append(q.s.Tests, broke(7, 2, 0, 118800))
	return q
}

// anyQuestion is a question to which there are answers, if the tests allow a truth.
func anyQuestion(r *rand.Rand) question {
	groves := []api.Grove{anyGrove(r, 3), anyGrove(r, 9)}
	q := question{g: anyGrading(r, 50), groves: groves, section: r.IntN(3)}
	for len(q.s.Poles) == 0 {
		q.s = anySheet(r, q.g, 12, 6)
	}
	for i, p := range polesOf(claimed(r, felled(groves))) {
		if i < len(q.s.Poles) {
			q.s.Poles[i].Clone, q.s.Poles[i].Cut, q.s.Poles[i].Shot = p.Clone, p.Cut, p.Shot
		}
	}
	q.pole = q.s.Poles[r.IntN(len(q.s.Poles))].Id
	for range 6 {
		q.soaks = append(q.soaks, api.Soak{Batch: anyBatch(r), Hours: r.IntN(30)})
	}
	return q
}

// TestErrorsInOrder gives calls arguments with several faults (R1), and looks at what stands beside an error (R2).
func TestErrorsInOrder(t *testing.T) {
	same := func(e api.Errno) [6]api.Errno { return [6]api.Errno{e, e, e, e, e, e} }
	badGrading := func(q *question) { q.g.Vary = -1 }
	badSheet := func(q *question) { q.s.Poles[2].Soak = 6 }
	badTest := func(q *question) { q.s.Tests[0].Force = 0 }
	noPole := func(q *question) { q.pole = 4 }
	noSection := func(q *question) { q.section = 3 }
	noGrade := func(q *question) { q.s.Poles[0].Shot = q.s.Poles[0].Cut }
	noTruth := func(q *question) { q.s.Tests[1].Force = 1 }
	badGroves := func(q *question) { q.groves = append(q.groves, q.groves...) }
	badSoaks := func(q *question) { q.soaks[0].Hours = 301 }
	all := func(q *question) {
		q.pole, q.section, q.groves, q.soaks = -1, -1, make([]api.Grove, 7), make([]api.Soak, 7)
	}
	for i, x := range []struct {
		changes []func(q *question)
		want    [6]api.Errno
	}{
		{nil, same(api.OK)},
		{[]func(q *question){badGrading, badSheet, badTest, all}, same(api.ErrGrading)},
		{[]func(q *question){badGrading, noPole}, same(api.ErrGrading)},
		{[]func(q *question){badSheet, badTest, all}, same(api.ErrSheet)},
		{[]func(q *question){badTest, all}, same(api.ErrSheet)},
		{[]func(q *question){all}, [6]api.Errno{0, api.ErrNone, api.ErrNone, 0, api.ErrGroves, api.ErrSoaks}},
		{[]func(q *question){noPole, noSection, noTruth}, [6]api.Errno{0, api.ErrNone, api.ErrNone, 0, 0, 0}},
		{[]func(q *question){noPole}, [6]api.Errno{0, api.ErrNone, api.ErrNone, 0, 0, 0}},
		{[]func(q *question){noSection, noGrade, noTruth}, [6]api.Errno{0, 0, api.ErrArg, 0, 0, 0}},
		{[]func(q *question){noSection, noTruth}, [6]api.Errno{0, 0, api.ErrArg, 0, 0, 0}},
		{[]func(q *question){noGrade, noTruth}, [6]api.Errno{0, 0, api.ErrBad, 0, 0, 0}},
		{[]func(q *question){noTruth}, [6]api.Errno{0, 0, api.ErrTests, 0, 0, 0}},
		{[]func(q *question){badGroves, noTruth}, [6]api.Errno{0, 0, api.ErrTests, 0, api.ErrGroves, 0}},
		{[]func(q *question){badSoaks}, [6]api.Errno{0, 0, 0, 0, 0, api.ErrSoaks}},
	} {
		q := usual()
		for _, change := range x.changes {
			change(&q)
		}
		if a := ask(q); a.errors() != x.want || !a.bare() {
			t.Error(i, a)
		}
	}
}

// roomy is a slice with something behind its end, and all of it.
func roomy[T any](list []T, behind T) (short, whole []T) {
	whole = append(slices.Clone(list), behind, behind)
	return whole[:len(list)], whole
}

// kept are all lists of a question, with what is behind their ends.
type kept struct {
	poles   []api.Pole
	tests   []api.Test
	grades  []api.Grade
	groves  []api.Grove
	starts  []int
	seasons []api.Season
	soaks   []api.Soak
	cells   [][]int
	core    []int
}

// withRoom gives all lists of a question something behind their ends.
func withRoom(q question) (question, kept) {
	var k kept
	q.s.Poles, k.poles = roomy(q.s.Poles, pole(77, 3, 2))
	q.s.Tests, k.tests = roomy(q.s.Tests, held(77, 1, 1, 77))
	q.g.Grades, k.grades = roomy(q.g.Grades, api.Grade{Age: 77})
	g := &q.groves[0]
	g.Start, k.starts = roomy(g.Start, 77)
	g.Seasons, k.seasons = roomy(g.Seasons, api.Season{Shots: 77})
	q.groves, k.groves = roomy(q.groves, api.Grove{Id: 77})
	b := &q.soaks[0].Batch
	b.Poles[0], k.core = roomy(b.Poles[0], 77)
	b.Poles, k.cells = roomy(b.Poles, []int{77})
	q.soaks, k.soaks = roomy(q.soaks, api.Soak{Hours: 77})
	return q, k
}

// TestArgumentsStay looks for arguments that were written to, also behind their ends (R3).
func TestArgumentsStay(t *testing.T) {
	for _, from := range []func() question{
		usual, contrary,
		func() question { q := usual(); q.groves[0].Id = -1; return q },
		func() question { q := usual(); q.soaks[0].Hours = -1; return q },
		func() question { q := usual(); q.s.Tests[2].Pole = 4; return q },
	} {
		q, k := withRoom(from())
		same, want := withRoom(from())
		ask(q)
		if !reflect.DeepEqual(q, same) || !reflect.DeepEqual(k, want) {
			t.Error(q, k)
		}
	}
}

// spoil writes all over a list, up to its capacity.
func spoil[T any](list []T, with T) {
	list = list[:cap(list)]
	for i := range list {
		list[i] = with
	}
}

// TestResultsAreNew writes over results, and looks at the arguments, and at what is told again (R3).
func TestResultsAreNew(t *testing.T) {
	for _, from := range []func() question{usual, contrary} {
		q, same := from(), from()
		want, a := ask(q), ask(q)
		if len(a.trace) != 3 || len(a.fit) != 3 {
			t.Fatal(a)
		}
		spoil(a.clash, -7)
		spoil(a.trace, 77)
		if !reflect.DeepEqual(a.fit, want.fit) {
			t.Error("two results share memory")
		}
		spoil(a.fit, 77)
		if !reflect.DeepEqual(q, same) {
			t.Error("an argument was spoilt", q)
		}
		if again := ask(q); !reflect.DeepEqual(again, want) {
			t.Error("a call remembers another one", again, want)
		}
	}
}

// TestNoCallRemembers asks for many things in two orders, and at the same time (R3).
func TestNoCallRemembers(t *testing.T) {
	r := chance(20)
	questions := []question{usual(), contrary()}
	for range 60 {
		questions = append(questions, anyQuestion(r))
	}
	want := make([]answer, len(questions))
	for i, q := range questions {
		want[i] = ask(q)
	}
	for i, q := range slices.Backward(questions) {
		if a := ask(q); !reflect.DeepEqual(a, want[i]) {
			t.Error(q, a, want[i])
		}
	}
	got := make([]answer, len(questions))
	var all sync.WaitGroup
	for i, q := range questions {
		all.Go(func() { got[i] = ask(q) })
	}
	all.Wait()
	if !reflect.DeepEqual(got, want) {
		t.Error("calls at the same time disturb each other")
	}
}

// TestNilIsEmpty gives the calls nil lists and empty ones (R4).
func TestNilIsEmpty(t *testing.T) {
	for _, x := range []struct {
		toNil, toEmpty func(q *question)
		want           [6]api.Errno
	}{
		{func(q *question) { q.s.Tests = nil }, func(q *question) { q.s.Tests = []api.Test{} }, [6]api.Errno{}},
		{func(q *question) { q.s = api.Sheet{} }, func(q *question) { q.s = api.Sheet{Poles: []api.Pole{}, Tests: []api.Test{}} }, [6]api.Errno{0, 6, 6, 0, 0, 0}},
		{func(q *question) { q.s.Poles = nil }, func(q *question) { q.s.Poles = []api.Pole{} }, [6]api.Errno{51, 51, 51, 51, 51, 51}},
		{func(q *question) { q.g.Grades = nil }, func(q *question) { q.g.Grades = []api.Grade{} }, [6]api.Errno{50, 50, 50, 50, 50, 50}},
		{func(q *question) { q.groves = nil }, func(q *question) { q.groves = []api.Grove{} }, [6]api.Errno{}},
		{func(q *question) { q.soaks = nil }, func(q *question) { q.soaks = []api.Soak{} }, [6]api.Errno{}},
		{func(q *question) { q.groves[0].Seasons = nil }, func(q *question) { q.groves[0].Seasons = []api.Season{} }, [6]api.Errno{}},
	} {
		one, other := usual(), usual()
		x.toNil(&one)
		x.toEmpty(&other)
		a, b := ask(one), ask(other)
		if !reflect.DeepEqual(a, b) || a.errors() != x.want {
			t.Error(a, b)
		}
	}
}

// TestAnyValue has values that nobody would find in a valley: they count as valid (R6).
func TestAnyValue(t *testing.T) {
	// Poles that were cut when they shot, and one that was cut after three thousand years, by a grading that takes all.
	g := plain(1, 200000, 200000)
	s := api.Sheet{Poles: []api.Pole{{Girths: [3]int{10, 300, 10}, Walls: [3]int{5, 1, 5}}, {Id: 9999, Clone: 9999, Cut: 3000, Girths: [3]int{10, 10, 300}, Walls: [3]int{1, 1, 60}, Soak: 5, Place: 3}}}
	wantGrade(t, s, g, 0, 1)
	wantGrade(t, s, g, 9999, 1)
	// 3 times 299, and 3 times 60 times 240.
	wantStrength(t, s, g, 0, 1, span(0, 179400))
	wantStrength(t, s, g, 9999, 2, span(43, 1000000))
	// Nothing that is thicker at the top is refused, nor a force that nothing can hold, nor two tests that say the same.
	wantClash(t, with(s, held(0, 0, 0, 1000000), held(9999, 0, 0, 1000000)), g, 0)
	wantClash(t, with(s, held(0, 9999, 2, 1000000), held(9999, 9999, 2, 1000000)), g)
	// A worse grade may be the stronger one.
	g.Grades = append(g.Grades, api.Grade{Age: 6, Wall: 1, Stress: alike(1, 1)})
	wantStrength(t, s, g, 9999, 2, span(43, 43))
}

// odd are numbers at the ends of ranges, and others far from them.
func odd() []int {
	return []int{math.MinInt, math.MinInt + 1, -1 << 32, -1, 0, 1, 2, 3, 4, 6, 8, 10, 60, 100, 101, 102, 300, 301, 1000, 3000, 9999, 40000, 200000, 1000000, 1000001, 1 << 32, math.MaxInt - 1, math.MaxInt}
}

// numbersOf are all numbers of a question that are in no list of a list.
func numbersOf(r *rand.Rand, q *question) []*int {
	p, x, g := &q.s.Poles[r.IntN(3)], &q.s.Tests[r.IntN(3)], &q.g.Grades[r.IntN(2)]
	section := r.IntN(3)
	return []*int{
		&p.Id, &p.Clone, &p.Cut, &p.Shot, &p.Girths[section], &p.Walls[section], &p.Soak, &p.Place,
		&x.Id, &x.Pole, &x.Section, &x.Force,
		&g.Age, &g.Wall, &g.Stress[section].Lo, &g.Stress[section].Hi, &q.g.Vary,
		&q.pole, &q.section, &q.groves[0].Id, &q.groves[0].First, &q.soaks[0].Hours, &q.soaks[0].Batch.Need,
	}
}

// TestOddArguments gives the calls numbers and lists of all kinds: each call ends, without a panic, and all of them agree on what is valid (R5, R7).
func TestOddArguments(t *testing.T) {
	r := chance(21)
	numbers := odd()
	valid := 0
	for range 20000 {
		q := usual()
		for range r.IntN(4) {
			all := numbersOf(r, &q)
			*all[r.IntN(len(all))] = numbers[r.IntN(len(numbers))]
		}
		switch r.IntN(20) {
		case 0:
			q.s.Poles = append(q.s.Poles, make([]api.Pole, r.IntN(15))...)
		case 1:
			q.s.Tests = append(q.s.Tests, make([]api.Test, r.IntN(30))...)
		case 2:
			q.g.Grades = append(q.g.Grades, make([]api.Grade, r.IntN(4))...)
		case 3:
			q.groves = append(q.groves, make([]api.Grove, r.IntN(8))...)
		case 4:
			q.soaks = append(q.soaks, make([]api.Soak, r.IntN(8))...)
		case 5:
			q.s.Poles = q.s.Poles[:r.IntN(3)]
		}
		a := ask(q)
		if a.check == api.OK {
			valid++
		}
		for _, e := range a.errors() {
			if e != a.check && (a.check != api.OK || e == api.ErrGrading || e == api.ErrSheet) {
				t.Fatal(q, a)
			}
		}
		if !a.bare() {
			t.Fatal(q, a)
		}
	}
	if valid < 2000 || valid > 18000 {
		t.Error("one kind of answer was hardly met", valid)
	}
}

// TestGreatest has the greatest number of everything, so that each call has most to do (R7).
func TestGreatest(t *testing.T) {
	s := row(12)
	for i := range s.Poles {
		s.Poles[i].Shot, s.Poles[i].Cut, s.Poles[i].Soak, s.Poles[i].Place = 99, 102, i/2, 3
		s.Poles[i].Clone = i / 2
	}
	var groves []api.Grove
	var list []api.Soak
	for id := range 6 {
		g := grove()
		g.Id = id
		g.Seasons = append(g.Seasons, make([]api.Season, 57)...)
		groves = append(groves, g)
		cells := make([]int, 6)
		list = append(list, api.Soak{Batch: api.Batch{Water: 10000, Borax: 100000, Poles: [][]int{cells, cells, cells, cells}, Spread: span(1, 250), Need: 1000}, Hours: 300})
	}
	g := plain(1, 200000, 200000)
	g.Grades = slices.Repeat(g.Grades, 3)
	for id := range 20 {
		s.Tests = append(s.Tests, held(id, id%12, id%3, 300000+id))
	}
	s.Tests[19].Held, s.Tests[19].Pole, s.Tests[19].Section, s.Tests[19].Force = false, 6, 0, 300006
	a := ask(question{s: s, g: g, pole: 11, section: 2, groves: groves, soaks: list})
	want := answer{grade: 3, strengthE: api.ErrTests, clash: []int{6, 19}, trace: slices.Repeat([]uint8{api.KnownYes}, 12), fit: make([]uint8, 12)}
	if !reflect.DeepEqual(a, want) {
		t.Error(a, want)
	}
}
