package pool_test

import (
	"math/rand/v2"
	"reflect"
	"slices"
	"sync"
	"testing"

	"canebrake/api"
	"canebrake/pool"
)

// question is arguments for all calls of the package. Sheet and grading are those of the market.
type question struct {
	market
	groves []api.Grove
	soaks  []api.Soak
	papers []api.Paper
}

// answer is all that the calls return.
type answer struct {
	check   api.Errno
	dues    []api.Due
	settleE api.Errno
	known   []uint8
	judgeE  api.Errno
	abroad  []int
	abroadE api.Errno
}

func ask(q question) answer {
	var a answer
	b := library{q.s, q.g, q.groves, q.soaks}
	a.check = pool.Check(q.c, q.s, q.g, q.l)
	a.dues, a.settleE = q.settle()
	a.known, a.judgeE = b.judge(q.papers)
	a.abroad, a.abroadE = b.abroad(q.papers)
	return a
}

func (a answer) errors() [4]api.Errno {
	return [4]api.Errno{a.check, a.settleE, a.judgeE, a.abroadE}
}

// bare tells whether there is nothing beside errors.
func (a answer) bare() bool {
	return (a.settleE == api.OK || len(a.dues) == 0) && (a.judgeE == api.OK || len(a.known) == 0) && (a.abroadE == api.OK || len(a.abroad) == 0)
}

// usual asks for something to be told by each call.
func usual() question {
	b := shelf()
	m := market{both(), b.s, b.g, delivered([2]int{4, 1}, [2]int{4, 2}, [2]int{4, 3}, [2]int{6, 9}), 100}
	m.c.Prices[0] = 7
	l := papers(treated(3), paper(3, api.PaperOrigin, 7), treated(1), paper(1, api.PaperBears, 135000), treated(2), paper(9, api.PaperGrade, 0), paper(9, api.PaperBears, 1))
	return question{m, b.groves, b.soaks, l}
}

// contrary is the usual question with tests that contradict each other.
func contrary() question {
	q := usual()
	q.s.Tests = append(q.s.Tests, api.Test{Id: 6, Pole: 2, Force: 118800})
	return q
}

// anyQuestion is a question to which there are answers.
func anyQuestion(r *rand.Rand) question {
	b, x := anyLibrary(r)
	var clones []int
	for _, p := range b.s.Poles {
		clones = append(clones, p.Clone)
	}
	slices.Sort(clones)
	m := market{c: anyCoop(r), s: b.s, g: b.g, proceeds: r.IntN(1000)}
	m.c.Prices = [4]int{1, 10, 25, 40}
	m.c.Holders = nil
	for _, clone := range slices.Compact(clones) {
		m.c.Holders = append(m.c.Holders, api.Holder{Family: r.IntN(4), Clone: clone})
	}
	for len(m.l) == 0 {
		m.l = anyDeliveries(r, m)
	}
	return question{m, b.groves, b.soaks, anyPapers(r, b, x, among(r, 1, 12))}
}

// TestUsual looks at what is told of the usual question, and of one with tests that contradict each other.
func TestUsual(t *testing.T) {
	want := answer{
		dues:   []api.Due{due(4, 60, 17, 90), due(6, 7, 2, 10)},
		known:  []uint8{2, 2, 2, 2, 1, 2, 0},
		abroad: []int{1, 3},
	}
	if a := ask(usual()); !reflect.DeepEqual(a, want) {
		t.Error(a, want)
	}
	want.known[3], want.abroad = 0, []int{3}
	if a := ask(contrary()); !reflect.DeepEqual(a, want) {
		t.Error(a, want)
	}
}

// TestErrorsInOrder gives calls arguments with several faults (R1), and looks at what stands beside an error (R2).
func TestErrorsInOrder(t *testing.T) {
	badGrading := func(q *question) { q.g.Vary = -1 }
	noGrades := func(q *question) { q.g.Grades = nil }
	badSheet := func(q *question) { q.s.Poles[2].Soak = 6 }
	badTest := func(q *question) { q.s.Tests[0].Force = 0 }
	badCoop := func(q *question) { q.c.Rate = 1001 }
	badHolder := func(q *question) { q.c.Holders[1].Clone = 7 }
	badDelivery := func(q *question) { q.l[3].Pole = 1 }
	noHolder := func(q *question) { q.c.Holders = nil }
	badProceeds := func(q *question) { q.proceeds = 1000000001 }
	noValue := func(q *question) { q.c.Prices = [4]int{} }
	noDelivery := func(q *question) { q.l = nil }
	badGroves := func(q *question) { q.groves = append(q.groves, q.groves...) }
	badSoaks := func(q *question) { q.soaks[0].Hours = 301 }
	badPaper := func(q *question) { q.papers[6].N = 0 }
	badKind := func(q *question) { q.papers[0].Kind = 5 }
	noTruth := func(q *question) { q.s.Tests[1].Force = 118800 }
	type changes = []func(q *question)
	for i, x := range []struct {
		changes changes
		want    [4]api.Errno
	}{
		{nil, [4]api.Errno{0, 0, 0, 0}},
		{changes{badGrading, badSheet, badCoop, badDelivery, badProceeds, badGroves, badSoaks, badPaper}, [4]api.Errno{50, 50, 50, 50}},
		{changes{noGrades, badTest, badHolder, noHolder, noValue, badSoaks, badKind}, [4]api.Errno{50, 50, 50, 50}},
		{changes{badGrading, noValue}, [4]api.Errno{50, 50, 50, 50}},
		{changes{badSheet, badCoop, badDelivery, badProceeds, badGroves, badSoaks, badPaper}, [4]api.Errno{51, 51, 51, 51}},
		{changes{badTest, badHolder, noDelivery, badGroves}, [4]api.Errno{51, 51, 51, 51}},
		{changes{badTest, badSoaks, badPaper}, [4]api.Errno{51, 51, 51, 51}},
		{changes{badCoop, badDelivery, badProceeds, noValue}, [4]api.Errno{100, 100, 0, 0}},
		{changes{badHolder, noDelivery, badProceeds}, [4]api.Errno{100, 100, 0, 0}},
		{changes{badDelivery, badProceeds, noValue}, [4]api.Errno{101, 101, 0, 0}},
		{changes{noHolder, badProceeds}, [4]api.Errno{101, 101, 0, 0}},
		{changes{noHolder, noValue}, [4]api.Errno{101, 101, 0, 0}},
		{changes{badProceeds, noValue}, [4]api.Errno{0, 2, 0, 0}},
		{changes{badProceeds, noDelivery}, [4]api.Errno{0, 2, 0, 0}},
		{changes{noValue}, [4]api.Errno{0, 6, 0, 0}},
		{changes{noDelivery, noHolder}, [4]api.Errno{0, 6, 0, 0}},
		{changes{badGroves, badSoaks, badPaper}, [4]api.Errno{0, 0, 53, 53}},
		{changes{badGroves, badKind, noTruth}, [4]api.Errno{0, 0, 53, 53}},
		{changes{badSoaks, badPaper}, [4]api.Errno{0, 0, 54, 54}},
		{changes{badSoaks, badKind, badCoop}, [4]api.Errno{100, 100, 54, 54}},
		{changes{badPaper, badDelivery}, [4]api.Errno{101, 101, 102, 102}},
		{changes{badKind, badProceeds}, [4]api.Errno{0, 2, 102, 102}},
		{changes{badPaper, noTruth}, [4]api.Errno{0, 0, 102, 102}},
		{changes{noTruth}, [4]api.Errno{0, 0, 0, 0}},
	} {
		q := usual()
		for _, change := range x.changes {
			change(&q)
		}
		if a := ask(q); a.errors() != x.want || !a.bare() {
			t.Error(i, a)
		}
	}
}

// roomy is a slice with something behind its end, and all of it.
func roomy[T any](list []T, behind T) (short, whole []T) {
	whole = append(slices.Clone(list), behind, behind)
	return whole[:len(list)], whole
}

// kept are all lists of a question, with what is behind their ends.
type kept struct {
	holders    []api.Holder
	deliveries []api.Delivery
	papers     []api.Paper
	poles      []api.Pole
	tests      []api.Test
	grades     []api.Grade
	groves     []api.Grove
	starts     []int
	seasons    []api.Season
	soaks      []api.Soak
	cells      [][]int
	core       []int
}

// withRoom gives all lists of a question something behind their ends.
func withRoom(q question) (question, kept) {
	var k kept
	q.c.Holders, k.holders = roomy(q.c.Holders, api.Holder{Family: 77, Clone: 77})
	q.l, k.deliveries = roomy(q.l, api.Delivery{Id: 77, Family: 77, Pole: 77})
	q.papers, k.papers = roomy(q.papers, paper(77, 77, 77))
	q.s.Poles, k.poles = roomy(q.s.Poles, pole(77, 3, 2))
	q.s.Tests, k.tests = roomy(q.s.Tests, api.Test{Id: 77})
	q.g.Grades, k.grades = roomy(q.g.Grades, api.Grade{Age: 77})
	q.groves, k.groves = roomy(slices.Clone(q.groves), api.Grove{Id: 77})
	g := &q.groves[0]
	g.Start, k.starts = roomy(g.Start, 77)
	g.Seasons, k.seasons = roomy(g.Seasons, api.Season{Shots: 77})
	q.soaks, k.soaks = roomy(slices.Clone(q.soaks), api.Soak{Hours: 77})
	b := &q.soaks[0].Batch
	b.Poles, k.cells = roomy(slices.Clone(b.Poles), []int{77})
	b.Poles[0], k.core = roomy(b.Poles[0], 77)
	return q, k
}

// TestArgumentsStay looks for arguments that were written to, also behind their ends (R3).
func TestArgumentsStay(t *testing.T) {
	r := chance(13)
	froms := []func() question{
		usual, contrary,
		func() question { q := usual(); q.groves[0].Id = -1; return q },
		func() question { q := usual(); q.soaks[0].Hours = -1; return q },
		func() question { q := usual(); q.papers[2].N = -1; return q },
		func() question { q := usual(); q.l[2].Pole = 1; return q },
		func() question { q := usual(); q.proceeds = -1; return q },
	}
	for range 100 {
		q := anyQuestion(r)
		froms = append(froms, func() question { return q })
	}
	for _, from := range froms {
		q, k := withRoom(from())
		same, want := withRoom(from())
		ask(q)
		if !reflect.DeepEqual(q, same) || !reflect.DeepEqual(k, want) {
			t.Error(q, k)
		}
	}
}

// spoil writes all over a list, up to its capacity.
func spoil[T any](list []T, with T) {
	list = list[:cap(list)]
	for i := range list {
		list[i] = with
	}
}

// TestResultsAreNew writes over results, and looks at the arguments, at other results, and at what is told again (R3).
func TestResultsAreNew(t *testing.T) {
	for _, from := range []func() question{usual, contrary} {
		q, same := from(), from()
		want, a, b := ask(q), ask(q), ask(q)
		if len(a.dues) != 2 || len(a.known) != 7 || len(a.abroad) == 0 {
			t.Fatal(a)
		}
		spoil(a.dues, due(77, 77, 77, 77))
		spoil(a.known, 77)
		spoil(a.abroad, -7)
		if !reflect.DeepEqual(q, same) {
			t.Error("an argument was spoilt", q)
		}
		if again := ask(q); !reflect.DeepEqual(again, want) || !reflect.DeepEqual(b, want) {
			t.Error("a call remembers another one", again, b, want)
		}
		// Nor does a result change with an argument.
		spoil(q.c.Holders, api.Holder{Family: -7})
		spoil(q.l, api.Delivery{Family: -7})
		spoil(q.papers, paper(-7, 7, -7))
		spoil(q.s.Poles, api.Pole{Id: -7})
		spoil(q.s.Tests, api.Test{Id: -7})
		spoil(q.g.Grades, api.Grade{Age: -7})
		if !reflect.DeepEqual(b, want) {
			t.Error("a result shares memory with an argument", b, want)
		}
	}
}

// TestNoCallRemembers asks for many things in two orders, and at the same time (R3).
func TestNoCallRemembers(t *testing.T) {
	r := chance(14)
	questions := []question{usual(), contrary()}
	for range 150 {
		questions = append(questions, anyQuestion(r))
	}
	want := make([]answer, len(questions))
	for i, q := range questions {
		want[i] = ask(q)
	}
	for i, q := range slices.Backward(questions) {
		if a := ask(q); !reflect.DeepEqual(a, want[i]) {
			t.Error(q, a, want[i])
		}
	}
	got := make([]answer, len(questions))
	var all sync.WaitGroup
	for i, q := range questions {
		all.Go(func() { got[i] = ask(q) })
	}
	all.Wait()
	if !reflect.DeepEqual(got, want) {
		t.Error("calls at the same time disturb each other")
	}
}

// TestNilIsEmpty gives the calls nil lists and empty ones (R4).
func TestNilIsEmpty(t *testing.T) {
	for i, x := range []struct {
		toNil, toEmpty func(q *question)
		want           [4]api.Errno
	}{
		{func(q *question) { q.c.Holders = nil }, func(q *question) { q.c.Holders = []api.Holder{} }, [4]api.Errno{101, 101, 0, 0}},
		{func(q *question) { q.c.Holders, q.l = nil, nil }, func(q *question) { q.c.Holders, q.l = []api.Holder{}, []api.Delivery{} }, [4]api.Errno{0, 6, 0, 0}},
		{func(q *question) { q.l = nil }, func(q *question) { q.l = []api.Delivery{} }, [4]api.Errno{0, 6, 0, 0}},
		{func(q *question) { q.s = api.Sheet{} }, func(q *question) { q.s = api.Sheet{Poles: []api.Pole{}, Tests: []api.Test{}} }, [4]api.Errno{101, 101, 102, 102}},
		{func(q *question) { q.s, q.l, q.papers = api.Sheet{}, nil, nil }, func(q *question) {
			q.s, q.l, q.papers = api.Sheet{Poles: []api.Pole{}, Tests: []api.Test{}}, []api.Delivery{}, []api.Paper{}
		}, [4]api.Errno{0, 6, 0, 0}},
		{func(q *question) { q.s.Tests = nil }, func(q *question) { q.s.Tests = []api.Test{} }, [4]api.Errno{0, 0, 0, 0}},
		{func(q *question) { q.g.Grades = nil }, func(q *question) { q.g.Grades = []api.Grade{} }, [4]api.Errno{50, 50, 50, 50}},
		{func(q *question) { q.groves = nil }, func(q *question) { q.groves = []api.Grove{} }, [4]api.Errno{0, 0, 0, 0}},
		{func(q *question) { q.soaks = nil }, func(q *question) { q.soaks = []api.Soak{} }, [4]api.Errno{0, 0, 0, 0}},
		{func(q *question) { q.papers = nil }, func(q *question) { q.papers = []api.Paper{} }, [4]api.Errno{0, 0, 0, 0}},
	} {
		one, other := usual(), usual()
		x.toNil(&one)
		x.toEmpty(&other)
		a, b := ask(one), ask(other)
		if !reflect.DeepEqual(a, b) || a.errors() != x.want {
			t.Error(i, a, b)
		}
	}
}

// TestAnyValue has values that nobody would find in a valley: they count as valid (R6).
func TestAnyValue(t *testing.T) {
	// A pole that was cut when it shot, of the Ids 0 and 9,999, papers that contradict each other, and a family that holds two clones of which it delivers nothing.
	g := api.Grading{Grades: []api.Grade{{Wall: 1, Stress: alike(200000, 200000)}}}
	first := api.Pole{Girths: [3]int{10, 300, 10}, Walls: [3]int{5, 1, 5}}
	last := api.Pole{Id: 9999, Clone: 9999, Cut: 3000, Girths: [3]int{10, 10, 300}, Walls: [3]int{1, 1, 60}, Soak: 5, Place: 3}
	s := api.Sheet{Poles: []api.Pole{first, last}}
	c := api.Coop{Holders: []api.Holder{{Family: 99, Clone: 0}, {Family: 5, Clone: 3}, {Family: 5, Clone: 4}, {Family: 0, Clone: 9999}}, Prices: [4]int{0, 1, 1, 1000000}, Rate: 1000}
	l := []api.Delivery{{Id: 0, Family: 0, Pole: 9999}, {Id: 9999, Family: 99, Pole: 0}}
	wantDues(t, market{c, s, g, l, 1}, due(0, 1, 1, 1), due(99, 1, 1, 0))
	told := []api.Paper{{Id: 0, Pole: 9999, Kind: 3, N: 9999}, {Id: 1, Pole: 0, Kind: 3, N: 0}, {Id: 2, Pole: 0, Kind: 3, N: 9999}, {Id: 3, Pole: 0, Kind: 2, N: 1}, {Id: 4, Pole: 0, Kind: 2, N: 3}, {Id: 9999, Pole: 0, Kind: 4, N: 15000}}
	wantJudged(t, library{s: s, g: g}, told, 0, 0, 0, 2, 0, 2)
	wantAbroad(t, library{s: s, g: g}, told)
}

// numbersOf are the numbers of a question that are in no list of a list.
func numbersOf(r *rand.Rand, q *question) []*int {
	h, d, l, p, x, g := &q.c.Holders[r.IntN(2)], &q.l[r.IntN(4)], &q.papers[r.IntN(7)], &q.s.Poles[r.IntN(4)], &q.s.Tests[r.IntN(2)], &q.g.Grades[r.IntN(2)]
	return []*int{
		&h.Family, &h.Clone, &q.c.Prices[r.IntN(4)], &q.c.Rate,
		&d.Id, &d.Family, &d.Pole, &q.proceeds, &q.proceeds, &q.proceeds,
		&l.Id, &l.Pole, &l.N, &l.N,
		&p.Id, &p.Clone, &p.Cut, &p.Shot, &p.Walls[r.IntN(3)], &p.Soak, &p.Place,
		&x.Pole, &x.Force, &g.Age, &g.Stress[0].Lo, &q.g.Vary,
		&q.groves[0].Id, &q.groves[0].First, &q.soaks[0].Hours, &q.soaks[0].Batch.Need,
	}
}

// TestOddArguments gives the calls numbers and lists of all kinds: each call ends, without a panic, and all of them agree on what is valid (R5, R7).
func TestOddArguments(t *testing.T) {
	r := chance(15)
	numbers := odd()
	met := map[api.Errno]int{}
	for range 40000 {
		q := usual()
		for range r.IntN(4) {
			all := numbersOf(r, &q)
			*all[r.IntN(len(all))] = numbers[r.IntN(len(numbers))]
		}
		switch r.IntN(20) {
		case 0:
			q.c.Holders = append(q.c.Holders, make([]api.Holder, r.IntN(30))...)
		case 1:
			q.l = append(q.l, make([]api.Delivery, r.IntN(15))...)
		case 2:
			q.papers = append(q.papers, make([]api.Paper, r.IntN(45))...)
		case 3:
			q.s.Poles = q.s.Poles[:r.IntN(4)]
		case 4:
			q.papers[r.IntN(7)].Kind = uint8(r.IntN(256))
		case 5:
			q.groves = append(q.groves, make([]api.Grove, r.IntN(8))...)
		case 6:
			q.soaks = append(q.soaks, make([]api.Soak, r.IntN(8))...)
		case 7:
			q.c.Prices = [4]int{}
		case 8:
			q.g.Grades = q.g.Grades[:r.IntN(3)]
		}
		a := ask(q)
		if !agree(a) || !a.bare() {
			t.Fatal(q, a)
		}
		for _, e := range a.errors() {
			met[e]++
		}
	}
	for _, e := range []api.Errno{api.OK, api.ErrArg, api.ErrNone, api.ErrGrading, api.ErrSheet, api.ErrGroves, api.ErrSoaks, api.ErrCoop, api.ErrDeliveries, api.ErrPapers} {
		if met[e] < 300 {
			t.Error("one kind of answer was hardly met", e, met[e])
		}
	}
}

// agree tells whether calls agree on what is valid, and only return errors of their own.
func agree(a answer) bool {
	if a.check == api.ErrGrading || a.check == api.ErrSheet {
		return a.settleE == a.check && a.judgeE == a.check && a.abroadE == a.check
	}
	settled := a.settleE == a.check && slices.Contains([]api.Errno{api.ErrCoop, api.ErrDeliveries}, a.check) ||
		a.check == api.OK && slices.Contains([]api.Errno{api.OK, api.ErrArg, api.ErrNone}, a.settleE)
	judged := slices.Contains([]api.Errno{api.OK, api.ErrGroves, api.ErrSoaks, api.ErrPapers}, a.judgeE)
	return settled && judged && a.abroadE == a.judgeE
}

// TestGreatest has the greatest number of everything, so that each call has most to do (R7).
func TestGreatest(t *testing.T) {
	q := question{market: market{c: api.Coop{Prices: [4]int{1000000, 1000000, 1000000, 1000000}, Rate: 1000}, proceeds: 1000000000}}
	stress := api.Grade{Wall: 1, Stress: alike(1, 200000)}
	q.g = api.Grading{Grades: []api.Grade{stress, stress, stress}, Vary: 200000}
	for i := range 24 {
		q.c.Holders = append(q.c.Holders, api.Holder{Family: 99 - i, Clone: i})
	}
	for i := range 12 {
		p := pole(i, i, 102)
		p.Soak, p.Place = i/2, 3
		q.s.Poles = append(q.s.Poles, p)
		q.l = append(q.l, api.Delivery{Id: i, Family: 99 - i, Pole: i})
	}
	for id := range 20 {
		q.s.Tests = append(q.s.Tests, api.Test{Id: id, Pole: id % 12, Section: id % 3, Force: 2000, Held: true})
	}
	for id := range 6 {
		g := grove()
		g.Id = id
		g.Seasons = append(g.Seasons, make([]api.Season, 59)...)
		cells := make([]int, 6)
		q.groves = append(q.groves, g)
		q.soaks = append(q.soaks, api.Soak{Batch: api.Batch{Water: 10000, Borax: 100000, Poles: [][]int{cells, cells, cells, cells}, Spread: span(1, 250), Need: 1000}, Hours: 300})
	}
	for id := range 40 {
		kind := uint8(id%4 + 1)
		n := []int{0, 0, 3, id % 12, 1000000}[kind]
		q.papers = append(q.papers, api.Paper{Id: id, Pole: id % 12, Kind: kind, N: n})
	}
	a := ask(q)
	if a.errors() != [4]api.Errno{} || len(a.dues) != 12 || len(a.known) != 40 || len(a.abroad) != 0 {
		t.Fatal(a)
	}
	for i, d := range a.dues {
		share := 83333333
		if i < 4 {
			share++
		}
		if d != due(88+i, 1000000, 1000000, share) {
			t.Error(d)
		}
	}
}
