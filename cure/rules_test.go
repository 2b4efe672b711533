package cure_test

import (
	"math"
	"math/rand/v2"
	"reflect"
	"slices"
	"sync"
	"testing"

	"canebrake/api"
	"canebrake/cure"
)

// question is arguments for all calls of the package.
type question struct {
	b             api.Batch
	spread, hours int
	d             api.Drying
	p             api.Pond
	drains        []int
}

// answer is all that the calls return.
type answer struct {
	check    api.Errno
	borax    int
	poles    [][]int
	runE     api.Errno
	treated  []uint8
	treatedE api.Errno
	ready    int
	readyE   api.Errno
	dry      int
	dryE     api.Errno
	levels   []api.Span
	first    int
	levelsE  api.Errno
}

func ask(q question) answer {
	var a answer
	a.check = cure.Check(q.b)
	a.borax, a.poles, a.runE = cure.Run(q.b, q.spread, q.hours)
	a.treated, a.treatedE = cure.Treated(q.b, q.hours)
	a.ready, a.readyE = cure.Ready(q.b)
	a.dry, a.dryE = cure.Dry(q.d)
	a.levels, a.first, a.levelsE = cure.Levels(q.p, q.drains)
	return a
}

// bare tells whether there is nothing beside errors.
func bare(a answer) bool {
	return (a.runE == api.OK || a.borax == 0 && len(a.poles) == 0) &&
		(a.treatedE == api.OK || len(a.treated) == 0) &&
		(a.readyE == api.OK || a.ready == 0) &&
		(a.dryE == api.OK || a.dry == 0) &&
		(a.levelsE == api.OK || len(a.levels) == 0 && a.first == 0)
}

// usual asks for something to be told by each call.
func usual() question {
	return question{
		b:      vat(30, 1600, 130, 133, 21, []int{0, 68, 0, 6}, []int{10}, []int{30, 20, 10}),
		spread: 132,
		hours:  37,
		d:      drying(800, 1000, 100, 200, 600),
		p:      pond(300, 500, 200),
		drains: []int{150, 100, 0},
	}
}

// anyQuestion is a question to which there are answers.
func anyQuestion(r *rand.Rand) question {
	q := question{b: anyBatch(r, 8), hours: r.IntN(301), d: anyDrying(r, 1001)}
	q.spread = among(r, q.b.Spread.Lo, q.b.Spread.Hi)
	q.p, q.drains = anyPond(r, 1001, 40, 100000)
	return q
}

// TestErrorsInOrder gives calls arguments with several faults (R1), and looks at what stands beside an error (R2).
func TestErrorsInOrder(t *testing.T) {
	empty := vat(10, 0, 5, 6, 1, []int{0})
	for i, x := range []struct {
		b             api.Batch
		spread, hours int
		want          [4]api.Errno // of Check, Run, Treated and Ready
	}{
		{vat(9, 0, 5, 6, 1, []int{0}), 4, 301, [4]api.Errno{40, 40, 40, 40}},
		{vat(10, 0, 5, 6, 1), 5, -1, [4]api.Errno{40, 40, 40, 40}},
		{vat(10, 0, 5, 6, 1, []int{1001}), 5, 0, [4]api.Errno{40, 40, 40, 40}},
		{vat(10, 0, 7, 6, 1, []int{0}), 7, 0, [4]api.Errno{40, 40, 40, 40}},
		{empty, 4, 301, [4]api.Errno{0, api.ErrArg, api.ErrArg, api.ErrNone}},
		{empty, 4, 300, [4]api.Errno{0, api.ErrArg, 0, api.ErrNone}},
		{empty, 7, 0, [4]api.Errno{0, api.ErrArg, 0, api.ErrNone}},
		{empty, 5, -1, [4]api.Errno{0, api.ErrArg, api.ErrArg, api.ErrNone}},
		{empty, 6, 300, [4]api.Errno{0, 0, 0, api.ErrNone}},
		{vat(10, 0, 5, 6, 1, []int{1}), 7, 301, [4]api.Errno{0, api.ErrArg, api.ErrArg, 0}},
		{vat(10, 0, 5, 6, 1, []int{1}), 5, 0, [4]api.Errno{}},
	} {
		q := usual()
		q.b, q.spread, q.hours = x.b, x.spread, x.hours
		a := ask(q)
		if got := [4]api.Errno{a.check, a.runE, a.treatedE, a.readyE}; got != x.want || !bare(a) {
			t.Error(i, got, a)
		}
	}
	q := usual()
	q.d, q.p = drying(800, 1000, 0, 1001, 1000), pond(300, 1001, 200)
	if a := ask(q); a.dryE != api.ErrDry || a.levelsE != api.ErrPond || !bare(a) {
		t.Error(a)
	}
	q.d, q.p, q.drains = drying(800, 1000, 0, 1000, 999), pond(300, 1000, 200), []int{500, -1}
	if a := ask(q); a.dryE != api.ErrNone || a.levelsE != api.ErrPond || !bare(a) {
		t.Error(a)
	}
}

// roomy is a slice with something behind its end, and all of it.
func roomy[T any](list []T, behind T) (short, whole []T) {
	whole = append(slices.Clone(list), behind, behind)
	return whole[:len(list)], whole
}

// TestArgumentsStay looks for arguments that were written to, also behind their ends (R3).
func TestArgumentsStay(t *testing.T) {
	for _, change := range []func(q *question){func(q *question) {}, func(q *question) { q.hours = 301 }, func(q *question) { q.b.Poles[2][2] = -1 }} {
		q := usual()
		change(&q)
		var wholes, wants [][]int
		keep := func(list []int) []int {
			short, whole := roomy(list, 77)
			wholes, wants = append(wholes, whole), append(wants, slices.Clone(whole))
			return short
		}
		for i, cells := range q.b.Poles {
			q.b.Poles[i] = keep(cells)
		}
		q.drains = keep(q.drains)
		poles, wholePoles := roomy(q.b.Poles, []int{77})
		wantPoles := copied(api.Batch{Poles: wholePoles}).Poles
		q.b.Poles = poles
		ask(q)
		if !samePoles(wholes, wants) || !samePoles(wholePoles, wantPoles) {
			t.Error(wholes, wholePoles)
		}
	}
}

// spoil writes all over a list, up to its capacity.
func spoil[T any](list []T, with T) {
	list = list[:cap(list)]
	for i := range list {
		list[i] = with
	}
}

// TestResultsAreNew writes over results, one after the other, and looks at all others, at the arguments, and at what is told again (R3).
func TestResultsAreNew(t *testing.T) {
	for _, hours := range []int{0, 1, 37, 300} {
		q, same := usual(), usual()
		q.hours, same.hours = hours, hours
		want, a := ask(q), ask(q)
		for i := range a.poles {
			spoil(a.poles[i], -7)
			for k := i + 1; k < len(a.poles); k++ {
				if !slices.Equal(a.poles[k], want.poles[k]) {
					t.Error("two results share memory", i, k)
				}
			}
		}
		spoil(a.poles, nil)
		spoil(a.treated, 7)
		spoil(a.levels, span(-7, -7))
		if !reflect.DeepEqual(q, same) {
			t.Error("an argument was spoilt", q)
		}
		if again := ask(q); !reflect.DeepEqual(again, want) {
			t.Error("a call remembers another one", again, want)
		}
	}
}

// TestNoCallRemembers asks for many things in two orders, and at the same time (R3).
func TestNoCallRemembers(t *testing.T) {
	r := chance(20)
	var questions []question
	for range 60 {
		questions = append(questions, anyQuestion(r))
	}
	want := make([]answer, len(questions))
	for i, q := range questions {
		want[i] = ask(q)
	}
	for i, q := range slices.Backward(questions) {
		if a := ask(q); !reflect.DeepEqual(a, want[i]) {
			t.Error(q, a, want[i])
		}
	}
	got := make([]answer, len(questions))
	var all sync.WaitGroup
	for i, q := range questions {
		all.Go(func() { got[i] = ask(q) })
	}
	all.Wait()
	if !reflect.DeepEqual(got, want) {
		t.Error("calls at the same time disturb each other")
	}
}

// TestNilIsEmpty gives the calls nil lists and empty ones (R4).
func TestNilIsEmpty(t *testing.T) {
	wantSame := func(one, other question, check api.Errno) {
		t.Helper()
		a, b := ask(one), ask(other)
		a.levels, b.levels = append([]api.Span{}, a.levels...), append([]api.Span{}, b.levels...)
		if !reflect.DeepEqual(a, b) || a.check != check || a.levelsE != api.OK {
			t.Error(a, b)
		}
	}
	one, other := usual(), usual()
	one.drains, other.drains = nil, []int{}
	wantSame(one, other, api.OK)
	one.b.Poles, other.b.Poles = nil, [][]int{}
	wantSame(one, other, api.ErrBatch)
	one.b.Poles, other.b.Poles = [][]int{{1}, nil}, [][]int{{1}, {}}
	wantSame(one, other, api.ErrBatch)
	if l, first, e := cure.Levels(pond(0, 0, 0), nil); len(l) != 0 || first != -1 || e != api.OK {
		t.Error(l, first, e)
	}
}

// TestAnyValue has values that nobody would find in a valley: they count as valid (R6).
func TestAnyValue(t *testing.T) {
	// A vat of solid borax, with cores that need all that a cell can have.
	wantReady(t, vat(10, 100000, 250, 250, 1000, []int{0}, []int{1000}), 1, api.OK)
	// Poles with more inside than outside, in plain water.
	wantTreated(t, vat(10000, 0, 1, 250, 1000, []int{0, 0, 0, 0, 0, 1000}), 300, api.KnownYes)
	// Poles that are as dry as stone, or all water, and lose nothing.
	wantDry(t, drying(0, 1000, 0, 0, 1000), 0, api.OK)
	wantDry(t, drying(1000, 1000, 0, 0, 0), 0, api.ErrNone)
	// A pond that is no pond, but loses all each day.
	wantLevels(t, pond(1000, 1000, 0), []int{0, 100000}, 1, span(0, 0), span(100000, 100000))
}

// TestOddArguments gives the calls numbers and lists of all kinds: each call ends, without a panic, and all of them agree on what is valid (R5, R7).
func TestOddArguments(t *testing.T) {
	r := chance(21)
	odd := []int{math.MinInt, math.MinInt + 1, -1 << 32, -1, 0, 1, 2, 9, 10, 130, 132, 250, 251, 300, 301, 365, 1000, 1001, 10000, 100000, 1000000, 1 << 32, math.MaxInt - 1, math.MaxInt}
	number := func() int { return odd[r.IntN(len(odd))] }
	list := func(most int) []int {
		l := make([]int, r.IntN(most))
		for i := range l {
			l[i] = number()
		}
		return l
	}
	valid := 0
	for range 20000 {
		q := usual()
		for range r.IntN(4) {
			numbers := []*int{&q.b.Water, &q.b.Borax, &q.b.Need, &q.b.Spread.Lo, &q.b.Spread.Hi, &q.b.Poles[0][r.IntN(4)], &q.b.Poles[1][0], &q.spread, &q.hours, &q.d.Wet.Lo, &q.d.Wet.Hi, &q.d.Loss.Lo, &q.d.Loss.Hi, &q.d.Most, &q.p.Out.Lo, &q.p.Out.Hi, &q.p.Limit, &q.drains[r.IntN(3)]}
			*numbers[r.IntN(len(numbers))] = number()
		}
		switch r.IntN(20) {
		case 0:
			q.b.Poles[2] = list(9)
		case 1:
			q.b.Poles = append(q.b.Poles, make([][]int, r.IntN(6))...)
		case 2:
			q.drains = list(60)
		}
		a := ask(q)
		if a.check == api.OK {
			valid++
		}
		for _, e := range []api.Errno{a.runE, a.treatedE, a.readyE} {
			if (a.check == api.OK) == (e == api.ErrBatch) {
				t.Fatal(q, a)
			}
		}
		if !bare(a) {
			t.Fatal(q, a)
		}
	}
	if valid < 2000 || valid > 18000 {
		t.Error("one kind of answer was hardly met", valid)
	}
}
