package stock_test

import (
	"math"
	"math/rand/v2"
	"reflect"
	"slices"
	"sync"
	"testing"

	"canebrake/api"
	"canebrake/stock"
)

// question is arguments for all calls of the package.
type question struct {
	trunks  []api.Trunk
	saw     int
	sticks  []api.Stick
	members []api.Member
	prices  []int
}

// answer is all that the calls return.
type answer struct {
	sawn    []api.Stick
	sawnE   api.Errno
	check   api.Errno
	plan    []int
	cost    int
	leastE  api.Errno
	prices  []int
	pricesE api.Errno
	bound   int
	boundE  api.Errno
}

func ask(q question) answer {
	var a answer
	a.sawn, a.sawnE = stock.Saw(q.trunks, q.saw)
	a.check = stock.Check(q.sticks, q.members)
	a.plan, a.cost, a.leastE = stock.Least(q.sticks, q.members)
	a.prices, a.pricesE = stock.Prices(q.sticks, q.members)
	a.bound, a.boundE = stock.Bound(q.sticks, q.members, q.prices)
	return a
}

func (a answer) errors() [5]api.Errno {
	return [5]api.Errno{a.sawnE, a.check, a.leastE, a.pricesE, a.boundE}
}

// bare tells whether there is nothing beside errors.
func (a answer) bare() bool {
	return (a.sawnE == api.OK || len(a.sawn) == 0) &&
		(a.leastE == api.OK || len(a.plan) == 0 && a.cost == 0) &&
		(a.pricesE == api.OK || len(a.prices) == 0) &&
		(a.boundE == api.OK || a.bound == 0)
}

// usual asks for something to be told by each call: of the sticks one is not used, and of the members one is bought.
func usual() question {
	return question{
		trunks:  []api.Trunk{trunk(5000, 2, 2000, 4950), trunk(3000, 1), trunk(800, 3, 90, 95, 400)},
		saw:     10,
		sticks:  []api.Stick{of(0, 2000, 2), of(0, 2940, 2), of(1, 3000, 1), of(2, 295, 3), of(2, 390, 3)},
		members: []api.Member{member(1900, 1, 500), member(2800, 2, 900), member(350, 3, 30), member(2500, 1, 600)},
		prices:  []int{400, 0, 100, 5, 2},
	}
}

// other is a question of few things.
func other() question {
	return question{
		trunks:  []api.Trunk{trunk(100, 0)},
		sticks:  []api.Stick{stick(100, 0), stick(120, 0)},
		members: []api.Member{member(90, 0, 9)},
		prices:  []int{1, 1},
	}
}

// anyQuestion is a question to which there are answers.
func anyQuestion(r *rand.Rand) question {
	l, m := anyBench(r, 16, 8)
	return question{anyTrunks(r), r.IntN(51), l, m, anyPrices(r, len(l))}
}

// TestUsual looks at what is told of the usual question.
func TestUsual(t *testing.T) {
	want := answer{
		sawn: usual().sticks,
		plan: []int{0, 1, -1, 2}, cost: 770,
		prices: []int{400, 760, 100, 0, 0},
		// 500, 140, 30, and 440 of the second stick, less 507.
		bound: 603,
	}
	if a := ask(usual()); !reflect.DeepEqual(a, want) {
		t.Error(a, want)
	}
}

// TestErrorsInOrder gives calls arguments with several faults (R1), and looks at what stands beside an error (R2).
func TestErrorsInOrder(t *testing.T) {
	badTrunk := func(q *question) { q.trunks[2].Bends[2] = 95 }
	badSaw := func(q *question) { q.saw = 51 }
	many := func(q *question) { q.trunks = slices.Repeat([]api.Trunk{trunk(900, 1, 300, 600)}, 6) }
	badStick := func(q *question) { q.sticks[4].Trunk = 6 }
	badMember := func(q *question) { q.members[3].Length = 0 }
	badPrice := func(q *question) { q.prices[4] = 1000001 }
	fewPrices := func(q *question) { q.prices = q.prices[:4] }
	for i, x := range []struct {
		changes []func(q *question)
		want    [5]api.Errno
	}{
		{nil, [5]api.Errno{}},
		{[]func(q *question){badTrunk, badSaw}, [5]api.Errno{api.ErrTrunks, 0, 0, 0, 0}},
		{[]func(q *question){many, badSaw}, [5]api.Errno{api.ErrArg, 0, 0, 0, 0}},
		{[]func(q *question){many}, [5]api.Errno{api.ErrSticks, 0, 0, 0, 0}},
		{[]func(q *question){badStick, badMember, badPrice}, [5]api.Errno{0, 71, 71, 71, 71}},
		{[]func(q *question){badStick, fewPrices}, [5]api.Errno{0, 71, 71, 71, 71}},
		{[]func(q *question){badMember, badPrice}, [5]api.Errno{0, 72, 72, 72, 72}},
		{[]func(q *question){badMember, fewPrices}, [5]api.Errno{0, 72, 72, 72, 72}},
		{[]func(q *question){badPrice}, [5]api.Errno{0, 0, 0, 0, api.ErrPrices}},
		{[]func(q *question){fewPrices}, [5]api.Errno{0, 0, 0, 0, api.ErrPrices}},
		{[]func(q *question){badTrunk, badStick}, [5]api.Errno{api.ErrTrunks, 71, 71, 71, 71}},
	} {
		q := usual()
		for _, change := range x.changes {
			change(&q)
		}
		if a := ask(q); a.errors() != x.want || !a.bare() {
			t.Error(i, a)
		}
	}
}

// roomy is a slice with something behind its end, and all of it.
func roomy[T any](list []T, behind T) (short, whole []T) {
	whole = append(slices.Clone(list), behind, behind)
	return whole[:len(list)], whole
}

// kept are all lists of a question, with what is behind their ends.
type kept struct {
	trunks  []api.Trunk
	bends   [][]int
	sticks  []api.Stick
	members []api.Member
	prices  []int
}

// withRoom gives all lists of a question something behind their ends.
func withRoom(q question) (question, kept) {
	k := kept{bends: make([][]int, len(q.trunks))}
	q.trunks, k.trunks = roomy(q.trunks, trunk(777, 1, 77))
	for i := range q.trunks {
		q.trunks[i].Bends, k.bends[i] = roomy(q.trunks[i].Bends, 777)
	}
	q.sticks, k.sticks = roomy(q.sticks, stick(777, 3))
	q.members, k.members = roomy(q.members, member(777, 0, 77))
	q.prices, k.prices = roomy(q.prices, 777)
	return q, k
}

// TestArgumentsStay looks for arguments that were written to, also behind their ends (R3).
func TestArgumentsStay(t *testing.T) {
	for _, from := range []func() question{
		usual, other,
		func() question { q := usual(); q.trunks[2].Bends[2] = 95; q.sticks[4].Trunk = 6; return q },
		func() question { q := usual(); q.saw = 51; q.members[3].Length = 0; return q },
		func() question { q := usual(); q.prices[4] = 1000001; return q },
		func() question { return anyQuestion(chance(8)) },
	} {
		q, k := withRoom(from())
		same, want := withRoom(from())
		ask(q)
		if !reflect.DeepEqual(q, same) || !reflect.DeepEqual(k, want) {
			t.Error(q, k)
		}
	}
}

// spoil writes all over a list, up to its capacity.
func spoil[T any](list []T, with T) {
	list = list[:cap(list)]
	for i := range list {
		list[i] = with
	}
}

// TestResultsAreNew writes over results, and looks at the arguments, and at what is told again (R3).
func TestResultsAreNew(t *testing.T) {
	for _, from := range []func() question{usual, other} {
		q, same := from(), from()
		want, a := ask(q), ask(q)
		if len(a.sawn) == 0 || len(a.plan) == 0 || len(a.prices) == 0 {
			t.Fatal(a)
		}
		spoil(a.sawn, stick(-7, -7))
		spoil(a.plan, -7)
		spoil(a.prices, -7)
		if !reflect.DeepEqual(q, same) {
			t.Error("an argument was spoilt", q)
		}
		if again := ask(q); !reflect.DeepEqual(again, want) {
			t.Error("a call remembers another one", again, want)
		}
	}
}

// TestNoCallRemembers asks for many things in two orders, and at the same time (R3).
func TestNoCallRemembers(t *testing.T) {
	r := chance(9)
	questions := []question{usual(), other()}
	for range 100 {
		questions = append(questions, anyQuestion(r))
	}
	want := make([]answer, len(questions))
	for i, q := range questions {
		want[i] = ask(q)
	}
	for i, q := range slices.Backward(questions) {
		if a := ask(q); !reflect.DeepEqual(a, want[i]) {
			t.Error(q, a, want[i])
		}
	}
	got := make([]answer, len(questions))
	var all sync.WaitGroup
	for i, q := range questions {
		all.Go(func() { got[i] = ask(q) })
	}
	all.Wait()
	if !reflect.DeepEqual(got, want) {
		t.Error("calls at the same time disturb each other")
	}
}

// TestNilIsEmpty gives the calls nil lists and empty ones (R4).
func TestNilIsEmpty(t *testing.T) {
	for _, x := range []struct {
		toNil, toEmpty func(q *question)
		want           [5]api.Errno
	}{
		{func(q *question) { q.trunks = nil }, func(q *question) { q.trunks = []api.Trunk{} }, [5]api.Errno{}},
		{func(q *question) { q.trunks[2].Bends = nil }, func(q *question) { q.trunks[2].Bends = []int{} }, [5]api.Errno{}},
		{func(q *question) { q.sticks = nil }, func(q *question) { q.sticks = []api.Stick{} }, [5]api.Errno{0, 0, 0, 0, api.ErrPrices}},
		{func(q *question) { q.sticks, q.prices = nil, nil }, func(q *question) { q.sticks, q.prices = []api.Stick{}, []int{} }, [5]api.Errno{}},
		{func(q *question) { q.members = nil }, func(q *question) { q.members = []api.Member{} }, [5]api.Errno{}},
		{func(q *question) { q.prices = nil }, func(q *question) { q.prices = []int{} }, [5]api.Errno{0, 0, 0, 0, api.ErrPrices}},
		{func(q *question) { *q = question{} }, func(q *question) {
			*q = question{[]api.Trunk{}, 0, []api.Stick{}, []api.Member{}, []int{}}
		}, [5]api.Errno{}},
	} {
		one, same := usual(), usual()
		x.toNil(&one)
		x.toEmpty(&same)
		a, b := ask(one), ask(same)
		if !reflect.DeepEqual(a, b) || a.errors() != x.want {
			t.Error(a, b)
		}
	}
}

// TestAnyValue has values that nobody would find in a valley: they count as valid (R6).
func TestAnyValue(t *testing.T) {
	// Sticks of which the trunk could not be sawn, not in the order of their trunks, and the same one several times.
	l := []api.Stick{of(5, 20000, 3), of(0, 20000, 0), of(5, 20000, 3), of(5, 20000, 3), of(5, 20000, 3)}
	wantLeast(t, l, []api.Member{member(20000, 3, 1), member(20000, 0, 1), member(1, 3, 19999)}, 19999, 0, 1, -1)
	// Trunks with nothing but bends at the foot, and members that cost nothing and that no stick is good for.
	wantSaw(t, []api.Trunk{trunk(100, 3, 1, 2, 3, 4), trunk(103, 0, 1, 2, 3)}, 0, of(1, 100, 0))
	wantLeast(t, l[1:2], []api.Member{member(20000, 3, 0), member(20000, 3, 0)}, 0, -1, -1)
}

// odd are numbers at the ends of ranges, and others far from them.
func odd() []int {
	return []int{math.MinInt, math.MinInt + 1, -1 << 32, -2, -1, 0, 1, 2, 3, 4, 5, 6, 50, 51, 94, 96, 99, 100, 400, 799, 800, 2000, 20000, 20001, 1000000, 1000001, 1 << 32, math.MaxInt/2 + 1, math.MaxInt - 1, math.MaxInt}
}

// numbersOf are numbers of a question that are in a list, or in none.
func numbersOf(r *rand.Rand, q *question) []*int {
	x, s, m := &q.trunks[r.IntN(3)], &q.sticks[r.IntN(5)], &q.members[r.IntN(4)]
	return []*int{
		&q.saw, &x.Length, &x.Grade, &q.trunks[0].Bends[r.IntN(2)], &q.trunks[2].Bends[r.IntN(3)],
		&s.Trunk, &s.Length, &s.Grade, &m.Length, &m.Grade, &m.Buy, &q.prices[r.IntN(5)],
	}
}

// oddList changes how many things are in a list.
func oddList(r *rand.Rand, q *question) {
	switch r.IntN(20) {
	case 0:
		q.trunks = append(q.trunks, slices.Repeat([]api.Trunk{trunk(1000, 1, 300, 600)}, r.IntN(6))...)
	case 1:
		q.sticks = append(q.sticks, slices.Repeat([]api.Stick{stick(900, 1)}, r.IntN(14))...)
	case 2:
		q.members = append(q.members, slices.Repeat([]api.Member{member(300, 1, 800)}, r.IntN(7))...)
	case 3:
		q.prices = append(q.prices, make([]int, r.IntN(3))...)
	case 4:
		q.trunks, q.sticks, q.prices = q.trunks[:r.IntN(3)], q.sticks[:3], q.prices[:3]
	case 5:
		q.members = q.members[:r.IntN(4)]
	}
}

// TestOddArguments gives the calls numbers and lists of all kinds: each call ends, without a panic, and all of them agree on what is valid (R5, R7).
func TestOddArguments(t *testing.T) {
	r := chance(10)
	numbers := odd()
	met := map[api.Errno]int{}
	for range 5000 {
		q := usual()
		for range r.IntN(4) {
			all := numbersOf(r, &q)
			*all[r.IntN(len(all))] = numbers[r.IntN(len(numbers))]
		}
		oddList(r, &q)
		a := ask(q)
		if a.leastE != a.check || a.pricesE != a.check || a.check != api.OK && a.boundE != a.check || !a.bare() {
			t.Fatal(q, a)
		}
		if a.check == api.OK && (a.cost < 0 || a.cost > 8*api.MaxBuy || a.boundE == api.OK && a.bound > a.cost) {
			t.Fatal(q, a)
		}
		for _, e := range []api.Errno{a.sawnE, a.boundE} {
			met[e]++
		}
	}
	for _, e := range []api.Errno{api.OK, api.ErrTrunks, api.ErrArg, api.ErrSticks, api.ErrMembers, api.ErrPrices} {
		if met[e] < 100 {
			t.Error("one kind of answer was hardly met", e, met[e])
		}
	}
}

// TestGreatest has the greatest number of everything, so that each call has most to do (R7).
func TestGreatest(t *testing.T) {
	q := question{saw: 50}
	for range 6 {
		q.trunks = append(q.trunks, trunk(20000, 3, 19900, 19910, 19920, 19930))
	}
	for i := range 16 {
		q.sticks = append(q.sticks, of(i%6, 20000, 3))
	}
	q.members = slices.Repeat([]api.Member{member(1, 0, 1000000)}, 8)
	q.prices = slices.Repeat([]int{1000000}, 16)
	want := answer{plan: []int{0, 1, 2, 3, 4, 5, 6, 7}, cost: 8 * 19999, prices: make([]int, 16), bound: -8000000}
	for i := range 6 {
		want.sawn = append(want.sawn, of(i, 19900, 3))
	}
	if a := ask(q); !reflect.DeepEqual(a, want) {
		t.Error(a, want)
	}
	// With no more sticks than members none of them can be missed.
	wantPrices(t, q.sticks[:8], q.members, slices.Repeat([]int{980001}, 8)...)
	wantBound(t, q.sticks[:8], q.members, 8*19999, slices.Repeat([]int{980001}, 8)...)
}
