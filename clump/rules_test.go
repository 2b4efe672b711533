package clump_test

import (
	"math"
	"reflect"
	"slices"
	"sync"
	"testing"

	"canebrake/api"
	"canebrake/clump"
)

// answer is all that the calls of the package return for the same arguments.
type answer struct {
	check  api.Errno
	stand  []int
	standE api.Errno
	taken  []api.Take
	takenE api.Errno
	ahead  []api.Ahead
	sure   int
	lookE  api.Errno
	plan   []int
	total  int
	mostE  api.Errno
}

func ask(g api.Grove, year int, rains []api.Span, plan []int) answer {
	var a answer
	a.check = clump.Check(g)
	a.stand, a.standE = clump.Stand(g, year)
	a.taken, a.takenE = clump.Taken(g, year)
	a.ahead, a.sure, a.lookE = clump.Look(g, rains, plan)
	a.plan, a.total, a.mostE = clump.Most(g, rains)
	return a
}

// TestErrorsInOrder gives calls arguments with several faults (R1), and looks at what stands beside an error (R2).
func TestErrorsInOrder(t *testing.T) {
	bad := with(func(g *api.Grove) { g.Id = -1 })
	dead := with(func(g *api.Grove) { g.Habit.Keep = 200 })
	good := []api.Span{span(0, 1500)}
	for i, x := range []struct {
		g                        api.Grove
		year                     int
		rains                    []api.Span
		plan                     []int
		check, stand, look, most api.Errno
	}{
		{bad, 99, nil, nil, api.ErrGrove, api.ErrGrove, api.ErrGrove, api.ErrGrove},
		{bad, 100, good, []int{31}, api.ErrGrove, api.ErrGrove, api.ErrGrove, api.ErrGrove},
		{bad, 100, good, []int{0}, api.ErrGrove, api.ErrGrove, api.ErrGrove, api.ErrGrove},
		{example(), 99, nil, nil, api.OK, api.ErrNone, api.ErrRain, api.ErrRain},
		{example(), 102, []api.Span{span(0, 1501)}, []int{31}, api.OK, api.ErrNone, api.ErrRain, api.ErrRain},
		{dead, 102, []api.Span{span(2, 1)}, []int{31}, api.OK, api.ErrNone, api.ErrRain, api.ErrRain},
		{dead, 102, good, []int{31}, api.OK, api.ErrNone, api.ErrPlan, api.ErrNone},
		{example(), 100, good, []int{31}, api.OK, api.OK, api.ErrPlan, api.OK},
	} {
		a := ask(x.g, x.year, x.rains, x.plan)
		if a.check != x.check || a.standE != x.stand || a.takenE != x.stand || a.lookE != x.look || a.mostE != x.most {
			t.Error(i, a)
		}
		if a.standE != api.OK && len(a.stand)+len(a.taken) != 0 {
			t.Error(i, a.stand, a.taken)
		}
		if a.lookE != api.OK && (len(a.ahead) != 0 || a.sure != 0) {
			t.Error(i, a.ahead, a.sure)
		}
		if a.mostE != api.OK && (len(a.plan) != 0 || a.total != 0) {
			t.Error(i, a.plan, a.total)
		}
	}
}

// TestRains sets each end of each rain to the ends of its range, and one beyond (P1.3, P1.4, R5).
func TestRains(t *testing.T) {
	far := []int{math.MinInt, -1, 0, 1500, 1501, math.MaxInt}
	for years := range api.MaxPlan + 2 {
		for i := range max(1, years) {
			for _, lo := range far {
				for _, hi := range far {
					rains := make([]api.Span, years)
					want := api.ErrRain
					if years > 0 {
						rains[i] = span(lo, hi)
						if years <= api.MaxPlan && lo >= 0 && lo <= hi && hi <= 1500 {
							want = api.OK
						}
					}
					bare := with(func(g *api.Grove) { g.Habit.Keep = 0 })
					_, _, e := clump.Look(bare, rains, make([]int, years))
					_, _, f := clump.Most(bare, rains)
					if e != want || f != want {
						t.Error(years, i, lo, hi, e, f)
					}
				}
			}
		}
	}
}

// TestPlans does so with the numbers of plans, and with plans that are too short or too long.
func TestPlans(t *testing.T) {
	for years := 1; years <= api.MaxPlan; years++ {
		rains := make([]api.Span, years)
		for i := range years {
			for _, n := range []int{math.MinInt, -1, 0, 30, 31, math.MaxInt} {
				plan := make([]int, years)
				plan[i] = n
				want := api.ErrPlan
				if n >= 0 && n <= 30 {
					want = api.OK
				}
				if _, _, e := clump.Look(example(), rains, plan); e != want {
					t.Error(years, i, n, e)
				}
			}
		}
		for length := range api.MaxPlan + 2 {
			want := api.ErrPlan
			if length == years {
				want = api.OK
			}
			if _, _, e := clump.Look(example(), rains, make([]int, length)); e != want {
				t.Error(years, length, e)
			}
		}
	}
}

// roomy is a slice with something behind its end, and that something.
func roomy[T any](list []T, behind T) (short, whole []T) {
	whole = append(slices.Clone(list), behind, behind)
	return whole[:len(list)], whole
}

// TestArgumentsStay looks for arguments that were written to, also behind their ends (R3).
func TestArgumentsStay(t *testing.T) {
	g := example()
	start, wholeStart := roomy(g.Start, 77)
	seasons, wholeSeasons := roomy(g.Seasons, api.Season{Shots: 7, Cut: 7})
	rains, wholeRains := roomy([]api.Span{span(900, 1000), span(0, 1500)}, span(7, 7))
	plan, wholePlan := roomy([]int{2, 1}, 77)
	g.Start, g.Seasons = start, seasons
	ask(g, 101, rains, plan)
	if !slices.Equal(wholeStart, []int{4, 3, 3, 2, 1, 77, 77}) || !slices.Equal(wholeSeasons, []api.Season{{Shots: 5, Cut: 3}, {Shots: 7, Cut: 7}, {Shots: 7, Cut: 7}}) {
		t.Error(wholeStart, wholeSeasons)
	}
	if !slices.Equal(wholeRains, []api.Span{span(900, 1000), span(0, 1500), span(7, 7), span(7, 7)}) || !slices.Equal(wholePlan, []int{2, 1, 77, 77}) {
		t.Error(wholeRains, wholePlan)
	}
}

// spoil writes all over a list, up to its capacity.
func spoil[T any](list []T, with T) {
	list = list[:cap(list)]
	for i := range list {
		list[i] = with
	}
}

// TestResultsAreNew writes over results, and asks again (R3).
func TestResultsAreNew(t *testing.T) {
	g := example()
	rains, plan := []api.Span{span(900, 1000), span(800, 1500)}, []int{2, 1}
	want, other := ask(g, 101, rains, plan), ask(g, 101, rains, plan)
	first := ask(g, 100, rains, plan)
	spoil(want.stand, -7)
	spoil(want.taken, api.Take{Shot: -7, Number: -7})
	spoil(want.ahead, api.Ahead{Shots: span(-7, -7)})
	spoil(want.plan, -7)
	if !reflect.DeepEqual(g, example()) || !slices.Equal(rains, []api.Span{span(900, 1000), span(800, 1500)}) || !slices.Equal(plan, []int{2, 1}) {
		t.Error("an argument was spoilt", g, rains, plan)
	}
	if !reflect.DeepEqual(ask(g, 101, rains, plan), other) || !reflect.DeepEqual(ask(g, 100, rains, plan), first) {
		t.Error("a call remembers another one")
	}
	if !slices.Equal(first.stand, g.Start) {
		t.Error(first.stand)
	}
	spoil(first.stand, -7)
	if !slices.Equal(g.Start, example().Start) {
		t.Error("a result is the grove's own list")
	}
}

// TestNoCallRemembers asks for many things in two orders, and at the same time (R3).
func TestNoCallRemembers(t *testing.T) {
	r := chance(10)
	var groves []api.Grove
	var rains [][]api.Span
	for range 60 {
		groves, rains = append(groves, anyGrove(r, 6, 5)), append(rains, anyRains(r, api.MaxPlan))
	}
	askOf := func(i int) answer { return ask(groves[i], groves[i].First+1, rains[i], make([]int, len(rains[i]))) }
	want := make([]answer, len(groves))
	for i := range groves {
		want[i] = askOf(i)
	}
	for i := range slices.Backward(groves) {
		if a := askOf(i); !reflect.DeepEqual(a, want[i]) {
			t.Error(i, a, want[i])
		}
	}
	got := make([]answer, len(groves))
	var all sync.WaitGroup
	for i := range groves {
		all.Go(func() { got[i] = askOf(i) })
	}
	all.Wait()
	if !reflect.DeepEqual(got, want) {
		t.Error("calls at the same time disturb each other")
	}
}

// TestNilIsEmpty gives the calls nil lists and empty ones (R4).
func TestNilIsEmpty(t *testing.T) {
	old, young := example(), example()
	old.Seasons, young.Seasons = nil, []api.Season{}
	if a, b := ask(old, 100, nil, nil), ask(young, 100, []api.Span{}, []int{}); !reflect.DeepEqual(a, b) || a.check != api.OK || a.lookE != api.ErrRain {
		t.Error(a, b)
	}
	rains := []api.Span{span(0, 0)}
	if a, b := ask(old, 100, rains, nil), ask(old, 100, rains, []int{}); !reflect.DeepEqual(a, b) || a.lookE != api.ErrPlan {
		t.Error(a, b)
	}
	old.Start, young.Start = nil, []int{}
	if a, b := ask(old, 100, nil, nil), ask(young, 100, nil, nil); !reflect.DeepEqual(a, b) || a.check != api.ErrGrove {
		t.Error(a, b)
	}
}

// TestAnyValue has values that no book of a real grove would have: they count as valid (R6).
func TestAnyValue(t *testing.T) {
	g := api.Grove{Habit: api.Habit{Bears: 0, Ripe: 6, Dies: 6, Keep: 200}, First: 3000, Start: make([]int, 7)}
	if a := ask(g, 3000, []api.Span{span(0, 0)}, []int{0}); a.check != api.OK || !slices.Equal(a.stand, make([]int, 7)) || a.lookE != api.OK || a.sure != 0 || a.mostE != api.ErrNone {
		t.Error(a)
	}
	// Culms that do not bear when they shoot, but later, have no clone that could begin; but the book stands.
	g = api.Grove{Habit: api.Habit{Rate: span(1000, 1000), Bears: 1, Ripe: 1, Dies: 1}, Start: []int{0, 0}, Seasons: []api.Season{{Shots: 30}, {Shots: 30, Cut: 30}}}
	if a := ask(g, 2, []api.Span{span(1500, 1500)}, []int{30}); a.check != api.OK || !slices.Equal(a.stand, []int{30, 0}) || !slices.Equal(a.ahead, []api.Ahead{{Shots: span(45, 45), Stand: span(45, 45)}}) {
		t.Error(a)
	}
}

// TestOddArguments gives the calls numbers and lists of all kinds: each call ends, without a panic, and all of them agree on which groves are valid (R5, R7).
func TestOddArguments(t *testing.T) {
	r := chance(11)
	odd := []int{math.MinInt, math.MinInt + 1, -1 << 32, -1, 0, 0, 1, 2, 3, 4, 6, 7, 30, 31, 60, 1000, 3000, 1 << 32, math.MaxInt - 1, math.MaxInt}
	number := func() int { return odd[r.IntN(len(odd))] }
	list := func() []int {
		l := make([]int, r.IntN(9))
		for i := range l {
			l[i] = number()
		}
		return l
	}
	for range 20000 {
		g := example()
		for range r.IntN(3) {
			numbers := []*int{&g.Id, &g.First, &g.Habit.Rate.Lo, &g.Habit.Rate.Hi, &g.Habit.Bears, &g.Habit.Ripe, &g.Habit.Dies, &g.Habit.Keep, &g.Seasons[0].Shots, &g.Seasons[0].Cut, &g.Start[r.IntN(5)]}
			*numbers[r.IntN(len(numbers))] = number()
		}
		if r.IntN(4) == 0 {
			g.Start = list()
		}
		for range r.IntN(3) {
			g.Seasons = append(g.Seasons, api.Season{Shots: number(), Cut: number()})
		}
		rains := make([]api.Span, r.IntN(6))
		for i := range rains {
			rains[i] = span(number(), number())
		}
		a := ask(g, number(), rains, list())
		bad := a.check == api.ErrGrove
		for _, e := range []api.Errno{a.standE, a.takenE, a.lookE, a.mostE} {
			if bad != (e == api.ErrGrove) {
				t.Fatal(g, a)
			}
		}
	}
}
