package clump_test

import (
	"math"
	"slices"
	"testing"

	"canebrake/api"
	"canebrake/clump"
)

func span(lo, hi int) api.Span { return api.Span{Lo: lo, Hi: hi} }

// example is the grove of the chapter's examples: it stands at 4 3 3 2 1, then at 5 4 3 2 0.
func example() api.Grove {
	return api.Grove{
		Id:      3,
		Habit:   api.Habit{Rate: span(400, 500), Bears: 2, Ripe: 2, Dies: 4, Keep: 8},
		First:   100,
		Start:   []int{4, 3, 3, 2, 1},
		Seasons: []api.Season{{Shots: 5, Cut: 3}},
	}
}

func with(change func(g *api.Grove)) api.Grove {
	g := example()
	change(&g)
	return g
}

func TestExamples(t *testing.T) {
	g := example()
	for year, want := range map[int][]int{100: {4, 3, 3, 2, 1}, 101: {5, 4, 3, 2, 0}} {
		if l, e := clump.Stand(g, year); e != api.OK || !slices.Equal(l, want) {
			t.Error(year, l, e)
		}
	}
	if l, e := clump.Taken(g, 101); e != api.OK || !slices.Equal(l, []api.Take{{Shot: 97, Number: 2}, {Shot: 98, Number: 1}}) {
		t.Error(l, e)
	}
	ahead, sure, e := clump.Look(g, []api.Span{span(1000, 1000)}, []int{5})
	if e != api.OK || sure != 1 || !slices.Equal(ahead, []api.Ahead{{Shots: span(4, 6), Stand: span(13, 15)}}) {
		t.Error(ahead, sure, e)
	}
	ahead, sure, e = clump.Look(g, []api.Span{span(500, 1000), span(500, 1000)}, []int{6, 5})
	if e != api.OK || sure != 1 || !slices.Equal(ahead, []api.Ahead{{Shots: span(2, 6), Stand: span(10, 14)}}) {
		t.Error(ahead, sure, e)
	}
	plan, total, e := clump.Most(g, []api.Span{span(1000, 1000)})
	if e != api.OK || total != 9 || !slices.Equal(plan, []int{9}) {
		t.Error(plan, total, e)
	}
}

// TestCheckBounds sets each number of a grove to the ends of its range, and one beyond (P1.1, R5).
func TestCheckBounds(t *testing.T) {
	for name, x := range map[string]struct {
		lo, hi int
		set    func(g *api.Grove, n int)
	}{
		"id":      {0, 9999, func(g *api.Grove, n int) { g.Id = n }},
		"rate lo": {0, 500, func(g *api.Grove, n int) { g.Habit.Rate.Lo = n }},
		"rate hi": {400, 1000, func(g *api.Grove, n int) { g.Habit.Rate.Hi = n }},
		"bears":   {0, 4, func(g *api.Grove, n int) { g.Habit.Bears = n }},
		"ripe": {1, 4, func(g *api.Grove, n int) {
			g.Habit.Ripe, g.Seasons = n, nil
		}},
		"keep":  {0, 200, func(g *api.Grove, n int) { g.Habit.Keep = n }},
		"first": {0, 2999, func(g *api.Grove, n int) { g.First = n }},
		"first without seasons": {0, 3000, func(g *api.Grove, n int) {
			g.First, g.Seasons = n, nil
		}},
		"first with sixty seasons": {0, 2940, func(g *api.Grove, n int) {
			g.First, g.Seasons = n, make([]api.Season, 60)
		}},
		"youngest": {0, 9, func(g *api.Grove, n int) { g.Start[0] = n }},
		"oldest":   {0, 9, func(g *api.Grove, n int) { g.Start[4] = n }},
		"shots":    {0, 30, func(g *api.Grove, n int) { g.Seasons[0].Shots = n }},
		"cut":      {0, 8, func(g *api.Grove, n int) { g.Seasons[0].Cut = n }}, // 8 are ripe
		"dies": {2, 6, func(g *api.Grove, n int) {
			g.Habit.Dies, g.Start, g.Seasons = n, make([]int, max(0, min(n, 9)+1)), nil
		}},
		"dies of bare habit": {1, 6, func(g *api.Grove, n int) {
			g.Habit = api.Habit{Dies: n, Ripe: 1}
			g.Start, g.Seasons = make([]int, max(0, min(n, 9)+1)), nil
		}},
	} {
		for _, n := range []int{x.lo, x.hi, x.lo - 1, x.hi + 1, math.MinInt, math.MaxInt} {
			want := api.ErrGrove
			if n >= x.lo && n <= x.hi {
				want = api.OK
			}
			if e := clump.Check(with(func(g *api.Grove) { x.set(g, n) })); e != want {
				t.Error(name, n, e)
			}
		}
	}
}

func TestCheckLists(t *testing.T) {
	for i, x := range []struct {
		change func(g *api.Grove)
		e      api.Errno
	}{
		{func(g *api.Grove) { g.Start = nil }, api.ErrGrove},
		{func(g *api.Grove) { g.Start = g.Start[:4] }, api.ErrGrove},
		{func(g *api.Grove) { g.Start = append(g.Start, 0) }, api.ErrGrove},
		{func(g *api.Grove) { g.Seasons = nil }, api.OK},
		{func(g *api.Grove) { g.Seasons = []api.Season{} }, api.OK},
		{func(g *api.Grove) { g.Seasons = make([]api.Season, 60) }, api.OK},
		{func(g *api.Grove) { g.Seasons = make([]api.Season, 61) }, api.ErrGrove},
		{func(g *api.Grove) { *g = api.Grove{} }, api.ErrGrove},
		{func(g *api.Grove) { g.Habit.Rate = span(500, 500) }, api.OK},
		{func(g *api.Grove) { g.Habit.Rate = span(501, 500) }, api.ErrGrove},
		// The culms that die are gone before the cut, those that get ripe in the year may be cut, and shoots may not.
		{func(g *api.Grove) { g.Start = []int{0, 0, 0, 0, 9}; g.Seasons = []api.Season{{Cut: 1}} }, api.ErrGrove},
		{func(g *api.Grove) { g.Start = []int{0, 2, 0, 0, 9}; g.Seasons = []api.Season{{Cut: 2}} }, api.OK},
		{func(g *api.Grove) { g.Start = []int{0, 2, 0, 0, 9}; g.Seasons = []api.Season{{Cut: 3}} }, api.ErrGrove},
		{func(g *api.Grove) { g.Start = []int{9, 2, 0, 0, 9}; g.Seasons = []api.Season{{Shots: 30, Cut: 3}} }, api.ErrGrove},
		// What was cut in a season is not there in the next one.
		{func(g *api.Grove) { g.Seasons = []api.Season{{Shots: 5, Cut: 8}, {Shots: 0, Cut: 4}} }, api.OK},
		{func(g *api.Grove) { g.Seasons = []api.Season{{Shots: 5, Cut: 8}, {Shots: 0, Cut: 5}} }, api.ErrGrove},
		// A later season is looked at as well as the first one.
		{func(g *api.Grove) { g.Seasons = []api.Season{{}, {}, {Shots: 31}} }, api.ErrGrove},
		{func(g *api.Grove) { g.Seasons = []api.Season{{}, {}, {Cut: -1}} }, api.ErrGrove},
		// The book may tell of less than Keep.
		{func(g *api.Grove) { g.Habit.Keep = 200 }, api.OK},
	} {
		if e := clump.Check(with(x.change)); e != x.e {
			t.Error(i, e)
		}
	}
}

// TestStandYears goes over the first and the last year of books of any length (P1.1, P1.2).
func TestStandYears(t *testing.T) {
	for _, seasons := range []int{0, 1, 2, 60} {
		g := with(func(g *api.Grove) { g.Seasons = make([]api.Season, seasons) })
		for _, x := range []struct {
			year int
			e    api.Errno
		}{
			{100, api.OK}, {100 + seasons, api.OK}, {99, api.ErrNone}, {101 + seasons, api.ErrNone},
			{0, api.ErrNone}, {-1, api.ErrNone}, {math.MinInt, api.ErrNone}, {math.MaxInt, api.ErrNone},
		} {
			l, e := clump.Stand(g, x.year)
			k, f := clump.Taken(g, x.year)
			if e != x.e || f != x.e || len(k) != 0 || e == api.OK && len(l) != 5 || e != api.OK && len(l) != 0 {
				t.Error(seasons, x.year, l, e, k, f)
			}
		}
	}
}

func TestTaken(t *testing.T) {
	grove := func(ripe int, start []int, seasons ...api.Season) api.Grove {
		return api.Grove{Habit: api.Habit{Ripe: ripe, Dies: len(start) - 1}, First: 2, Start: start, Seasons: seasons}
	}
	for i, x := range []struct {
		g    api.Grove
		year int
		want []api.Take
	}{
		{grove(1, []int{2, 3}, api.Season{Shots: 1, Cut: 2}), 2, nil},
		{grove(1, []int{2, 3}, api.Season{Shots: 1, Cut: 2}), 3, []api.Take{{Shot: 2, Number: 2}}},
		{grove(1, []int{2, 3}, api.Season{Shots: 1, Cut: 0}), 3, nil},
		// An age of which none stand is passed over, and no year is told with 0.
		{grove(1, []int{2, 0, 3, 0}, api.Season{Cut: 4}), 3, []api.Take{{Shot: 0, Number: 3}, {Shot: 2, Number: 1}}},
		{grove(1, []int{2, 0, 3, 0}, api.Season{Cut: 3}), 3, []api.Take{{Shot: 0, Number: 3}}},
		// Those of the greatest age, shot before the year 0, come first.
		{grove(3, []int{9, 9, 9, 9, 9, 9, 9}, api.Season{Cut: 30}), 3, []api.Take{{Shot: -3, Number: 9}, {Shot: -2, Number: 9}, {Shot: -1, Number: 9}, {Shot: 0, Number: 3}}},
		{grove(1, []int{1, 1, 1}, api.Season{Shots: 4, Cut: 2}, api.Season{Shots: 0, Cut: 4}), 4, []api.Take{{Shot: 3, Number: 4}}},
	} {
		if l, e := clump.Taken(x.g, x.year); e != api.OK || !slices.Equal(l, x.want) {
			t.Error(i, l, e)
		}
	}
}

func TestLookPlans(t *testing.T) {
	even := []api.Span{span(1000, 1000)}
	dry := []api.Span{span(0, 0)}
	for i, x := range []struct {
		g     api.Grove
		rains []api.Span
		plan  []int
		want  []api.Ahead
	}{
		// Nine are ripe, and eight have to stand: ten are too many, nine are not.
		{example(), even, []int{9}, []api.Ahead{{Shots: span(4, 6), Stand: span(9, 11)}}},
		{example(), even, []int{10}, nil},
		// Fourteen stand of a dry year: six may be cut for Keep, seven not.
		{example(), dry, []int{6}, []api.Ahead{{Shots: span(0, 0), Stand: span(8, 8)}}},
		{example(), dry, []int{7}, nil},
		// The first year is not sure, so none is, though the second one asks for nothing.
		{example(), append(dry, even...), []int{7, 0}, nil},
		{example(), append(dry, even...), []int{6, 0}, []api.Ahead{{Shots: span(0, 0), Stand: span(8, 8)}, {Shots: span(3, 4), Stand: span(11, 12)}}},
		// Shoots may be more than a book has place for in a season.
		{with(func(g *api.Grove) {
			g.Habit.Rate, g.Habit.Bears, g.Start, g.Seasons = span(1000, 1000), 4, []int{9, 9, 9, 9, 9}, nil
		}), []api.Span{span(0, 1500)}, []int{0}, []api.Ahead{{Shots: span(0, 67), Stand: span(36, 103)}}},
		// Rates and rains are multiplied before anything is rounded: 12 times 400 times 999 is less than 4,800,000.
		{example(), []api.Span{span(999, 999)}, []int{0}, []api.Ahead{{Shots: span(4, 5), Stand: span(18, 19)}}},
		{with(func(g *api.Grove) { g.Habit.Rate = span(500, 500) }), []api.Span{span(167, 167)}, []int{0}, []api.Ahead{{Shots: span(1, 1), Stand: span(15, 15)}}},
		{with(func(g *api.Grove) { g.Habit.Rate = span(500, 500) }), []api.Span{span(166, 166)}, []int{0}, []api.Ahead{{Shots: span(0, 0), Stand: span(14, 14)}}},
		// Of what is left by a cut, fewer bear.
		{with(func(g *api.Grove) { g.Habit.Bears, g.Habit.Keep = 4, 0 }), append(dry, even...), []int{9, 0}, []api.Ahead{{Shots: span(0, 0), Stand: span(5, 5)}, {Shots: span(2, 2), Stand: span(7, 7)}}},
		// The plan may go on beyond MaxYear, which binds the book only.
		{with(func(g *api.Grove) { g.First = 2999 }), even, []int{5}, []api.Ahead{{Shots: span(4, 6), Stand: span(13, 15)}}},
		// A grove of nothing keeps nothing.
		{api.Grove{Habit: api.Habit{Ripe: 1, Dies: 1}, Start: []int{0, 0}}, []api.Span{{}, {}, {}, {}}, []int{0, 0, 0, 0}, make([]api.Ahead, 4)},
		{api.Grove{Habit: api.Habit{Ripe: 1, Dies: 1}, Start: []int{0, 0}}, []api.Span{{}, {}, {}, {}}, []int{0, 0, 1, 0}, make([]api.Ahead, 2)},
	} {
		l, n, e := clump.Look(x.g, x.rains, x.plan)
		if e != api.OK || n != len(x.want) || !slices.Equal(l, x.want) {
			t.Error(i, l, n, e)
		}
	}
}

func TestMostPlans(t *testing.T) {
	even := span(1000, 1000)
	for i, x := range []struct {
		g     api.Grove
		rains []api.Span
		plan  []int
		e     api.Errno
	}{
		{example(), []api.Span{span(0, 1500)}, []int{6}, api.OK},
		// Of several plans the first one: 3 and 0 would do as well, and below 3 and 4. What is not cut of the two oldest ones dies.
		{with(func(g *api.Grove) { g.Habit.Rate, g.Habit.Ripe, g.Habit.Keep = span(0, 0), 1, 11 }), []api.Span{even, even}, []int{2, 1}, api.OK},
		{with(func(g *api.Grove) { g.Habit.Rate, g.Habit.Ripe, g.Habit.Keep = span(0, 0), 1, 7 }), []api.Span{even, even}, []int{2, 5}, api.OK},
		// More than MaxShots are ripe, but no more may be cut.
		{with(func(g *api.Grove) {
			g.Habit.Dies, g.Habit.Ripe, g.Habit.Keep, g.Start, g.Seasons = 6, 1, 0, []int{9, 9, 9, 9, 9, 9, 9}, nil
		}), []api.Span{even}, []int{30}, api.OK},
		// What keeps the grove is there in the first year, and in the second one only if it rains.
		{with(func(g *api.Grove) { g.Habit.Keep = 14 }), []api.Span{span(0, 0)}, []int{0}, api.OK},
		{with(func(g *api.Grove) { g.Habit.Keep = 14 }), []api.Span{span(0, 0), even}, []int{0, 1}, api.OK},
		{with(func(g *api.Grove) { g.Habit.Keep = 14 }), []api.Span{span(0, 0), span(0, 0)}, nil, api.ErrNone},
		{with(func(g *api.Grove) { g.Habit.Keep = 15 }), []api.Span{span(0, 0)}, nil, api.ErrNone},
		{with(func(g *api.Grove) { g.Habit.Keep = 200 }), []api.Span{even, even, even, even}, nil, api.ErrNone},
		{api.Grove{Habit: api.Habit{Ripe: 1, Dies: 1}, Start: []int{0, 0}}, make([]api.Span, 4), []int{0, 0, 0, 0}, api.OK},
	} {
		total := 0
		for _, n := range x.plan {
			total += n
		}
		l, n, e := clump.Most(x.g, x.rains)
		if e != x.e || n != total || !slices.Equal(l, x.plan) {
			t.Error(i, l, n, e)
		}
	}
}

// TestGreatest asks of a grove of which all numbers are the greatest ones (R7: the call ends).
func TestGreatest(t *testing.T) {
	g := api.Grove{
		Id:    9999,
		Habit: api.Habit{Rate: span(0, 1000), Bears: 6, Ripe: 1, Dies: 6, Keep: 0},
		First: 2940,
		Start: []int{9, 9, 9, 9, 9, 9, 9},
	}
	for range 60 {
		g.Seasons = append(g.Seasons, api.Season{Shots: 30})
	}
	if l, e := clump.Stand(g, 3000); e != api.OK || !slices.Equal(l, []int{30, 30, 30, 30, 30, 30, 30}) {
		t.Error(l, e)
	}
	wet := []api.Span{span(0, 1500), span(0, 1500), span(0, 1500), span(0, 1500)}
	// With the least, 30 die each year; with the greatest, 210 bring 315, 495 bring 742, 1,207 bring 1,810, and 2,987 bring 4,480.
	want := []api.Ahead{{Shots: span(0, 315), Stand: span(180, 495)}, {Shots: span(0, 742), Stand: span(150, 1207)}, {Shots: span(0, 1810), Stand: span(120, 2987)}, {Shots: span(0, 4480), Stand: span(90, 7437)}}
	if l, n, e := clump.Look(g, wet, []int{0, 0, 0, 0}); e != api.OK || n != 4 || !slices.Equal(l, want) {
		t.Error(l, n, e)
	}
	if l, n, e := clump.Most(g, wet); e != api.OK || n != 120 || !slices.Equal(l, []int{30, 30, 30, 30}) {
		t.Error(l, n, e)
	}
	g.Habit.Rate.Lo, wet = 1000, []api.Span{span(1500, 1500), span(1500, 1500), span(1500, 1500), span(1500, 1500)}
	if l, n, e := clump.Most(g, wet); e != api.OK || n != 120 || !slices.Equal(l, []int{30, 30, 30, 30}) {
		t.Error(l, n, e)
	}
}
