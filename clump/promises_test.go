package clump_test

import (
	"math/rand/v2"
	"slices"
	"testing"

	"canebrake/api"
	"canebrake/clump"
)

func total(l []int) int {
	n := 0
	for _, x := range l {
		n += x
	}
	return n
}

// TestBooks holds what is told of books against the model, in which each culm is a thing of its own (P1.1, P1.2).
func TestBooks(t *testing.T) {
	r := chance(1)
	for range 500 {
		g := anyGrove(r, api.MaxStart, api.MaxBook)
		m := modelOf(g)
		var want []int
		for i := range len(g.Seasons) + 1 {
			if i > 0 {
				m, want = m.next(g.Seasons[i-1].Shots).cut(g.Seasons[i-1].Cut)
			}
			stand, e := clump.Stand(g, m.year)
			takes, f := clump.Taken(g, m.year)
			var taken []int
			for _, x := range takes {
				taken = append(taken, slices.Repeat([]int{x.Shot}, x.Number)...)
			}
			if e != api.OK || f != api.OK || !slices.Equal(stand, m.ages()) || !slices.Equal(taken, want) {
				t.Fatal(g, m.year, stand, takes, e, f)
			}
		}
	}
}

// TestNoCulmIsLost counts each year (P1.7).
func TestNoCulmIsLost(t *testing.T) {
	r := chance(2)
	for range 500 {
		g := anyGrove(r, api.MaxStart, 12)
		before, _ := clump.Stand(g, g.First)
		for i, s := range g.Seasons {
			year := g.First + 1 + i
			now, _ := clump.Stand(g, year)
			takes, _ := clump.Taken(g, year)
			cut := 0
			for k, x := range takes {
				age := year - x.Shot
				if x.Number < 1 || age < g.Habit.Ripe || age > g.Habit.Dies || k > 0 && takes[k-1].Shot >= x.Shot {
					t.Fatal(g, year, takes)
				}
				// Of all that were older, none is left.
				if total(now[age+1:]) > 0 || now[age]+x.Number != before[age-1] {
					t.Fatal(g, year, takes, now)
				}
				cut += x.Number
			}
			if cut != s.Cut || now[0] != s.Shots || total(now) != total(before)+s.Shots-s.Cut-before[g.Habit.Dies] {
				t.Fatal(g, year, takes, before, now)
			}
			before = now
		}
	}
}

// TestLookIsRight goes through all rates and rains: what is told is what comes about, both ends of it as well (P1.3, P1.5).
func TestLookIsRight(t *testing.T) {
	r := chance(3)
	seen := map[int]int{}
	for range 1500 {
		g := anyGrove(r, 4, 4)
		g.Habit.Keep /= 4
		rains := anyRains(r, 3)
		var plan []int
		for range rains {
			plan = append(plan, upTo(r, 4))
		}
		want := modelLook(g, rains, plan)
		l, n, e := clump.Look(g, rains, plan)
		if e != api.OK || n != len(want) || !slices.Equal(l, want) {
			t.Fatal(g, rains, plan, l, n, e, want)
		}
		seen[n]++
	}
	if len(seen) != 4 {
		t.Error("not all numbers of sure years were met", seen)
	}
}

// TestLookWide is the same for a year with the widest spans.
func TestLookWide(t *testing.T) {
	r := chance(4)
	for range 20 {
		g := anyGrove(r, api.MaxStart, 6)
		g.Habit.Rate, g.Habit.Keep = span(0, api.MaxRate), 0
		rains := []api.Span{span(0, api.MaxRain)}
		want := modelLook(g, rains, []int{0})
		if l, n, e := clump.Look(g, rains, []int{0}); e != api.OK || n != 1 || !slices.Equal(l, want) {
			t.Fatal(g, l, n, e, want)
		}
	}
}

// TestMostIsGreatest tries every plan (P1.4, P1.6).
func TestMostIsGreatest(t *testing.T) {
	r := chance(5)
	none := 0
	for range 300 {
		g := anyGrove(r, 3, 3)
		g.Habit.Keep /= 3
		g.Habit.Rate.Hi = min(g.Habit.Rate.Hi, g.Habit.Rate.Lo+2)
		rains := anyRains(r, 3)
		for i := range rains {
			rains[i].Hi = min(rains[i].Hi, rains[i].Lo+40)
		}
		want, most, ok := modelMost(g, rains)
		plan, n, e := clump.Most(g, rains)
		if !ok {
			none++
			if e != api.ErrNone || n != 0 || len(plan) != 0 {
				t.Fatal(g, rains, plan, n, e)
			}
		} else if e != api.OK || n != most || !slices.Equal(plan, want) {
			t.Fatal(g, rains, plan, n, e, want, most)
		}
	}
	if none == 0 || none == 300 {
		t.Error("one kind of answer was not met", none)
	}
}

// TestMostFourYears looks at each plan of four years (P1.6).
func TestMostFourYears(t *testing.T) {
	r := chance(6)
	for range 12 {
		g := anyGrove(r, 5, 6)
		g.Habit.Keep /= 2
		rains := anyRains(r, 1)
		for len(rains) < api.MaxPlan {
			rains = append(rains, anyRains(r, 1)...)
		}
		var best []int
		var try func(done []int)
		try = func(done []int) {
			if len(done) == len(rains) {
				if best == nil || total(done) > total(best) {
					best = slices.Clone(done)
				}
				return
			}
			for cut := range api.MaxShots + 1 {
				next := append(slices.Clone(done), cut)
				if _, n, _ := clump.Look(g, rains[:len(next)], next); n == len(next) {
					try(next)
				}
			}
		}
		try(nil)
		plan, n, e := clump.Most(g, rains)
		if (e == api.ErrNone) != (best == nil) || n != total(best) || !slices.Equal(plan, best) {
			t.Fatal(g, rains, plan, n, e, best)
		}
	}
}

// most is the greatest harvest, -1 if there is none.
func most(g api.Grove, rains []api.Span) int {
	_, n, e := clump.Most(g, rains)
	if e == api.ErrNone {
		return -1
	}
	return n
}

// TestMoreAndLess widens rains, raises Keep, and adds a culm (P1.8).
func TestMoreAndLess(t *testing.T) {
	r := chance(7)
	changed := [3]int{}
	for range 1500 {
		g := anyGrove(r, 7, 3)
		g.Habit.Keep /= 3
		rains := anyRains(r, api.MaxPlan)
		n := most(g, rains)

		wide := slices.Clone(rains)
		i := r.IntN(len(wide))
		wide[i] = span(upTo(r, wide[i].Lo), wide[i].Hi+upTo(r, api.MaxRain-wide[i].Hi))
		if k := most(g, wide); k > n {
			t.Fatal(g, rains, wide, n, k)
		} else if k < n {
			changed[0]++
		}

		strict := g
		strict.Habit.Keep = min(api.MaxStand, strict.Habit.Keep+1+upTo(r, 3))
		if k := most(strict, rains); k > n {
			t.Fatal(strict, rains, n, k)
		} else if k < n {
			changed[1]++
		}

		more := g
		more.Start = slices.Clone(g.Start)
		more.Start[r.IntN(len(more.Start))]++
		if k := most(more, rains); k < n {
			t.Fatal(more, rains, n, k)
		} else if k > n {
			changed[2]++
		}
	}
	for i, n := range changed {
		if n == 0 {
			t.Error("a change never changed anything", i)
		}
	}
}

// anyShoots is what some rate and some rain bring in the year after a book.
func anyShoots(r *rand.Rand, g api.Grove, rain api.Span) int {
	rate := g.Habit.Rate.Lo + upTo(r, g.Habit.Rate.Hi-g.Habit.Rate.Lo)
	return modelNow(g).count(0, g.Habit.Bears) * rate * (rain.Lo + upTo(r, rain.Hi-rain.Lo)) / 1000000
}

// TestYearsAsTheyCome writes the years of a plan into the book, one after the other (P1.9).
func TestYearsAsTheyCome(t *testing.T) {
	r := chance(8)
	written := 0
	for range 1500 {
		g := anyGrove(r, 4, 4)
		g.Habit.Keep /= 3
		rains := anyRains(r, api.MaxPlan)
		plan, _, e := clump.Most(g, rains)
		if e == api.ErrNone {
			continue
		}
		ahead, _, _ := clump.Look(g, rains, plan)
		for i, rain := range rains {
			shots := anyShoots(r, g, rain)
			if shots > api.MaxShots {
				break
			}
			g.Seasons = append(slices.Clone(g.Seasons), api.Season{Shots: shots, Cut: plan[i]})
			stand, e := clump.Stand(g, g.First+len(g.Seasons))
			if e != api.OK || total(stand) < g.Habit.Keep || total(stand) < ahead[i].Stand.Lo || total(stand) > ahead[i].Stand.Hi || shots < ahead[i].Shots.Lo || shots > ahead[i].Shots.Hi {
				t.Fatal(g, rains, plan, stand, ahead, e)
			}
			if i+1 == len(rains) {
				break
			}
			if _, n, e := clump.Look(g, rains[i+1:], plan[i+1:]); e != api.OK || n != len(rains)-i-1 {
				t.Fatal(g, rains, plan, n, e)
			}
			written++
		}
	}
	if written == 0 {
		t.Error("no year was written")
	}
}

// TestPartlySurePlans does the same with plans of which only the first years are sure (P1.9).
func TestPartlySurePlans(t *testing.T) {
	r := chance(9)
	for range 1500 {
		g := anyGrove(r, 4, 4)
		g.Habit.Keep /= 4
		rains := append(anyRains(r, 1), anyRains(r, 3)...)
		var plan []int
		for range rains {
			plan = append(plan, upTo(r, 4))
		}
		_, n, _ := clump.Look(g, rains, plan)
		shots := anyShoots(r, g, rains[0])
		if n == 0 || shots > api.MaxShots {
			continue
		}
		g.Seasons = append(slices.Clone(g.Seasons), api.Season{Shots: shots, Cut: plan[0]})
		if _, k, e := clump.Look(g, rains[1:], plan[1:]); e != api.OK || k < n-1 {
			t.Fatal(g, rains, plan, n, k, e)
		}
	}
}
