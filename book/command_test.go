package book_test

import (
	"fmt"
	"slices"
	"strconv"
	"strings"
	"testing"

	"canebrake/api"
	"canebrake/book"
)

// seasons is a valley with so many seasons, the last of which is that of a year.
func seasons(number, last int) api.Valley {
	return with(valley(), func(v *api.Valley) {
		g := &v.Groves[0]
		g.First, g.Seasons, g.Habit.Keep = last-number, slices.Repeat([]api.Season{{Shots: 3}}, number), 0
	})
}

// TestSeason has as many culms cut as are ripe and one more, Keep left just so and one less, and books that are full (P11.1, P11.9).
func TestSeason(t *testing.T) {
	season := func(shots, cut int) func(v *api.Valley) {
		return func(v *api.Valley) {
			v.Groves[0].Seasons = append(slices.Clip(v.Groves[0].Seasons), api.Season{Shots: shots, Cut: cut})
		}
	}
	wantRefused(t, valley(), api.ErrNone, "SEASON 2 4 5", "SEASON 4 4 5", "SEASON 0 0 0", "SEASON -3 4 5", "SEASON 1000000000000 31 31", "SEASON 4 -1 0")
	wantRefused(t, with(valley(), func(v *api.Valley) { v.Groves = nil }), api.ErrNone, "SEASON 3 4 5", "SEASON 0 0 0")
	wantRefused(t, valley(), api.ErrBad, "SEASON 3 31 0", "SEASON 3 0 31", "SEASON 3 -1 0", "SEASON 3 0 -1", "SEASON 3 1000000000000 0", "SEASON 3 0 1000000000000", "SEASON 3 -1000000000000 31")
	// Nine are ripe, and 14 stand before the cut, without shots.
	wantDone(t, valley(), "SEASON 3 0 0", season(0, 0))
	wantDone(t, valley(), "SEASON 3 30 0", season(30, 0))
	wantDone(t, valley(), "SEASON 3 30 9", season(30, 9))
	wantDone(t, valley(), "SEASON 3 3 9", season(3, 9))
	wantDone(t, valley(), "SEASON 3 0 6", season(0, 6))
	wantDoubt(t, valley(), "ripe 9", "SEASON 3 0 10", "SEASON 3 30 10", "SEASON 3 30 30", "SEASON 3 0 30")
	wantDoubt(t, valley(), "keep 7", "SEASON 3 0 7", "SEASON 3 1 8", "SEASON 3 2 9")
	wantDoubt(t, valley(), "keep 5", "SEASON 3 0 9")
	// With other numbers for Keep, also if nothing is cut.
	for keep, want := range map[int]string{0: "", 5: "", 6: "keep 5", 14: "keep 5", 15: "keep 5", 200: "keep 5"} {
		v := with(valley(), func(v *api.Valley) { v.Groves[0].Habit.Keep = keep })
		if want == "" {
			wantDone(t, v, "SEASON 3 0 9", season(0, 9))
		} else {
			wantDoubt(t, v, want, "SEASON 3 0 9")
		}
	}
	wantDone(t, with(valley(), func(v *api.Valley) { v.Groves[0].Habit.Keep = 14 }), "SEASON 3 0 0", season(0, 0))
	wantDoubt(t, with(valley(), func(v *api.Valley) { v.Groves[0].Habit.Keep = 15 }), "keep 14", "SEASON 3 0 0")
	wantDoubt(t, with(valley(), func(v *api.Valley) { v.Groves[0].Habit.Keep = 200 }), "keep 44", "SEASON 3 30 0")
	// Books with 60 seasons, and of the last year.
	wantDone(t, seasons(59, 159), "SEASON 3 0 3", season(0, 3))
	wantRefused(t, seasons(60, 160), api.ErrFull, "SEASON 3 0 3", "SEASON 3 31 0", "SEASON 3 0 30", "SEASON 3 -1 -1")
	wantDone(t, seasons(1, 2999), "SEASON 3 0 3", season(0, 3))
	wantRefused(t, seasons(1, 3000), api.ErrFull, "SEASON 3 0 3", "SEASON 3 31 0", "SEASON 3 0 30")
	wantDone(t, seasons(0, 2999), "SEASON 3 0 3", season(0, 3))
	wantRefused(t, seasons(0, 3000), api.ErrFull, "SEASON 3 0 3", "SEASON 3 31 0")
	wantRefused(t, seasons(60, 3000), api.ErrFull, "SEASON 3 0 3")
	// A grove without a book.
	wantDone(t, seasons(0, 100), "SEASON 3 1 8", season(1, 8))
	wantDoubt(t, seasons(0, 100), "ripe 8", "SEASON 3 1 9")
}

// TestSeasonOfSeveral has several groves, of which one has another season (P11.1, P11.6).
func TestSeasonOfSeveral(t *testing.T) {
	several := func() api.Valley {
		return with(valley(), func(v *api.Valley) {
			g := v.Groves[0]
			last := g
			last.Id, last.First, last.Start, last.Seasons = 9999, 200, []int{0, 0, 1, 0, 9}, nil
			last.Habit.Keep = 0
			first := last
			first.Id, first.Start = 0, []int{0, 0, 0, 2, 0}
			v.Groves = []api.Grove{first, g, last}
		})
	}
	for at, id := range []int{0, 3, 9999} {
		wantDone(t, several(), fmt.Sprint("SEASON ", id, " 6 1"), func(v *api.Valley) {
			v.Groves = slices.Clone(v.Groves)
			v.Groves[at].Seasons = append(slices.Clip(v.Groves[at].Seasons), api.Season{Shots: 6, Cut: 1})
		})
	}
	wantDoubt(t, several(), "ripe 2", "SEASON 0 30 3")
	wantDoubt(t, several(), "ripe 9", "SEASON 3 30 10")
	wantDoubt(t, several(), "ripe 1", "SEASON 9999 30 2")
	wantRefused(t, several(), api.ErrNone, "SEASON 1 0 0", "SEASON 9998 0 0", "SEASON 10000 0 0", "SEASON -1 0 0")
	// By the ages from which on culms are ripe: of 4 3 3 0 1 are left 5 4 3 3 0, and then 0 5 4 3 3.
	for ripe, want := range map[int]int{1: 15, 2: 10, 3: 6, 4: 3} {
		older := func() api.Valley {
			return with(valley(), func(v *api.Valley) {
				g := &v.Groves[0]
				g.Habit.Ripe, g.Habit.Keep, g.Start, g.Seasons = ripe, 0, []int{4, 3, 3, 0, 1}, []api.Season{{Shots: 5}}
			})
		}
		wantDoubt(t, older(), fmt.Sprint("ripe ", want), fmt.Sprint("SEASON 3 0 ", want+1))
		wantDone(t, older(), fmt.Sprint("SEASON 3 0 ", want), func(v *api.Valley) {
			v.Groves[0].Seasons = []api.Season{{Shots: 5}, {Cut: want}}
		})
	}
}

// soak is what a SOAK leaves.
func soak(water, borax int, spread api.Span, need, hours int, cells ...int) api.Soak {
	b := api.Batch{Water: water, Borax: borax, Spread: spread, Need: need}
	for _, n := range cells {
		b.Poles = append(b.Poles, make([]int, n))
	}
	return api.Soak{Batch: b, Hours: hours}
}

// TestSoak has the cells of 1 to 4 poles, from 0 to 6 and beyond, and as many soaks as there may be (P11.1).
func TestSoak(t *testing.T) {
	soaks := func(l ...api.Soak) func(v *api.Valley) { return func(v *api.Valley) { v.Soaks = l } }
	wantDone(t, valley(), "SOAK 11 12 13 14 15 16 1", soaks(soak(11, 12, span(13, 14), 15, 16, 1)))
	wantDone(t, valley(), "SOAK 10 0 1 250 1 0 6 1 3 2", soaks(soak(10, 0, span(1, 250), 1, 0, 6, 1, 3, 2)))
	wantDone(t, valley(), "SOAK 10000 100000 250 250 1000 300 6 6 6 6", soaks(soak(10000, 100000, span(250, 250), 1000, 300, 6, 6, 6, 6)))
	wantDone(t, valley(), "SOAK 10 0 1 1 1 0 5 4", soaks(soak(10, 0, span(1, 1), 1, 0, 5, 4)))
	wantDone(t, valley(), "SOAK 10 0 1 1 1 0 2 1 6", soaks(soak(10, 0, span(1, 1), 1, 0, 2, 1, 6)))
	for _, x := range []struct {
		line        string
		least, most int
	}{
		{"SOAK % 0 1 1 1 0 1", 10, 10000}, {"SOAK 10 % 1 1 1 0 1", 0, 100000}, {"SOAK 10 0 % 250 1 0 1", 1, 250}, {"SOAK 10 0 % 99 1 0 1", 1, 99},
		{"SOAK 10 0 1 % 1 0 1", 1, 250}, {"SOAK 10 0 99 % 1 0 1", 99, 250}, {"SOAK 10 0 1 1 % 0 1", 1, 1000}, {"SOAK 10 0 1 1 1 % 1", 0, 300},
		{"SOAK 10 0 1 1 1 0 %", 1, 6}, {"SOAK 10 0 1 1 1 0 % 1", 1, 6}, {"SOAK 10 0 1 1 1 0 1 %", 1, 6}, {"SOAK 10 0 1 1 1 0 1 % 1", 1, 6},
		{"SOAK 10 0 1 1 1 0 1 % 2 3", 1, 6}, {"SOAK 10 0 1 1 1 0 1 2 % 3", 1, 6}, {"SOAK 10 0 1 1 1 0 1 2 3 %", 1, 6}, {"SOAK 10 0 1 1 1 0 % 2 3 4", 1, 6},
	} {
		wantBounds(t, valley(), x.line, x.least, x.most)
	}
	// Six soaks, which may be the same; the next one is refused whatever it is.
	v := after(t, valley(), vat, vat, vat, vat)
	wantDone(t, v, "SOAK 11 12 13 14 15 16 1 2", func(v *api.Valley) { v.Soaks = append(slices.Clip(v.Soaks), soak(11, 12, span(13, 14), 15, 16, 1, 2)) })
	v = after(t, v, vat, vat)
	if len(v.Soaks) != 6 {
		t.Error(v.Soaks)
	}
	wantRefused(t, v, api.ErrFull, vat, "SOAK 9 0 0 0 0 0 0", "SOAK 10 0 1 1 1 0 7")
	// A soak may be the one that was written on a pole before.
	wantDone(t, after(t, valley(), pole(1, 98, 0)), vat, soaks(soak(10, 1000, span(250, 250), 20, 5, 1, 2, 2, 6)))
}

// wantBounds gives a number of a command, which stands as %, to the ends of its range, and beyond. Inside it the command is done, or there is a doubt about it.
func wantBounds(t *testing.T, v api.Valley, line string, least, most int) {
	t.Helper()
	for _, n := range append(around(least, most), odd()...) {
		if n < -api.MaxSaid || n > api.MaxSaid {
			continue
		}
		_, _, e := do(v, strings.Replace(line, "%", strconv.Itoa(n), 1))
		if valid := least <= n && n <= most; valid && e != api.OK && e != api.ErrDoubt || !valid && e != api.ErrBad {
			t.Error(line, "with", n, "is", e)
		}
	}
}

// sheetIds are the Ids of poles and of tests, in the order in which they stand.
func sheetIds(v api.Valley) (poles, tests []int) {
	for _, p := range v.Frame.Sheet.Poles {
		poles = append(poles, p.Id)
	}
	for _, x := range v.Frame.Sheet.Tests {
		tests = append(tests, x.Id)
	}
	return poles, tests
}

// TestPole has poles that go to the beginning, to the middle and to the end, one that is there, and poles that are not traced (P11.1, P11.9).
func TestPole(t *testing.T) {
	// All numbers of a pole are its own.
	wide := "POLE 15 3 102 100 101 102 103 11 12 13 4 3"
	p := api.Pole{Id: 15, Clone: 3, Cut: 102, Shot: 100, Girths: [3]int{101, 102, 103}, Walls: [3]int{11, 12, 13}, Soak: 4, Place: 3}
	cut := func() api.Valley { return after(t, valley(), append(slices.Clip(poles), "SEASON 3 4 5")...) }
	wantDone(t, after(t, valley(), "SEASON 3 30 9"), wide, func(v *api.Valley) { v.Frame.Sheet.Poles = []api.Pole{p} })
	for at, id := range []int{0, 9, 11, 15, 21, 29, 31, 9999} {
		// In 102 two culms of 98 and three of 99 were cut.
		line := fmt.Sprint("POLE ", id, " 3 102 99 101 102 103 11 12 13 4 3")
		wantDone(t, cut(), line, func(v *api.Valley) {
			p := api.Pole{Id: id, Clone: 3, Cut: 102, Shot: 99, Girths: [3]int{101, 102, 103}, Walls: [3]int{11, 12, 13}, Soak: 4, Place: 3}
			v.Frame.Sheet.Poles = slices.Insert(slices.Clone(v.Frame.Sheet.Poles), []int{0, 0, 1, 1, 2, 2, 3, 3}[at], p)
		})
	}
	v := after(t, cut(), "POLE 5 3 102 99 101 102 103 11 12 13 4 3", "POLE 25 3 102 99 101 102 103 11 12 13 4 3", "POLE 35 3 102 98 101 102 103 11 12 13 4 3")
	if ids, _ := sheetIds(v); !slices.Equal(ids, []int{5, 10, 20, 25, 30, 35}) {
		t.Error(ids)
	}
	// With an Id that is there, whatever else is wrong.
	wantRefused(t, v, api.ErrBad, "POLE 5 3 102 99 101 102 103 11 12 13 4 3", "POLE 10 4 999 99 101 102 103 11 12 13 4 3", "POLE 35 3 102 98 101 102 103 11 12 13 4 3")
	for _, x := range []struct {
		line        string
		least, most int
	}{
		{"POLE % 3 101 98 100 100 100 10 10 10 0 0", 0, 9999}, {"POLE 1 % 101 98 100 100 100 10 10 10 0 0", 0, 9999},
		{"POLE 1 3 % 98 100 100 100 10 10 10 0 0", 98, 3000}, {"POLE 1 3 101 % 100 100 100 10 10 10 0 0", 0, 101},
		{"POLE 1 3 101 98 % 100 100 10 10 10 0 0", 20, 300}, {"POLE 1 3 101 98 100 % 100 10 1 10 0 0", 10, 300}, {"POLE 1 3 101 98 100 100 % 10 10 10 0 0", 20, 300},
		{"POLE 1 3 101 98 100 100 100 % 10 10 0 0", 1, 50}, {"POLE 1 3 101 98 100 200 100 10 % 10 0 0", 1, 60}, {"POLE 1 3 101 98 100 100 100 10 10 % 0 0", 1, 50},
		{"POLE 1 3 101 98 100 100 100 10 10 10 % 0", 0, 5}, {"POLE 1 3 101 98 100 100 100 10 10 10 0 %", 0, 3},
	} {
		wantBounds(t, valley(), x.line, x.least, x.most)
	}
}

// TestPoleTrace has poles of other clones and years, as many as were cut, and one more (P11.1, P11.9, P11.11).
func TestPoleTrace(t *testing.T) {
	years := func(id, clone, cut, shot int) string {
		return fmt.Sprint("POLE ", id, " ", clone, " ", cut, " ", shot, " 100 100 100 10 10 10 0 0")
	}
	// Of another clone, of years in which nothing was cut, or nothing of that year, and of years that are not in the book.
	wantDoubt(t, valley(), "trace", years(1, 2, 101, 97), years(1, 4, 101, 97), years(1, 9999, 101, 98), years(1, 3, 101, 96), years(1, 3, 101, 99), years(1, 3, 101, 101), years(1, 3, 100, 97), years(1, 3, 102, 97), years(1, 3, 102, 98), years(1, 3, 3000, 98), years(1, 3, 99, 97), years(1, 3, 0, 0))
	wantDoubt(t, with(valley(), func(v *api.Valley) { v.Groves = nil }), "trace", years(1, 3, 101, 97))
	v := after(t, valley(), years(1, 3, 101, 97), years(5, 3, 101, 97), years(2, 3, 101, 98))
	wantDoubt(t, v, "many 2", years(0, 3, 101, 97), years(3, 3, 101, 97), years(9, 3, 101, 97))
	wantDoubt(t, v, "many 1", years(0, 3, 101, 98), years(3, 3, 101, 98), years(9, 3, 101, 98))
	wantDoubt(t, v, "trace", years(9, 3, 101, 99), years(9, 4, 101, 97))
	// In 102 two of 98 are left, and three of 99; another year is cut for other poles.
	v = after(t, v, "SEASON 3 0 5", years(3, 3, 102, 98), years(4, 3, 102, 98), years(6, 3, 102, 99), years(7, 3, 102, 99), years(8, 3, 102, 99))
	wantDoubt(t, v, "many 2", years(9, 3, 102, 98), years(9, 3, 101, 97))
	wantDoubt(t, v, "many 3", years(9, 3, 102, 99))
	wantDoubt(t, v, "many 1", years(9, 3, 101, 98))
	wantDoubt(t, v, "trace", years(9, 3, 102, 97), years(9, 3, 102, 100), years(9, 3, 103, 99))
	// Of two groves with the same book, each one has its own culms.
	two := with(valley(), func(v *api.Valley) {
		other := v.Groves[0]
		other.Id = 8
		v.Groves = append(v.Groves, other)
	})
	v = after(t, two, years(1, 3, 101, 98), years(2, 8, 101, 98), years(3, 8, 101, 97))
	wantDoubt(t, v, "many 1", years(4, 3, 101, 98), years(4, 8, 101, 98))
	v = after(t, v, years(4, 8, 101, 97))
	wantDoubt(t, v, "many 2", years(5, 8, 101, 97))
	wantDone(t, v, years(5, 3, 101, 97), func(v *api.Valley) {
		v.Frame.Sheet.Poles = append(slices.Clip(v.Frame.Sheet.Poles), api.Pole{Id: 5, Clone: 3, Cut: 101, Shot: 97, Girths: [3]int{100, 100, 100}, Walls: [3]int{10, 10, 10}})
	})
}

// TestManyPoles has as many poles as there may be, and one more (P11.1).
func TestManyPoles(t *testing.T) {
	v := with(valley(), func(v *api.Valley) {
		v.Groves[0].Start, v.Groves[0].Seasons = []int{0, 9, 9, 9, 0}, []api.Season{{Shots: 9, Cut: 27}}
	})
	var lines []string
	for id := range 12 {
		lines = append(lines, fmt.Sprint("POLE ", 100-id, " 3 101 ", 97+id%3, " 100 100 100 10 10 10 0 0"))
	}
	v = after(t, v, lines...)
	if ids, _ := sheetIds(v); !slices.Equal(ids, []int{89, 90, 91, 92, 93, 94, 95, 96, 97, 98, 99, 100}) {
		t.Error(ids)
	}
	wantRefused(t, v, api.ErrFull, "POLE 1 3 101 97 100 100 100 10 10 10 0 0", "POLE 100 3 101 97 100 100 100 10 10 10 0 0", "POLE -1 3 101 97 1 1 1 1 1 1 1 1", "POLE 1 7 101 97 100 100 100 10 10 10 0 0")
}

// TestTest has tests that go to the beginning, to the middle and to the end, and one that is there (P11.1).
func TestTest(t *testing.T) {
	tests := func(l ...api.Test) func(v *api.Valley) {
		return func(v *api.Valley) { v.Frame.Sheet.Tests = l }
	}
	a, b := api.Test{Id: 4, Pole: 20, Section: 1, Force: 60000, Held: true}, api.Test{Id: 7, Pole: 30, Section: 2, Force: 61000}
	v := after(t, valley(), poles...)
	wantDone(t, v, "TEST 4 20 1 60000 1", tests(a))
	wantDone(t, v, "TEST 7 30 2 61000 0", tests(b))
	v = after(t, v, "TEST 7 30 2 61000 0", "TEST 4 20 1 60000 1")
	for at, id := range []int{0, 3, 5, 6, 8, 9999} {
		c := api.Test{Id: id, Pole: 10, Section: 0, Force: 160000}
		want := [][]api.Test{{c, a, b}, {c, a, b}, {a, c, b}, {a, c, b}, {a, b, c}, {a, b, c}}[at]
		wantDone(t, v, fmt.Sprint("TEST ", id, " 10 0 160000 0"), tests(want...))
	}
	wantRefused(t, v, api.ErrBad, "TEST 4 20 1 60000 1", "TEST 7 10 0 60000 1", "TEST 4 20 1 1 0")
	isPole := func(n int) bool { return n == 10 || n == 20 || n == 30 }
	isNewId := func(n int) bool { return n >= 0 && n <= 9999 && n != 4 && n != 7 }
	isForce := func(n int) bool { return n >= 1 && n <= 1000000 }
	for _, x := range []struct {
		line  string
		valid func(n int) bool
	}{
		{"TEST % 10 0 60000 1", isNewId}, {"TEST 8 % 0 60000 1", isPole}, {"TEST 8 % 2 200000 0", isPole}, {"TEST 8 10 0 % 1", isForce}, {"TEST 8 10 0 % 0", isForce},
		{"TEST 8 10 % 60000 1", func(n int) bool { return n >= 0 && n <= 2 }}, {"TEST 8 10 0 60000 %", func(n int) bool { return n == 0 || n == 1 }},
	} {
		for _, n := range append(odd(), 4, 7, 10, 20, 30) {
			line := strings.Replace(x.line, "%", strconv.Itoa(n), 1)
			_, _, e := do(v, line)
			if n < -api.MaxSaid || n > api.MaxSaid {
				continue
			}
			if valid := e == api.OK || e == api.ErrDoubt; valid != x.valid(n) || !valid && e != api.ErrBad {
				t.Error(line, e)
			}
		}
	}
	// Twenty tests, and one more.
	for id := range 18 {
		v = after(t, v, fmt.Sprint("TEST ", 100-id, " 10 0 60000 1"))
	}
	if _, ids := sheetIds(v); len(ids) != 20 || !slices.IsSorted(ids) {
		t.Error(ids)
	}
	wantRefused(t, v, api.ErrFull, "TEST 1 10 0 60000 1", "TEST 100 10 0 60000 1", "TEST 1 10 0 60000 2", "TEST -1 77 3 0 2", "TEST 1 10 0 200000 1")
}

// TestClash has tests that clash with none, by themselves, with one, and with several (P11.1, P11.11).
func TestClash(t *testing.T) {
	// Sections of the poles hold 54,000 to 162,000, and two of them differ by at most 108,000.
	v := after(t, valley(), poles...)
	wantDoubt(t, v, "clash 5", "TEST 5 10 0 162001 1", "TEST 5 10 0 54000 0", "TEST 5 10 1 1000000 1", "TEST 5 30 2 1 0")
	wantKind(t, v, "TEST 5 10 0 162000 1", api.OK)
	wantKind(t, v, "TEST 5 10 0 54001 0", api.OK)
	one := after(t, v, "TEST 5 10 0 100000 1")
	wantDoubt(t, one, "clash 5 6", "TEST 6 10 0 100000 0", "TEST 6 10 0 90000 0")
	wantDoubt(t, one, "clash 4 5", "TEST 4 10 0 100000 0")
	wantKind(t, one, "TEST 4 10 1 100000 0", api.OK)
	wantKind(t, one, "TEST 4 20 0 100000 0", api.OK)
	wantKind(t, one, "TEST 4 10 0 100100 0", api.OK)
	wantDoubt(t, one, "clash 6", "TEST 6 10 0 162001 1", "TEST 6 20 0 54000 0")
	wantDoubt(t, one, "clash 4", "TEST 4 10 0 162001 1")
	// Of several lists with two the first one is told.
	several := after(t, one, "TEST 3 10 0 110000 1", "TEST 9 10 0 120000 1", "TEST 7 10 0 150000 0")
	wantDoubt(t, several, "clash 3 6", "TEST 6 10 0 100000 0", "TEST 6 10 0 110000 0")
	wantDoubt(t, several, "clash 6 9", "TEST 6 10 0 120000 0", "TEST 6 10 0 115000 0")
	wantDoubt(t, several, "clash 2 3", "TEST 2 10 0 100000 0")
	wantDoubt(t, several, "clash 3 9999", "TEST 9999 10 0 100000 0")
	wantDoubt(t, several, "clash 1 7", "TEST 1 10 0 150000 1")
	wantDoubt(t, several, "clash 7 8", "TEST 8 10 0 155000 1")
	wantKind(t, several, "TEST 8 10 0 140000 1", api.OK)
	// With another pole by Vary.
	near := after(t, with(valley(), func(v *api.Valley) { v.Frame.Grading.Vary = 1000 }), append(slices.Clip(poles), "TEST 5 10 0 100000 1")...)
	wantDoubt(t, near, "clash 5 6", "TEST 6 20 0 97000 0", "TEST 6 30 0 54001 0")
	wantKind(t, near, "TEST 6 20 0 100000 0", api.OK)
	wantKind(t, near, "TEST 6 20 1 97000 0", api.OK)
	// A pole without a grade tells nothing.
	thin := after(t, valley(), "POLE 1 3 101 97 100 100 100 10 3 10 0 0")
	wantKind(t, thin, "TEST 5 1 0 1000000 1", api.OK)
	wantKind(t, thin, "TEST 5 1 0 1 0", api.OK)
}

// TestKnot has as many knots as there may be, and knots while the valley is open (P11.1, P11.10).
func TestKnot(t *testing.T) {
	more := func(lo, hi int) func(v *api.Valley) {
		return func(v *api.Valley) { v.Frame.Knots = append(slices.Clip(v.Frame.Knots), span(lo, hi)) }
	}
	wantDone(t, valley(), "KNOT 0 0", more(0, 0))
	wantDone(t, valley(), "KNOT 7 9", more(7, 9))
	wantDone(t, valley(), "KNOT 0 1000000", more(0, 1000000))
	wantDone(t, valley(), "KNOT 1000000 1000000", more(1000000, 1000000))
	wantBounds(t, valley(), "KNOT % 500", 0, 500)
	wantBounds(t, valley(), "KNOT 500 %", 500, 1000000)
	wantBounds(t, valley(), "KNOT % 1000000", 0, 1000000)
	v := after(t, valley(), slices.Repeat([]string{"KNOT 3 4"}, 9)...)
	if len(v.Frame.Knots) != 10 {
		t.Error(v.Frame.Knots)
	}
	wantRefused(t, v, api.ErrFull, "KNOT 3 4", "KNOT 4 3", "KNOT -1 -1")
	// Nothing carries the new knot. While the scaffold is shut, this does not matter.
	wantDone(t, after(t, valley(), built...), "KNOT 5 5", more(5, 5))
	v = after(t, valley(), open...)
	wantDone(t, v, "KNOT 0 0", more(0, 0))
	wantDoubt(t, v, "falls", "KNOT 0 1", "KNOT 1 1", "KNOT 0 1000000", "KNOT 1000000 1000000")
	wantRefused(t, v, api.ErrBad, "KNOT 1 0", "KNOT -1 0", "KNOT 0 1000001")
	// It stands with one pole, but not without it: less is known so than by a knot that may fall.
	v = after(t, v, "TAKE 20")
	wantDoubt(t, v, "falls 10", "KNOT 0 0", "KNOT 0 1")
	wantDoubt(t, v, "falls", "KNOT 1 1")
	wantDone(t, after(t, v, "SHUT"), "KNOT 0 1", more(0, 1))
}

// crowd is a valley with twelve poles from 1 on, all of which are fit.
func crowd(t *testing.T) api.Valley {
	t.Helper()
	v := with(valley(), func(v *api.Valley) {
		v.Groves[0].Start, v.Groves[0].Seasons = []int{0, 9, 9, 9, 0}, []api.Season{{Shots: 9, Cut: 27}}
	})
	lines := []string{vat}
	for id := range 12 {
		lines = append(lines, pole(id+1, 97+id%3, id%3))
	}
	return after(t, v, lines...)
}

// TestProp has joints from 0 to 255 and beyond, and as many props as there may be (P11.1).
func TestProp(t *testing.T) {
	more := func(p api.Prop) func(v *api.Valley) {
		return func(v *api.Valley) { v.Frame.Props = append(slices.Clip(v.Frame.Props), p) }
	}
	v := after(t, valley(), append(slices.Clip(poles), "KNOT 3 4", "KNOT 5 6", "KNOT 7 8")...)
	wantDone(t, v, "PROP 20 2 1 3 9 1", more(api.Prop{Pole: 20, Section: 2, From: 1, To: 3, Share: 9, Joint: 1}))
	wantDone(t, v, "PROP 10 1 3 -1 1 2", more(api.Prop{Pole: 10, Section: 1, From: 3, To: -1, Share: 1, Joint: 2}))
	wantDone(t, v, "PROP 30 0 0 1 4 3", more(api.Prop{Pole: 30, Section: 0, From: 0, To: 1, Share: 4, Joint: 3}))
	for joint := -3; joint < 1030; joint++ {
		want := api.ErrBad
		if joint >= 1 && joint <= 3 {
			want = api.OK
		}
		wantKind(t, v, fmt.Sprint("PROP 30 0 0 1 4 ", joint), want)
	}
	wantBounds(t, v, "PROP 30 0 0 1 4 %", 1, 3)
	wantBounds(t, v, "PROP 30 % 0 1 4 3", 0, 2)
	wantBounds(t, v, "PROP 30 0 % -1 4 3", 0, 3)
	wantBounds(t, v, "PROP 30 0 % 2 4 3", 0, 1)
	wantBounds(t, v, "PROP 30 0 2 3 % 3", 1, 9)
	for _, n := range append(odd(), 10, 20, 30, 11, 29) {
		if n < -api.MaxSaid || n > api.MaxSaid {
			continue
		}
		wantKind(t, v, fmt.Sprint("PROP ", n, " 0 0 1 4 3"), map[bool]api.Errno{true: api.OK, false: api.ErrBad}[n == 10 || n == 20 || n == 30])
		wantKind(t, v, fmt.Sprint("PROP 30 0 1 ", n, " 4 3"), map[bool]api.Errno{true: api.OK, false: api.ErrBad}[n == -1 || n == 2 || n == 3])
	}
	// A section has one prop.
	v = after(t, v, "PROP 30 0 0 1 4 3", "PROP 30 1 0 2 1 1")
	wantRefused(t, v, api.ErrBad, "PROP 30 0 0 1 4 3", "PROP 30 0 1 -1 4 2", "PROP 30 1 0 2 1 1")
	wantDone(t, v, "PROP 30 2 0 1 4 3", more(api.Prop{Pole: 30, Section: 2, From: 0, To: 1, Share: 4, Joint: 3}))
	wantDone(t, v, "PROP 10 0 0 1 4 3", more(api.Prop{Pole: 10, Section: 0, From: 0, To: 1, Share: 4, Joint: 3}))
	// Twenty props, and one more.
	v = crowd(t)
	for i := range 20 {
		v = after(t, v, fmt.Sprint("PROP ", 12-i/3, " ", i%3, " 0 -1 ", 1+i%9, " ", 1+i%3))
	}
	if len(v.Frame.Props) != 20 || v.Frame.Props[0].Pole != 12 || v.Frame.Props[19] != (api.Prop{Pole: 6, Section: 1, To: -1, Share: 2, Joint: 2}) {
		t.Error(v.Frame.Props)
	}
	wantRefused(t, v, api.ErrFull, "PROP 1 0 0 -1 1 3", "PROP 1 0 0 -1 1 300", "PROP 12 0 0 -1 1 3", "PROP 77 0 0 -1 1 3")
}

// TestPropDoubts has poles that are weak, unfit, and with which a scaffold that is open falls, in the order in which this is checked (P11.1, P11.9, P11.10).
func TestPropDoubts(t *testing.T) {
	v := with(valley(), func(v *api.Valley) {
		v.Groves[0].Start, v.Groves[0].Seasons = []int{4, 3, 3, 9, 1}, []api.Season{{Shots: 5, Cut: 9}}
		v.Groves[0].Habit.Keep = 0
		v.Frame.Knots = []api.Span{span(10000, 14000)}
	})
	// 40 is thin and in a pole's place where no core is reached, 50 is thin and of no soak, 60 is thin and fit; 70 is in such a place, 80 of no soak, and 90 in a place that the soak does not have.
	v = after(t, v, "SOAK 10 1000 250 250 20 5 1 2 6",
		pole(10, 97, 0), pole(20, 97, 1),
		"POLE 40 3 101 97 100 100 100 10 10 3 0 2", "POLE 50 3 101 97 100 100 100 3 10 10 1 0", "POLE 60 3 101 97 100 100 100 10 3 10 0 1",
		"POLE 70 3 101 97 100 100 100 10 10 10 0 2", "POLE 80 3 101 97 100 100 100 10 10 10 1 0", "POLE 90 3 101 97 100 100 100 10 10 10 0 3",
		"PROP 10 0 0 -1 1 3", "PROP 20 0 0 -1 1 3")
	for _, v := range []api.Valley{v, after(t, v, "USE")} {
		// With a lashing each of them would fall.
		for _, joint := range []int{3, 1} {
			for section := range 3 {
				line := fmt.Sprint("PROP % ", section, " 0 -1 1 ", joint)
				for id, want := range map[string]string{"40": "weak", "50": "weak", "60": "weak", "70": "unfit", "80": "unfit", "90": "unfit"} {
					wantDoubt(t, v, want, strings.Replace(line, "%", id, 1))
				}
			}
		}
		wantRefused(t, v, api.ErrBad, "PROP 40 0 0 0 1 3", "PROP 70 3 0 -1 1 3", "PROP 60 0 0 -1 1 0", "PROP 10 0 0 -1 1 1", "PROP 100 1 0 -1 1 1")
	}
	// A core that is reached at some spreads is not fit.
	some := after(t, valley(), "SOAK 10 1000 249 250 20 4 2", pole(10, 97, 0))
	wantDoubt(t, some, "unfit", "PROP 10 0 0 -1 1 3")
	later := after(t, valley(), "SOAK 10 1000 249 250 20 5 2", pole(10, 97, 0))
	wantKind(t, later, "PROP 10 0 0 -1 1 3", api.OK)
	// 4,667 of 14,000 are held by mortar; without 10 or 20 it bears 7,000.
	v = after(t, v, "POLE 30 3 101 97 100 100 100 10 10 10 0 0")
	wantKind(t, v, "PROP 30 0 0 -1 1 2", api.OK)
	wantKind(t, v, "PROP 30 0 0 -1 9 1", api.OK)
	v = after(t, v, "USE")
	wantDoubt(t, v, "falls 10", "PROP 30 0 0 -1 1 2")
	wantDoubt(t, v, "falls", "PROP 30 0 0 -1 2 2", "PROP 30 0 0 -1 1 1", "PROP 20 1 0 -1 9 1")
	wantKind(t, v, "PROP 30 0 0 -1 1 3", api.OK)
	// If it is of 10 itself, it is gone without 10, but not without 20.
	wantDoubt(t, v, "falls 20", "PROP 10 1 0 -1 1 2")
	wantKind(t, after(t, v, "SHUT"), "PROP 10 1 0 -1 1 2", api.OK)
}

// TestTake has poles that are not there, without props, and with some (P11.1, P11.10).
func TestTake(t *testing.T) {
	left := func(l ...api.Prop) func(v *api.Valley) { return func(v *api.Valley) { v.Frame.Props = l } }
	foot := func(pole int) api.Prop { return api.Prop{Pole: pole, To: -1, Share: 1, Joint: 3} }
	v := after(t, valley(), built...)
	wantRefused(t, v, api.ErrNone, "TAKE 0", "TAKE 11", "TAKE -1", "TAKE 9999", "TAKE 1000000000000", "TAKE -1000000000000")
	wantRefused(t, v, api.ErrBad, "TAKE 30")
	wantRefused(t, valley(), api.ErrNone, "TAKE 10")
	// While it is shut, all may be taken.
	wantDone(t, v, "TAKE 10", left(foot(20)))
	wantDone(t, v, "TAKE 20", left(foot(10)))
	wantDone(t, after(t, v, "TAKE 20"), "TAKE 10", left())
	wantRefused(t, after(t, v, "TAKE 10"), api.ErrBad, "TAKE 10")
	// While it is open, one has to bear all.
	v = after(t, v, "USE")
	wantRefused(t, v, api.ErrNone, "TAKE 11")
	wantRefused(t, v, api.ErrBad, "TAKE 30")
	wantDone(t, v, "TAKE 10", left(foot(20)))
	wantDone(t, v, "TAKE 20", left(foot(10)))
	wantDoubt(t, after(t, v, "TAKE 10"), "falls", "TAKE 20")
	wantDoubt(t, after(t, v, "TAKE 20"), "falls", "TAKE 10")
	wantDone(t, after(t, v, "TAKE 20", "SHUT"), "TAKE 10", left())
	wantDone(t, after(t, v, "PROP 30 0 0 -1 1 3", "TAKE 10"), "TAKE 30", left(foot(20)))
	// All props of a pole are gone, wherever they stand.
	v = after(t, valley(), poles...)
	v = after(t, v, "PROP 20 0 0 -1 1 3", "PROP 10 0 0 -1 1 3", "PROP 20 2 0 -1 1 1", "PROP 30 0 0 -1 1 3", "PROP 20 1 0 -1 1 2")
	wantDone(t, v, "TAKE 20", left(foot(10), foot(30)))
	if told, e := book.Tell(after(t, v, "TAKE 20"), 20); told.Used || e != api.OK {
		t.Error(told, e)
	}
	// It stands with a pole out, but not surely: 56,000 may be more than a section holds, but is not more than each of its joints.
	known := with(after(t, valley(), open...), func(v *api.Valley) { v.Frame.Knots[0] = span(50000, 56000) })
	wantDoubt(t, known, "falls", "TAKE 10", "TAKE 20")
	wantDone(t, after(t, known, "SHUT"), "TAKE 10", left(foot(20)))
	// A test more tells that it holds.
	wantDone(t, after(t, known, "TEST 1 20 0 56000 1"), "TAKE 10", left(foot(20)))
	wantDoubt(t, after(t, known, "TEST 1 20 0 56000 1"), "falls", "TAKE 20")
}

// TestUse has scaffolds that are opened and shut, also twice (P11.1, P11.10).
func TestUse(t *testing.T) {
	isOpen := func(open bool) func(v *api.Valley) { return func(v *api.Valley) { v.Open = open } }
	v := after(t, valley(), built...)
	wantRefused(t, v, api.ErrBad, "SHUT")
	wantDone(t, v, "USE", isOpen(true))
	v = after(t, v, "USE")
	wantRefused(t, v, api.ErrBad, "USE")
	wantDone(t, v, "SHUT", isOpen(false))
	wantRefused(t, after(t, v, "SHUT"), api.ErrBad, "SHUT")
	wantDone(t, after(t, v, "SHUT"), "USE", isOpen(true))
	// It may be open and not accepted, but is not opened so.
	v = after(t, v, "TAKE 20")
	wantRefused(t, v, api.ErrBad, "USE")
	wantDoubt(t, after(t, v, "SHUT"), "falls 10", "USE")
	wantDone(t, after(t, v, "PROP 30 0 0 -1 1 3", "SHUT"), "USE", isOpen(true))
	// Without a pole that is named; and with the first one of which least is known.
	wantDoubt(t, valley(), "falls", "USE")
	one := after(t, valley(), append(slices.Clip(poles), "PROP 20 0 0 -1 1 3")...)
	wantDoubt(t, one, "falls 20", "USE")
	wantDoubt(t, after(t, one, "PROP 10 0 0 -1 1 2"), "falls", "USE")
	wantDoubt(t, after(t, with(one, func(v *api.Valley) { v.Frame.Knots[0] = span(8000, 10000) }), "PROP 10 0 0 -1 1 2"), "falls 20", "USE")
	wantDone(t, after(t, with(one, func(v *api.Valley) { v.Frame.Knots[0] = span(0, 5000) }), "PROP 10 0 0 -1 1 2"), "USE", isOpen(true))
	// Nothing is put on its knots.
	bare := with(valley(), func(v *api.Valley) { v.Frame.Knots = []api.Span{span(0, 0), span(0, 0)} })
	wantDone(t, bare, "USE", isOpen(true))
	wantDoubt(t, with(bare, func(v *api.Valley) { v.Frame.Knots[1].Hi = 1 }), "falls", "USE")
}
