package grade_test

import (
	"slices"
	"testing"

	"canebrake/api"
	"canebrake/grade"
)

// grove has culms cut in 102, 2 that shot in 99 and 1 in 100, and in 103 1 that shot in 101; in 101 nothing was cut.
func grove() api.Grove {
	return api.Grove{
		Id:      7,
		Habit:   api.Habit{Ripe: 2, Dies: 4},
		First:   100,
		Start:   []int{1, 2, 0, 0, 0},
		Seasons: []api.Season{{Shots: 1}, {Cut: 3}, {Cut: 1}},
	}
}

// poles are poles of the clone 7, by the Ids from 0 on, with the years in which they were cut and shot.
func poles(years ...[2]int) []api.Pole {
	var l []api.Pole
	for id, x := range years {
		l = append(l, pole(id, x[0], x[1]))
	}
	return l
}

func wantTrace(t *testing.T, poles []api.Pole, groves []api.Grove, want ...uint8) {
	t.Helper()
	l, e := grade.Trace(api.Sheet{Poles: poles}, grading(), groves)
	wantKnown(t, l, e, want...)
}

// TestTrace has as many poles as culms were cut, fewer, and more (P5.4).
func TestTrace(t *testing.T) {
	old, late, last := [2]int{102, 99}, [2]int{102, 100}, [2]int{103, 101}
	book := []api.Grove{grove()}
	wantTrace(t, nil, book)
	wantTrace(t, nil, nil)
	wantTrace(t, poles(old), book, 2)
	wantTrace(t, poles(old, old), book, 2, 2)
	wantTrace(t, poles(old, old, old), book, 1, 1, 1)
	wantTrace(t, poles(late), book, 2)
	wantTrace(t, poles(late, late), book, 1, 1)
	wantTrace(t, poles(old, late, old, last), book, 2, 2, 2, 2)
	// One too many of a year leaves those of other years as they are, wherever they stand.
	wantTrace(t, poles(late, old, last, late, old), book, 1, 2, 2, 1, 2)
	// Culms that were not told of: of other years, or not cut in this one.
	wantTrace(t, poles([2]int{102, 98}, [2]int{102, 101}, [2]int{103, 99}, [2]int{103, 100}, [2]int{102, 102}), book, 0, 0, 0, 0, 0)
	// Years in which none were cut, the first one, and those that are in no book.
	wantTrace(t, poles([2]int{101, 99}, [2]int{100, 99}, [2]int{104, 101}, [2]int{99, 99}, [2]int{3000, 99}, [2]int{0, 0}), book, 0, 0, 0, 0, 0, 0)
	// Not in the book is KnownNo, however many are written down.
	wantTrace(t, poles([2]int{104, 101}, [2]int{104, 101}, old), book, 0, 0, 2)
	// Twelve poles of two culms.
	wantTrace(t, poles(slices.Repeat([][2]int{old}, 12)...), book, slices.Repeat([]uint8{1}, 12)...)
	// The grade of a pole does not matter, nor do tests that contradict each other.
	thin := poles(old, last)
	thin[0].Walls = [3]int{1, 1, 1}
	l, e := grade.Trace(api.Sheet{Poles: thin, Tests: []api.Test{held(1, 1, 0, 1000000)}}, grading(), book)
	wantKnown(t, l, e, 2, 2)
}

// TestTraceGroves has poles of several clones, of which some have no grove (P5.4).
func TestTraceGroves(t *testing.T) {
	l := poles([2]int{102, 99}, [2]int{102, 99}, [2]int{102, 99}, [2]int{102, 99}, [2]int{102, 99})
	for i, clone := range []int{7, 8, 9999, 7, 0} {
		l[i].Clone = clone
	}
	of := func(ids ...int) []api.Grove {
		var groves []api.Grove
		for _, id := range ids {
			g := grove()
			g.Id = id
			groves = append(groves, g)
		}
		return groves
	}
	wantTrace(t, l, nil, 0, 0, 0, 0, 0)
	wantTrace(t, l, of(6), 0, 0, 0, 0, 0)
	wantTrace(t, l, of(7), 2, 0, 0, 2, 0)
	wantTrace(t, l, of(8, 9999), 0, 2, 2, 0, 0)
	wantTrace(t, l, of(0, 1, 2, 3, 7, 8), 2, 2, 0, 2, 2)
	// What is written of one clone takes nothing from another one.
	l[1].Clone = 7
	wantTrace(t, l, of(0, 7, 9999), 1, 1, 2, 1, 2)
	// The books of two groves differ.
	two := of(7, 8)
	two[0].Seasons = two[0].Seasons[:1]
	l[1].Clone = 8
	wantTrace(t, l, two, 0, 2, 0, 0, 0)
}

// TestGroves has groves that are valid, and lists that are not (P5.4).
func TestGroves(t *testing.T) {
	of := func(ids ...int) []api.Grove {
		var groves []api.Grove
		for _, id := range ids {
			groves = append(groves, api.Grove{Id: id, Habit: api.Habit{Ripe: 1, Dies: 1}, Start: []int{0, 0}})
		}
		return groves
	}
	wrong := grove()
	wrong.Seasons[1].Cut = 4
	for i, x := range []struct {
		groves []api.Grove
		e      api.Errno
	}{
		{nil, api.OK}, {[]api.Grove{}, api.OK}, {of(0), api.OK}, {of(9999), api.OK}, {of(0, 1, 2, 3, 4, 9999), api.OK},
		{of(0, 1, 2, 3, 4, 5, 6), api.ErrGroves}, {of(-1), api.ErrGroves}, {of(10000), api.ErrGroves},
		{of(3, 3), api.ErrGroves}, {of(4, 3), api.ErrGroves}, {of(1, 3, 1), api.ErrGroves}, {of(1, 4, 3), api.ErrGroves},
		{[]api.Grove{wrong}, api.ErrGroves}, {append(of(3), wrong), api.ErrGroves}, {append(of(3), api.Grove{Id: 5}), api.ErrGroves},
		{make([]api.Grove, 1<<16), api.ErrGroves},
	} {
		for _, s := range []api.Sheet{{}, example()} {
			l, e := grade.Trace(s, grading(), x.groves)
			if e != x.e || e != api.OK && len(l) != 0 || e == api.OK && len(l) != len(s.Poles) {
				t.Error(i, l, e)
			}
		}
	}
}

// batch has a core that is reached in 4 or 5 hours, one that is from the beginning, and one that never is.
func batch() api.Batch {
	return api.Batch{Water: 10, Borax: 1000, Poles: [][]int{{0, 0}, {0, 20}, {0, 0, 0, 0, 0, 0}}, Spread: span(249, 250), Need: 20}
}

// in are poles by the Ids from 0 on, each with its soak and its place.
func in(places ...[2]int) []api.Pole {
	var l []api.Pole
	for id, x := range places {
		p := pole(id, 105, 102)
		p.Soak, p.Place = x[0], x[1]
		l = append(l, p)
	}
	return l
}

func wantFit(t *testing.T, poles []api.Pole, soaks []api.Soak, want ...uint8) {
	t.Helper()
	l, e := grade.Fit(api.Sheet{Poles: poles}, grading(), soaks)
	wantKnown(t, l, e, want...)
}

func soaks(hours ...int) []api.Soak {
	var l []api.Soak
	for _, n := range hours {
		l = append(l, api.Soak{Batch: batch(), Hours: n})
	}
	return l
}

// TestFit has places whose cores are reached, may be, are not, or are not there (P5.5).
func TestFit(t *testing.T) {
	all := in([2]int{0, 0}, [2]int{0, 1}, [2]int{0, 2}, [2]int{0, 3})
	wantFit(t, nil, soaks(5))
	wantFit(t, nil, nil)
	wantFit(t, all, nil, 0, 0, 0, 0)
	wantFit(t, all, soaks(0), 0, 2, 0, 0)
	wantFit(t, all, soaks(3), 0, 2, 0, 0)
	wantFit(t, all, soaks(4), 1, 2, 0, 0)
	wantFit(t, all, soaks(5), 2, 2, 0, 0)
	// Several poles may be written to be at one place, in any order.
	wantFit(t, in([2]int{0, 1}, [2]int{0, 0}, [2]int{0, 1}, [2]int{0, 0}), soaks(4), 2, 1, 2, 1)
	// Each soak has its own hours, and there may be some that no pole is in.
	each := in([2]int{5, 0}, [2]int{4, 0}, [2]int{3, 0}, [2]int{2, 0}, [2]int{1, 0}, [2]int{0, 0})
	wantFit(t, each, soaks(5, 4, 3, 0, 300, 4), 1, 2, 0, 0, 1, 2)
	wantFit(t, each, soaks(5, 4, 3), 0, 0, 0, 0, 1, 2)
	wantFit(t, each[:2], soaks(5, 4, 3), 0, 0)
	wantFit(t, each[:2], soaks(0, 0, 0, 0, 5, 4), 1, 2)
	// Each soak has its own batch: the second one has a single pole.
	two := soaks(5, 5)
	two[1].Batch.Poles = [][]int{{0, 20}}
	wantFit(t, in([2]int{0, 0}, [2]int{1, 0}, [2]int{1, 1}, [2]int{0, 1}), two, 2, 2, 0, 2)
	// A place beyond the end of the last soak, and the most poles in it.
	two[1].Batch.Poles = [][]int{{20}, {20}, {19}, {20}}
	two[1].Hours = 0
	wantFit(t, in([2]int{1, 3}, [2]int{1, 2}, [2]int{2, 0}, [2]int{5, 3}), two, 2, 0, 0, 0)
}

// TestSoaks has soaks that are valid, and lists that are not (P5.5).
func TestSoaks(t *testing.T) {
	wrong := soaks(5)
	wrong[0].Batch.Need = 0
	for i, x := range []struct {
		soaks []api.Soak
		e     api.Errno
	}{
		{nil, api.OK}, {[]api.Soak{}, api.OK}, {soaks(0), api.OK}, {soaks(300), api.OK}, {soaks(1, 1, 1, 1, 1, 1), api.OK},
		{soaks(1, 1, 1, 1, 1, 1, 1), api.ErrSoaks}, {soaks(-1), api.ErrSoaks}, {soaks(301), api.ErrSoaks}, {soaks(1, 301), api.ErrSoaks},
		{soaks(-1 << 63), api.ErrSoaks}, {soaks(1<<63 - 1), api.ErrSoaks}, {soaks(1 << 32), api.ErrSoaks},
		{wrong, api.ErrSoaks}, {append(soaks(5), wrong...), api.ErrSoaks}, {append(soaks(5), api.Soak{}), api.ErrSoaks},
		{make([]api.Soak, 1<<16), api.ErrSoaks},
	} {
		for _, s := range []api.Sheet{{}, example()} {
			l, e := grade.Fit(s, grading(), x.soaks)
			if e != x.e || e != api.OK && len(l) != 0 || e == api.OK && len(l) != len(s.Poles) {
				t.Error(i, l, e)
			}
		}
	}
}
