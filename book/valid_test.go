package book_test

import (
	"math"
	"slices"
	"testing"

	"canebrake/api"
	"canebrake/book"
)

// around are numbers at the ends of a range, beyond them, and far away.
func around(least, most int) []int {
	return []int{
		least - 1, least, least + 1, most - 1, most, most + 1,
		math.MinInt, math.MinInt + 1, -1 << 32, -8, -1, 1 << 32, 1<<32 + least, 1<<62 + least, math.MaxInt/2 + 1, math.MaxInt - 1, math.MaxInt,
	}
}

// odd are numbers at the ends of ranges, and others far from them.
func odd() []int {
	return []int{
		math.MinInt, math.MinInt + 1, -1000000000001, -1000000000000, -999999999999, -1 << 32, -2, -1, 0, 1, 2, 3, 4, 5, 6, 7, 8, 9, 12, 15, 30, 31, 59, 60, 61, 97, 98, 99, 101, 102, 103, 149, 150, 151,
		250, 251, 255, 256, 257, 300, 301, 999, 1000, 1001, 2999, 3000, 3001, 9998, 9999, 10000, 10001, 100000, 999999, 1000000, 1000001, 1 << 32, 999999999999, 1000000000000, 1000000000001, math.MaxInt/2 + 1, math.MaxInt - 1, math.MaxInt,
	}
}

// wantValid asks all functions with a valley whether it is valid. All else that they get is wrong, so that its error shows that this one comes first.
func wantValid(t *testing.T, v api.Valley, valid bool) {
	t.Helper()
	want := func(e api.Errno) api.Errno {
		if valid {
			return e
		}
		return api.ErrValley
	}
	check := book.Check(v)
	next, said, word := book.Do(v, "", []int{api.MaxSaid + 1})
	last, at, why, first := book.Replay(v, []api.Entry{{Word: "END"}})
	same, _, _, none := book.Replay(v, nil)
	told, tell := book.Tell(v, -1)
	if check != want(api.OK) || word != want(api.ErrWord) || first != want(api.ErrWord) || none != want(api.OK) || tell != want(api.ErrNone) {
		t.Error(shown(v), "is", check, word, first, none, tell)
	}
	empty := shown(api.Valley{})
	if shown(next) != empty || said != "" || shown(last) != empty || at != 0 || why != "" || told != (api.Told{}) {
		t.Error(shown(v), "leaves", shown(next), said, shown(last), at, why, told)
	}
	if left := shown(same); valid && left != shown(v) || !valid && left != empty {
		t.Error(shown(v), "leaves", left)
	}
}

// TestValid has valleys of which just one thing is wrong (P11.1).
func TestValid(t *testing.T) {
	good := func() api.Valley { return after(t, valley(), append(slices.Clip(open), "TEST 5 10 0 60000 1")...) }
	wantValid(t, good(), true)
	wantValid(t, valley(), true)
	wantValid(t, api.Valley{}, false)
	for i, x := range []struct {
		change func(v *api.Valley)
		valid  bool
	}{
		// The frame.
		{func(v *api.Valley) { v.Frame.Grading.Vary = -1 }, false}, {func(v *api.Valley) { v.Frame.Grading.Grades = nil }, false},
		{func(v *api.Valley) { v.Frame.Sheet.Poles[2].Id = 20 }, false}, {func(v *api.Valley) { v.Frame.Sheet.Poles[2].Place = 4 }, false},
		{func(v *api.Valley) { v.Frame.Sheet.Tests[0].Pole = 11 }, false}, {func(v *api.Valley) { v.Frame.Sheet.Tests[0].Force = 0 }, false},
		{func(v *api.Valley) { v.Frame.Knots = nil; v.Frame.Props = nil }, false}, {func(v *api.Valley) { v.Frame.Knots[0].Lo = -1 }, false},
		{func(v *api.Valley) { v.Frame.Knots = append(v.Frame.Knots, make([]api.Span, 9)...) }, true}, {func(v *api.Valley) { v.Frame.Knots = append(v.Frame.Knots, make([]api.Span, 10)...) }, false},
		{func(v *api.Valley) { v.Frame.Props[0].Joint = 4 }, false}, {func(v *api.Valley) { v.Frame.Props[1] = v.Frame.Props[0] }, false}, {func(v *api.Valley) { v.Frame.Holds[0].Hi = 1000001 }, false},
		// Groves and soaks.
		{func(v *api.Valley) { v.Groves[0].Start[0] = 10 }, false}, {func(v *api.Valley) { v.Groves[0].Habit.Keep = 201 }, false}, {func(v *api.Valley) { v.Groves = append(v.Groves, v.Groves[0]) }, false},
		{func(v *api.Valley) { other := v.Groves[0]; other.Id = 2; v.Groves = append(v.Groves, other) }, false},
		{func(v *api.Valley) { other := v.Groves[0]; other.Id = 4; v.Groves = append(v.Groves, other) }, true},
		{func(v *api.Valley) { v.Soaks[0].Hours = -1 }, false}, {func(v *api.Valley) { v.Soaks[0].Hours = 301 }, false}, {func(v *api.Valley) { v.Soaks[0].Batch.Water = 9 }, false}, {func(v *api.Valley) { v.Soaks[0].Batch.Poles[3] = nil }, false},
		{func(v *api.Valley) { v.Soaks = slices.Repeat(v.Soaks, 6) }, true}, {func(v *api.Valley) { v.Soaks = slices.Repeat(v.Soaks, 7) }, false},
		// Traces: of another clone, another year, and one too many. This is so also of the pole without props.
		{func(v *api.Valley) { v.Groves = nil }, false}, {func(v *api.Valley) { v.Groves[0].Id = 4 }, false}, {func(v *api.Valley) { v.Groves[0].First = 99 }, false}, {func(v *api.Valley) { v.Groves[0].Seasons[0].Cut = 2 }, false},
		{func(v *api.Valley) { v.Groves[0].Seasons[0].Cut = 8 }, true},
		{func(v *api.Valley) { v.Frame.Sheet.Poles[2].Clone = 4 }, false}, {func(v *api.Valley) { v.Frame.Sheet.Poles[2].Shot = 97 }, false}, {func(v *api.Valley) { v.Frame.Sheet.Poles[2].Shot = 96 }, false},
		{func(v *api.Valley) { v.Frame.Sheet.Poles[0].Shot = 98 }, false}, {func(v *api.Valley) { v.Frame.Sheet.Poles = v.Frame.Sheet.Poles[:2] }, true},
		// Tests that clash, also of a section that is in no prop.
		{func(v *api.Valley) { v.Frame.Sheet.Tests[0].Force = 162001 }, false}, {func(v *api.Valley) { v.Frame.Sheet.Tests[0].Force = 162000 }, true}, {func(v *api.Valley) { v.Frame.Sheet.Tests[0] = api.Test{Pole: 30, Section: 2, Force: 54000} }, false},
		{func(v *api.Valley) {
			v.Frame.Sheet.Tests = append(v.Frame.Sheet.Tests, api.Test{Id: 6, Pole: 10, Force: 60000})
		}, false},
		// Without props no strength is asked for, but they clash all the same.
		{func(v *api.Valley) { v.Frame.Props, v.Open, v.Frame.Sheet.Tests[0].Force = nil, false, 162001 }, false}, {func(v *api.Valley) { v.Frame.Props, v.Open, v.Frame.Sheet.Tests[0].Force = nil, false, 162000 }, true},
		// Props of poles without a grade, and of such that are not fit.
		{func(v *api.Valley) { v.Frame.Sheet.Poles[0].Walls[2] = 3 }, false}, {func(v *api.Valley) { v.Frame.Sheet.Poles[2].Walls[2] = 3 }, true},
		{func(v *api.Valley) { v.Frame.Sheet.Poles[0].Soak = 1 }, false}, {func(v *api.Valley) { v.Frame.Sheet.Poles[0].Place = 3 }, false}, {func(v *api.Valley) { v.Soaks = nil }, false}, {func(v *api.Valley) { v.Soaks[0].Hours = 0 }, false},
		{func(v *api.Valley) { v.Frame.Sheet.Poles[2].Soak = 1 }, true}, {func(v *api.Valley) { v.Frame.Sheet.Poles[2].Place = 3 }, true}, {func(v *api.Valley) { v.Soaks[0].Batch.Spread.Lo = 1 }, false},
		// What is open stands surely, though not with each pole out.
		{func(v *api.Valley) { v.Frame.Knots[0].Hi = 108000 }, true}, {func(v *api.Valley) { v.Frame.Knots[0].Hi = 108001 }, false}, {func(v *api.Valley) { v.Frame.Knots[0] = span(200000, 200000) }, false},
		{func(v *api.Valley) { v.Frame.Props = v.Frame.Props[:1] }, true}, {func(v *api.Valley) { v.Frame.Props = nil }, false}, {func(v *api.Valley) { v.Frame.Props, v.Frame.Knots = nil, []api.Span{{}} }, true},
		{func(v *api.Valley) { v.Frame.Knots[0].Hi = 108001; v.Open = false }, true}, {func(v *api.Valley) { v.Frame.Knots[0] = span(200000, 200000); v.Open = false }, true}, {func(v *api.Valley) { v.Frame.Props = nil; v.Open = false }, true},
		{func(v *api.Valley) { v.Frame.Sheet.Poles[0].Walls[2] = 3; v.Open = false }, false}, {func(v *api.Valley) { v.Frame.Sheet.Poles[0].Place = 3; v.Open = false }, false}, {func(v *api.Valley) { v.Frame.Sheet.Tests[0].Force = 162001; v.Open = false }, false},
	} {
		wantValid(t, with(good(), x.change), x.valid)
		if t.Failed() {
			t.Fatal(i)
		}
	}
	// A core that is reached at some spreads is not fit.
	some := after(t, valley(), "SOAK 10 1000 250 250 20 4 2", pole(10, 97, 0), "PROP 10 0 0 -1 1 3")
	wantValid(t, some, true)
	some.Soaks[0].Batch.Spread.Lo = 249
	wantValid(t, some, false)
}

// TestValidLog has logs of all lengths, and entries that are no commands (P11.1, R5, R6).
func TestValidLog(t *testing.T) {
	logged := func(log ...api.Entry) api.Valley { return with(valley(), func(v *api.Valley) { v.Log = log }) }
	for _, number := range []int{0, 1, 2, 149, 150, 151, 152, 300, 1 << 16} {
		wantValid(t, logged(slices.Repeat(entries("USE"), number)...), number <= 150)
	}
	for word, need := range needs() {
		for number := range 14 {
			isWord := need[0] <= number && number <= need[1]
			wantValid(t, logged(entry("USE"), api.Entry{Word: word, Args: make([]int, number)}), isWord)
			wantValid(t, logged(api.Entry{Word: word + " ", Args: make([]int, number)}), false)
			for i := range number {
				for _, n := range around(-1000000000000, 1000000000000) {
					x := api.Entry{Word: word, Args: make([]int, number)}
					x.Args[i] = n
					wantValid(t, logged(x, entry("SHUT")), isWord && n >= -1000000000000 && n <= 1000000000000)
				}
			}
		}
	}
	for _, word := range []string{"", "END", "use", "Use", "USED", "\n", "POLES"} {
		for number := range 14 {
			wantValid(t, logged(entry("KNOT 1 2"), api.Entry{Word: word, Args: make([]int, number)}), false)
		}
	}
}

// TestAnyValley has valleys that no commands would leave: they count as valid (R6).
func TestAnyValley(t *testing.T) {
	// Nothing of what the log tells has been done, nor could it be: it is open and shut twice, and its numbers are far away.
	v := with(valley(), func(v *api.Valley) {
		v.Log = entries("USE", "USE", "SHUT", "SHUT", "TAKE -1000000000000", "SOAK 0 0 0 0 0 0 0", "POLE 1 2 3 4 5 6 7 8 9 10 11 12", "SEASON 77 77 77")
	})
	wantValid(t, v, true)
	wantDone(t, v, "KNOT 1 2", func(v *api.Valley) { v.Frame.Knots = append(v.Frame.Knots, span(1, 2)) })
	// Cells that are full, a grove that stands below its Keep, of the year 0 and of the Id 0, and a frame that is open without a prop.
	v = api.Valley{
		Groves: []api.Grove{{Habit: api.Habit{Dies: 1, Ripe: 1, Keep: 200}, Start: []int{0, 0}}, {Id: 9999, Habit: api.Habit{Rate: span(1000, 1000), Dies: 6, Bears: 6, Ripe: 6}, First: 3000, Start: make([]int, 7)}},
		Soaks:  []api.Soak{{Batch: api.Batch{Water: 10, Poles: [][]int{{1000}, {0, 1000, 0}}, Spread: span(1, 250), Need: 1000}}},
		Frame:  api.Frame{Grading: api.Grading{Grades: []api.Grade{{Wall: 1, Stress: alike(1, 200000)}}}, Knots: make([]api.Span, 10)},
		Open:   true,
	}
	wantValid(t, v, true)
	wantDoubt(t, v, "keep 30", "SEASON 0 30 0")
	wantDoubt(t, v, "ripe 0", "SEASON 0 30 1")
	wantRefused(t, v, api.ErrFull, "SEASON 9999 0 0", "KNOT 0 0")
	wantDone(t, v, "SHUT", func(v *api.Valley) { v.Open = false })
	// A pole may be fit by what was in its cells before, and a soak may be that of other poles than there are.
	v.Frame.Sheet.Poles = []api.Pole{{Id: 0, Clone: 5, Cut: 1, Girths: [3]int{10, 10, 10}, Walls: [3]int{1, 1, 1}}}
	wantValid(t, v, false)
	v.Groves = []api.Grove{{Id: 5, Habit: api.Habit{Dies: 1, Ripe: 1}, Start: []int{1, 0}, Seasons: []api.Season{{Cut: 1}}}}
	wantValid(t, v, true)
	v.Frame.Props = []api.Prop{{To: -1, Share: 1, Joint: 1}}
	wantValid(t, v, true)
	wantTold(t, v, 0, api.Told{Grade: 1, Trace: 2, Fit: 2, Strong: alike(0, 5400), Used: true})
}
