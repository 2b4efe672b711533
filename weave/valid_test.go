package weave_test

import (
	"math"
	"testing"

	"canebrake/api"
	"canebrake/weave"
)

// wantErrors asks all functions for the errors of a pattern, a screen and a gauge. The sticks are wrong, so that their error shows that the others come first.
func wantErrors(t *testing.T, p api.Pattern, s api.Screen, g api.Gauge, want api.Errno) {
	t.Helper()
	a := ask(question{p, s, g, make([]api.Stick, 1)})
	woven, measured := want, want
	if want == api.ErrGauge || want == api.ErrMany {
		woven = api.OK
	}
	if want == api.ErrMany {
		measured = api.OK
	}
	made := want
	if want == api.OK {
		made = api.ErrSticks
	}
	if a.errors() != [7]api.Errno{woven, woven, woven, woven, measured, want, made} || !a.bare() {
		t.Error(p, s, g, "is", a, "not", want)
	}
}

// around are numbers at the ends of a range, beyond them, and far away.
func around(least, most int) []int {
	return []int{
		least - 1, least, least + 1, most - 1, most, most + 1,
		math.MinInt, math.MinInt + 1, -1 << 32, -8, -1, 1 << 32, 1<<32 + least, 1<<62 + least, math.MaxInt/2 + 1, math.MaxInt - 1, math.MaxInt,
	}
}

// orError is no error if all is valid, otherwise the one that is given.
func orError(valid bool, e api.Errno) api.Errno {
	if valid {
		return api.OK
	}
	return e
}

// timesUpTo tells whether a number is another one, once or up to so many times.
func timesUpTo(number, other, most int) bool {
	for times := 1; times <= most; times++ {
		if times*other == number {
			return true
		}
	}
	return false
}

// TestPatternBounds has patterns of all widths with lists of all lengths (P8.1, R5).
func TestPatternBounds(t *testing.T) {
	for _, wide := range append(around(1, 8), numbers(-9, 12)...) {
		for length := range 100 {
			p := api.Pattern{Wide: wide, Over: make([]bool, length)}
			valid := wide >= 1 && wide <= 8 && timesUpTo(length, wide, 8)
			wantErrors(t, p, flat(2, 3), example(), orError(valid, api.ErrPattern))
		}
		wantErrors(t, api.Pattern{Wide: wide, Over: make([]bool, 1<<20)}, flat(2, 3), example(), api.ErrPattern)
	}
	wantErrors(t, api.Pattern{}, flat(2, 3), example(), api.ErrPattern)
}

// TestScreenBounds has as many columns and rows as there may be, and more (P8.1, R5).
func TestScreenBounds(t *testing.T) {
	for _, n := range append(around(1, 24), numbers(-3, 30)...) {
		want := orError(n >= 1 && n <= 24, api.ErrScreen)
		for _, p := range []api.Pattern{pattern("o"), pattern("o", "u", "u")} {
			for _, other := range []int{1, 2, 24} {
				for _, s := range []api.Screen{flat(n, other), flat(other, n), round(n, other), round(other, n)} {
					if weave.Check(p, s) != want {
						t.Error(p, s, weave.Check(p, s), want)
					}
				}
			}
			wantErrors(t, p, flat(n, 1), split(12), want)
			wantErrors(t, p, round(1, n), split(12), want)
		}
	}
}

// TestCloses has all widths with all numbers of columns: where a screen goes round the pattern has to come again (P8.1).
func TestCloses(t *testing.T) {
	for wide := 1; wide <= 8; wide++ {
		for columns := 1; columns <= 24; columns++ {
			for _, rows := range []int{1, 2, 3} {
				p := api.Pattern{Wide: wide, Over: make([]bool, wide*rows)}
				// The rows need not come again.
				wantErrors(t, p, flat(columns, 2), split(12), api.OK)
				wantErrors(t, p, round(columns, 2), split(12), orError(timesUpTo(columns, wide, 24), api.ErrBad))
			}
		}
	}
}

// TestGaugeBounds sets each number of a gauge to the ends of its range, and beyond (P8.3, R5).
func TestGaugeBounds(t *testing.T) {
	for _, x := range []struct {
		name        string
		least, most int
		set         func(g *api.Gauge, n int)
	}{
		{"pitch", 1, 500, func(g *api.Gauge, n int) { g.Pitch = n }},
		{"bow", 0, 100, func(g *api.Gauge, n int) { g.Bow = n }},
		{"lap", 0, 1000, func(g *api.Gauge, n int) { g.Lap = n }},
		{"split", 1, 12, func(g *api.Gauge, n int) { g.Split = n }},
		{"grade", 0, 3, func(g *api.Gauge, n int) { g.Grade = n }},
		{"buy", 0, 1000000, func(g *api.Gauge, n int) { g.Buy = n }},
	} {
		for _, n := range around(x.least, x.most) {
			g := example()
			x.set(&g, n)
			want := orError(n >= x.least && n <= x.most, api.ErrGauge)
			// A lap counts also where nothing is lapped, and a bow also where there is none.
			wantErrors(t, plain(), flat(4, 4), g, want)
			wantErrors(t, plain(), round(2, 1), g, want)
			wantErrors(t, pattern("o"), flat(1, 1), g, want)
			if t.Failed() {
				t.Fatal(x.name, n)
			}
		}
	}
	wantErrors(t, plain(), flat(4, 4), api.Gauge{}, api.ErrGauge)
	wantErrors(t, plain(), flat(4, 4), api.Gauge{Pitch: 1, Split: 1}, api.OK)
	wantErrors(t, plain(), flat(4, 4), api.Gauge{Pitch: 500, Bow: 100, Lap: 1000, Split: 12, Grade: 3, Buy: 1000000}, api.OK)
}
