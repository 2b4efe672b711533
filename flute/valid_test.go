package flute_test

import (
	"math"
	"slices"
	"testing"

	"canebrake/api"
	"canebrake/flute"
)

// wantFluteErrors asks all functions with a flute whether it is valid. The fingering and the note are wrong, so that their errors show that the flute's comes first.
func wantFluteErrors(t *testing.T, f api.Flute, valid bool) {
	t.Helper()
	want := [4]api.Errno{api.ErrFlute, api.ErrFlute, api.ErrFlute, api.ErrFlute}
	fingering := uint8(255)
	if valid && len(f.Holes) < 8 {
		want = [4]api.Errno{api.OK, api.ErrArg, api.ErrArg, api.ErrNotes}
	} else if valid {
		want = [4]api.Errno{api.OK, api.OK, api.ErrNotes, api.ErrNotes}
	}
	s, e := flute.Tone(f, fingering)
	known, g := flute.Plays(f, fingering, span(2, 1))
	l, h := flute.Fingers(f, span(2, 1))
	got := [4]api.Errno{flute.Check(f), e, g, h}
	if got != want || e != api.OK && s != span(0, 0) || known != 0 || len(l) > 0 {
		t.Error(f, got, want, s, known, l)
	}
}

// wantBlankErrors asks both functions with a blank whether it is valid. There are no places, and no notes.
func wantBlankErrors(t *testing.T, b api.Blank, valid bool) {
	t.Helper()
	want := [2]api.Errno{api.ErrBlank, api.ErrBlank}
	if valid {
		want = [2]api.Errno{api.ErrBad, api.ErrNotes}
	}
	f, e := flute.Make(b, nil)
	l, g := flute.Drill(b, nil)
	if [2]api.Errno{e, g} != want || f.Length != 0 || len(f.Holes) > 0 || len(l) > 0 {
		t.Error(b, e, g, want, f, l)
	}
}

// around are numbers at the ends of a range, beyond them, and far away.
func around(least, most int) []int {
	return []int{
		least - 1, least, least + 1, most - 1, most, most + 1,
		math.MinInt, math.MinInt + 1, -1 << 32, -8, -1, 1 << 32, 1<<32 + least, 1<<62 + least, math.MaxInt/2 + 1, math.MaxInt - 1, math.MaxInt,
	}
}

// odd are numbers at the ends of ranges, and others far from them.
func odd() []int {
	return []int{math.MinInt, math.MinInt + 1, -1 << 32, -2, -1, 0, 1, 2, 3, 8, 9, 10, 11, 49, 50, 51, 59, 60, 61, 199, 200, 201, 299, 300, 301, 399, 400, 401, 19999, 20000, 20001, 99999, 100000, 100001, 340000, 499999, 500000, 500001, 10000000, 10000001, 1 << 32, math.MaxInt/2 + 1, math.MaxInt - 1, math.MaxInt}
}

// wantSpans sets a span to all pairs of ends at and around its range, and of odd numbers.
func wantSpans(least, most int, look func(s api.Span, valid bool)) {
	ends := append(around(least, most), odd()...)
	for _, lo := range ends {
		for _, hi := range ends {
			look(span(lo, hi), least <= lo && lo <= hi && hi <= most)
		}
	}
}

// TestFluteBounds sets each number of a flute to the ends of its range, and beyond (P9.1, R5).
func TestFluteBounds(t *testing.T) {
	wantFluteErrors(t, api.Flute{}, false)
	wantFluteErrors(t, eight(), true)
	wantFluteErrors(t, exampleFlute(), true)
	for _, length := range append(around(50, 20000), odd()...) {
		within := length >= 50 && length <= 20000
		wantFluteErrors(t, bare(length), within)
		// A hole is at 300 at most.
		f := exampleFlute()
		f.Length = length
		wantFluteErrors(t, f, within && length > 300)
	}
	for i, x := range []struct {
		least, most int
		set         func(f *api.Flute, s api.Span)
	}{
		{0, 60, func(f *api.Flute, s api.Span) { f.End = s }}, {0, 60, func(f *api.Flute, s api.Span) { f.Cross = s }}, {100000, 500000, func(f *api.Flute, s api.Span) { f.Speed = s }},
		{0, 60, func(f *api.Flute, s api.Span) { f.Holes[0].Fix = s }}, {0, 60, func(f *api.Flute, s api.Span) { f.Holes[1].Fix = s }},
	} {
		wantSpans(x.least, x.most, func(s api.Span, valid bool) {
			f := exampleFlute()
			x.set(&f, s)
			wantFluteErrors(t, f, valid)
			if i > 2 {
				return
			}
			// Cross counts also where there are no holes.
			g := bare(50)
			x.set(&g, s)
			wantFluteErrors(t, g, valid)
		})
		if t.Failed() {
			t.Fatal(i)
		}
	}
}

// TestHoleBounds has holes at the ends of a flute and beyond, at each other, and more than there may be (P9.1, R5).
func TestHoleBounds(t *testing.T) {
	for _, first := range append(around(50, 399), odd()...) {
		f := bare(400)
		f.Holes = []api.Hole{hole(first, 0, 60)}
		wantFluteErrors(t, f, first >= 50 && first <= 399)
		for _, second := range append(around(50, 399), odd()...) {
			f.Holes = []api.Hole{hole(first, 0, 60), hole(second, 0, 60)}
			wantFluteErrors(t, f, first >= 50 && second <= 399 && first < second)
			f.Holes = []api.Hole{hole(60, 0, 60), hole(first, 0, 60), hole(second, 0, 60), hole(390, 0, 60)}
			wantFluteErrors(t, f, first > 60 && second < 390 && first < second)
		}
	}
	for number := range 40 {
		f := bare(400)
		for i := range number {
			f.Holes = append(f.Holes, hole(50+i, 0, 0))
		}
		wantFluteErrors(t, f, number <= 8)
		wantFluteErrors(t, api.Flute{Length: 50 + number, Speed: one(100000), Holes: f.Holes}, number <= 8)
		if number > 0 {
			wantFluteErrors(t, api.Flute{Length: 49 + number, Speed: one(100000), Holes: f.Holes}, false)
		}
	}
	f := bare(400)
	f.Holes = make([]api.Hole, 1<<16)
	wantFluteErrors(t, f, false)
}

// TestNoteBounds sets a note to all ends at and around its range, also where there are several (P9.2, P9.4, R5).
func TestNoteBounds(t *testing.T) {
	wantSpans(1, 10000000, func(s api.Span, valid bool) {
		want := api.ErrNotes
		if valid {
			want = api.OK
		}
		known, e := flute.Plays(exampleFlute(), 3, s)
		l, g := flute.Fingers(exampleFlute(), s)
		if e != want || g != want || !valid && (known != 0 || len(l) > 0) {
			t.Error(s, known, e, l, g)
		}
		for i := range 3 {
			notes := slices.Repeat([]api.Span{span(1, 10000000)}, 3)
			notes[i] = s
			l, e := flute.Drill(exampleBlank(), notes)
			if !valid && (e != api.ErrNotes || len(l) > 0) || valid && e != api.OK && e != api.ErrNone {
				t.Error(notes, l, e)
			}
		}
	})
	for number := range 40 {
		_, e := flute.Drill(exampleBlank(), slices.Repeat([]api.Span{span(1, 10000000)}, number))
		_, g := flute.Drill(exampleBlank(), slices.Repeat([]api.Span{one(1)}, number))
		if number < 1 || number > 9 {
			if e != api.ErrNotes || g != api.ErrNotes {
				t.Error(number, e, g)
			}
		} else if e != api.OK || g != api.ErrNone {
			t.Error(number, e, g)
		}
	}
}

// TestBlankBounds sets each number of a blank to the ends of its range, and beyond (P9.3, R5).
func TestBlankBounds(t *testing.T) {
	wantBlankErrors(t, api.Blank{}, false)
	wantBlankErrors(t, exampleBlank(), true)
	wantBlankErrors(t, even(), true)
	for i, x := range []struct {
		least, most int
		set         func(b *api.Blank, n int)
	}{
		{50, 20000, func(b *api.Blank, n int) { b.Length, b.Nodes = n, nil }}, {330, 20000, func(b *api.Blank, n int) { b.Length = n }},
		{1, 20000, func(b *api.Blank, n int) { b.Gap = n }}, {0, 20000, func(b *api.Blank, n int) { b.Near = n }}, {0, 20000, func(b *api.Blank, n int) { b.Near, b.Nodes = n, nil }},
		{0, 500, func(b *api.Blank, n int) { b.Nodes[0] = n }},
	} {
		for _, n := range append(around(x.least, x.most), odd()...) {
			b := exampleBlank()
			x.set(&b, n)
			wantBlankErrors(t, b, x.least <= n && n <= x.most)
		}
		if t.Failed() {
			t.Fatal(i)
		}
	}
	for _, set := range []func(b *api.Blank, s api.Span){func(b *api.Blank, s api.Span) { b.End = s }, func(b *api.Blank, s api.Span) { b.Fix = s }} {
		wantSpans(0, 60, func(s api.Span, valid bool) {
			b := exampleBlank()
			set(&b, s)
			wantBlankErrors(t, b, valid)
		})
	}
	wantSpans(100000, 500000, func(s api.Span, valid bool) {
		b := exampleBlank()
		b.Speed = s
		wantBlankErrors(t, b, valid)
	})
}

// TestNodeBounds has nodes at the ends of a blank and beyond, at each other, and more than there may be (P9.3, R5).
func TestNodeBounds(t *testing.T) {
	for _, first := range append(around(0, 500), odd()...) {
		for _, second := range append(around(0, 500), odd()...) {
			b := exampleBlank()
			b.Nodes = []int{first, second}
			wantBlankErrors(t, b, first >= 0 && second <= 500 && first < second)
			b.Nodes = []int{0, first, second, 500}
			wantBlankErrors(t, b, first > 0 && second < 500 && first < second)
		}
	}
	for number := range 40 {
		b := exampleBlank()
		b.Nodes = numbers(0, number)
		wantBlankErrors(t, b, number <= 10)
		b.Nodes = numbers(501-number, 501)
		wantBlankErrors(t, b, number <= 10)
	}
	b := exampleBlank()
	b.Nodes = make([]int, 1<<16)
	wantBlankErrors(t, b, false)
}

// TestPlaceBounds has places of all sizes (P9.3, R5).
func TestPlaceBounds(t *testing.T) {
	b := even(func(b *api.Blank) { b.Gap, b.Near, b.Nodes = 100, 9, []int{200} })
	for _, first := range append(around(50, 500), odd()...) {
		if first >= 50 && first <= 500 {
			wantMake(t, b, []int{first}, modelMake(b, []int{first}))
		} else {
			wantBad(t, b, first)
		}
		for _, second := range append(around(50, 500), odd()...) {
			valid := first <= 500 && second >= 50 && first > second && first-second >= 100 && (second <= 191 || second >= 209)
			if valid {
				wantMake(t, b, []int{first, second}, modelMake(b, []int{first, second}))
			} else {
				wantBad(t, b, first, second)
			}
			wantBad(t, b, 500, first, second, 50, 50)
		}
	}
	wantBad(t, b, make([]int, 1<<16)...)
	// With the greatest Gap, or the greatest Near, there is no second place.
	for _, x := range [][2]int{{20000, 20000}, {1, 20000}, {20000, 0}} {
		c := even(func(b *api.Blank) { b.Length, b.Gap, b.Near, b.Nodes = 20000, x[0], x[1], []int{0, 20000} })
		for _, n := range odd() {
			wantBad(t, c, 20000, n)
			wantBad(t, c, n, math.MinInt)
			wantBad(t, c, math.MinInt, n)
		}
	}
}
