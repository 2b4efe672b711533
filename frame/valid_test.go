package frame_test

import (
	"math"
	"slices"
	"testing"

	"canebrake/api"
	"canebrake/frame"
)

// wantCheck asks all functions whether a frame is valid. All other arguments are wrong, so that their errors show that these come first.
func wantCheck(t *testing.T, f api.Frame, want api.Errno) {
	t.Helper()
	if e := frame.Check(f); e != want {
		t.Error(f, "is", e, "not", want)
	}
	others := [3]api.Errno{api.ErrArg, api.ErrArg, api.ErrNone}
	if want != api.OK {
		others = [3]api.Errno{want, want, want}
	}
	l, n, e := frame.Loads(f, []int{-1})
	k, g := frame.Stands(f, []int{-1})
	m, h := frame.Most(f, -1)
	if e != others[0] || g != others[1] || h != others[2] {
		t.Error(f, "is", e, g, h, "not", others)
	}
	a, p, i := frame.Accept(f)
	c, j := frame.Turns(f)
	if want != api.OK && (i != want || j != want || a != 0 || p != 0 || len(c) > 0) {
		t.Error(f, "is", a, p, i, c, j, "not", want)
	}
	if len(l) > 0 || n != 0 || k != 0 || m != 0 {
		t.Error("there is something beside an error", l, n, k, m)
	}
}

// bridge has three knots and five props, none of which stands at an end of what is valid.
func bridge() api.Frame {
	return rig([]api.Span{span(300, 400), span(0, 600), span(100, 200)},
		prop(1, 0, 0, 1, 2, api.JointLash), prop(2, 0, 0, 2, 3, api.JointMortar), prop(2, 1, 1, 2, 4, api.JointBolt),
		prop(3, 1, 1, -1, 5, api.JointLash), prop(4, 2, 2, -1, 6, api.JointMortar))
}

// bound is a change of a frame by a number, and the range in which it stays valid.
type bound struct {
	name        string
	least, most int
	set         func(f *api.Frame, n int)
}

func bounds() []bound {
	l := []bound{
		{"section", 0, 2, func(f *api.Frame, n int) { f.Props[0].Section = n }},
		{"from of a prop to the ground", 0, 2, func(f *api.Frame, n int) { f.Props[3].From = n }},
		{"from of a prop to the last knot", 0, 1, func(f *api.Frame, n int) { f.Props[1].From = n }},
		{"from of a prop to the second knot", 0, 0, func(f *api.Frame, n int) { f.Props[0].From = n }},
		{"share", 1, 9, func(f *api.Frame, n int) { f.Props[4].Share = n }},
		{"lo of a knot", 0, 200, func(f *api.Frame, n int) { f.Knots[2].Lo = n }},
		{"hi of a knot", 300, 1000000, func(f *api.Frame, n int) { f.Knots[0].Hi = n }},
		{"a knot", 0, 1000000, func(f *api.Frame, n int) { f.Knots[1] = just(n) }},
	}
	for i := range 3 {
		l = append(l, []bound{
			{"lo of what holds", 0, 50, func(f *api.Frame, n int) { f.Holds[i] = span(n, 50) }},
			{"hi of what holds", 50, 1000000, func(f *api.Frame, n int) { f.Holds[i] = span(50, n) }},
			{"what holds", 0, 1000000, func(f *api.Frame, n int) { f.Holds[i] = just(n) }},
		}...)
	}
	return l
}

// orError is no error if all is valid, otherwise that of frames.
func orError(valid bool) api.Errno {
	if valid {
		return api.OK
	}
	return api.ErrFrame
}

// TestCheckBounds sets each number to the ends of its range, and beyond (P6.1, R5).
func TestCheckBounds(t *testing.T) {
	for _, x := range bounds() {
		for _, n := range []int{x.least - 1, x.least, x.least + 1, x.most - 1, x.most, x.most + 1, math.MinInt, math.MinInt + 1, -1 << 32, 1 << 32, math.MaxInt/2 + 1, math.MaxInt - 1, math.MaxInt} {
			f := with(bridge(), func(f *api.Frame) { x.set(f, n) })
			want := orError(n >= x.least && n <= x.most)
			if e := frame.Check(f); e != want {
				t.Error(x.name, n, e)
			} else {
				wantCheck(t, f, want)
			}
		}
	}
}

// TestCheckTo has props to later knots, to earlier ones, and to none (P6.1).
func TestCheckTo(t *testing.T) {
	for from := range 10 {
		for _, to := range []int{math.MinInt, -3, -2, -1, 0, 1, 2, 3, 4, 5, 6, 7, 8, 9, 10, 11, 1<<32 - 1, math.MaxInt} {
			f := rig(make([]api.Span, 10), bolt(1, 0, from, to))
			wantCheck(t, f, orError(to == -1 || to > from && to < 10))
		}
	}
	for _, from := range []int{math.MinInt, -2, -1, 10, 11, math.MaxInt - 1, math.MaxInt} {
		for _, to := range []int{from + 1, -1, 0, 1, 9} {
			wantCheck(t, rig(make([]api.Span, 10), bolt(1, 0, from, to)), api.ErrFrame)
		}
	}
	// There is no later knot than the last one.
	wantCheck(t, rig(make([]api.Span, 1), bolt(1, 0, 0, -1)), api.OK)
	wantCheck(t, rig(make([]api.Span, 1), bolt(1, 0, 0, 1)), api.ErrFrame)
	wantCheck(t, rig(make([]api.Span, 1), bolt(1, 0, 0, 0)), api.ErrFrame)
}

// TestCheckJoints has all kinds that there are, and all others (P6.1, R6).
func TestCheckJoints(t *testing.T) {
	for kind := range 256 {
		f := with(bridge(), func(f *api.Frame) { f.Props[2].Joint = uint8(kind) })
		wantCheck(t, f, orError(kind >= 1 && kind <= 3))
	}
}

// TestCheckPoles has props of poles of the sheet, and of others (P6.1).
func TestCheckPoles(t *testing.T) {
	f := rig(make([]api.Span, 1), bolt(0, 0, 0, -1))
	f.Sheet = poles(0, 7, 500, 9999)
	for _, id := range []int{math.MinInt, -1, 0, 1, 2, 3, 4, 6, 7, 8, 499, 500, 501, 9998, 9999, 10000, 1 << 32, math.MaxInt} {
		f.Props[0].Pole = id
		wantCheck(t, f, orError(slices.Contains([]int{0, 7, 500, 9999}, id)))
	}
	f.Sheet, f.Props[0].Pole = api.Sheet{}, 0
	wantCheck(t, f, api.ErrFrame)
	f.Props = nil
	wantCheck(t, f, api.OK)
	// It may be of no grade.
	f = bridge()
	f.Sheet.Poles[0].Shot = f.Sheet.Poles[0].Cut
	wantCheck(t, f, api.OK)
}

// TestCheckParts has props with the same pole and section (P6.1).
func TestCheckParts(t *testing.T) {
	for _, x := range []struct {
		props []api.Prop
		valid bool
	}{
		{[]api.Prop{bolt(1, 0, 0, -1), bolt(1, 1, 0, -1), bolt(1, 2, 0, -1)}, true},
		{[]api.Prop{bolt(1, 0, 0, -1), bolt(2, 0, 0, -1), bolt(3, 0, 0, -1)}, true},
		{[]api.Prop{bolt(1, 0, 0, -1), bolt(1, 0, 0, -1)}, false},
		{[]api.Prop{bolt(1, 1, 0, 1), prop(1, 1, 1, -1, 2, 1)}, false},
		{[]api.Prop{bolt(1, 2, 0, 1), bolt(2, 2, 0, 1), bolt(3, 2, 0, 1), bolt(1, 2, 1, -1)}, false},
		{[]api.Prop{bolt(1, 2, 0, 1), bolt(2, 1, 0, 1), bolt(3, 0, 0, 1), bolt(2, 1, 1, -1), bolt(1, 0, 0, 1)}, false},
		{[]api.Prop{bolt(1, 2, 0, 1), bolt(2, 1, 0, 1), bolt(3, 0, 0, 1), bolt(1, 1, 1, -1), bolt(1, 0, 0, 1)}, true},
	} {
		wantCheck(t, rig(make([]api.Span, 2), x.props...), orError(x.valid))
	}
}

// TestCheckLists has lists of all lengths (P6.1).
func TestCheckLists(t *testing.T) {
	for number := range 13 {
		knots := make([]api.Span, number)
		wantCheck(t, rig(knots), orError(number >= 1 && number <= 10))
		// Each knot counts, the last one too.
		if number > 0 {
			knots[number-1] = span(1, 0)
			wantCheck(t, rig(knots), api.ErrFrame)
		}
	}
	for number := range 24 {
		var props []api.Prop
		for i := range number {
			props = append(props, bolt(i%8+1, i/8, 0, -1))
		}
		f := rig(make([]api.Span, 1), props...)
		f.Sheet = poles(1, 2, 3, 4, 5, 6, 7, 8)
		wantCheck(t, f, orError(number <= 20))
		if number > 0 {
			props[number-1].Share = 0
			wantCheck(t, f, api.ErrFrame)
		}
	}
	wantCheck(t, rig(make([]api.Span, 1<<16)), api.ErrFrame)
	wantCheck(t, rig(make([]api.Span, 1), make([]api.Prop, 1<<16)...), api.ErrFrame)
}

// TestCheckInOrder has gradings, sheets and frames that are wrong at once (P6.1, R1).
func TestCheckInOrder(t *testing.T) {
	grading := func(f *api.Frame) { f.Grading.Vary = -1 }
	sheet := func(f *api.Frame) { f.Sheet.Poles[5].Soak = 6 }
	test := func(f *api.Frame) { f.Sheet.Tests = []api.Test{{Pole: 1}} }
	knots := func(f *api.Frame) { f.Knots = nil }
	props := func(f *api.Frame) { f.Props[4].Joint = 4 }
	holds := func(f *api.Frame) { f.Holds[2] = span(2, 1) }
	for _, x := range []struct {
		changes []func(f *api.Frame)
		want    api.Errno
	}{
		{nil, api.OK},
		{[]func(f *api.Frame){grading}, api.ErrGrading}, {[]func(f *api.Frame){sheet}, api.ErrSheet}, {[]func(f *api.Frame){test}, api.ErrSheet},
		{[]func(f *api.Frame){knots}, api.ErrFrame}, {[]func(f *api.Frame){props}, api.ErrFrame}, {[]func(f *api.Frame){holds}, api.ErrFrame},
		{[]func(f *api.Frame){grading, sheet, knots, props, holds}, api.ErrGrading},
		{[]func(f *api.Frame){grading, props}, api.ErrGrading}, {[]func(f *api.Frame){sheet, props}, api.ErrSheet},
		{[]func(f *api.Frame){test, knots}, api.ErrSheet}, {[]func(f *api.Frame){sheet, holds}, api.ErrSheet},
		// A prop whose pole is not on the sheet, as this one has none.
		{[]func(f *api.Frame){func(f *api.Frame) { f.Sheet = api.Sheet{} }}, api.ErrFrame},
	} {
		wantCheck(t, with(bridge(), x.changes...), x.want)
	}
}
