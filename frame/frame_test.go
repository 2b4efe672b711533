package frame_test

import (
	"math"
	"slices"
	"testing"

	"canebrake/api"
	"canebrake/frame"
)

func span(lo, hi int) api.Span { return api.Span{Lo: lo, Hi: hi} }

// just is a span of one number.
func just(n int) api.Span { return span(n, n) }

// alike is a span for each section, the same one.
func alike(lo, hi int) [3]api.Span { return [3]api.Span{span(lo, hi), span(lo, hi), span(lo, hi)} }

func prop(pole, section, from, to, share int, joint uint8) api.Prop {
	return api.Prop{Pole: pole, Section: section, From: from, To: to, Share: share, Joint: joint}
}

// bolt is a prop by a bolt, with the share 1.
func bolt(pole, section, from, to int) api.Prop {
	return prop(pole, section, from, to, 1, api.JointBolt)
}

// pole has an area of 2,700 in all sections.
func pole(id int) api.Pole {
	return api.Pole{Id: id, Cut: 105, Shot: 103, Girths: [3]int{100, 100, 100}, Walls: [3]int{10, 10, 10}}
}

func poles(ids ...int) api.Sheet {
	var s api.Sheet
	for _, id := range ids {
		s.Poles = append(s.Poles, pole(id))
	}
	return s
}

// graded is a grading with one grade.
func graded(lo, hi, vary int) api.Grading {
	return api.Grading{Grades: []api.Grade{{Age: 2, Wall: 4, Stress: alike(lo, hi)}}, Vary: vary}
}

// example is the frame of the chapter's examples.
func example() api.Frame {
	return api.Frame{
		Sheet:   poles(1, 2, 3),
		Grading: graded(20000, 60000, 40000),
		Knots:   []api.Span{span(40000, 50000)},
		Props:   []api.Prop{bolt(1, 0, 0, -1), bolt(2, 0, 0, -1), bolt(3, 0, 0, -1)},
		Holds:   [3]api.Span{span(1000, 2000), span(5000, 9000), span(60000, 70000)},
	}
}

// rig is a frame of the poles 1 to 6, each section of which holds 5,400 to 8,100, with joints that hold 1,000 to 2,000, 3,000 to 4,000, and all that there is.
func rig(knots []api.Span, props ...api.Prop) api.Frame {
	return api.Frame{
		Sheet:   poles(1, 2, 3, 4, 5, 6),
		Grading: graded(2000, 3000, 1000),
		Knots:   knots,
		Props:   props,
		Holds:   [3]api.Span{span(1000, 2000), span(3000, 4000), just(1000000)},
	}
}

// with is a frame that was changed. Its props and its knots may be written to.
func with(f api.Frame, changes ...func(f *api.Frame)) api.Frame {
	f.Knots, f.Props, f.Sheet.Poles = slices.Clone(f.Knots), slices.Clone(f.Props), slices.Clone(f.Sheet.Poles)
	for _, change := range changes {
		change(&f)
	}
	return f
}

func wantLoads(t *testing.T, f api.Frame, out []int, falls int, want ...api.Span) {
	t.Helper()
	if l, n, e := frame.Loads(f, out); !slices.Equal(l, want) || n != falls || e != api.OK {
		t.Error(f, out, "is", l, n, e, "not", want, falls)
	}
}

func wantStands(t *testing.T, f api.Frame, want uint8, out ...int) {
	t.Helper()
	if n, e := frame.Stands(f, out); n != want || e != api.OK {
		t.Error(f, out, "is", n, e, "not", want)
	}
}

func wantAccept(t *testing.T, f api.Frame, known uint8, pole int) {
	t.Helper()
	if n, p, e := frame.Accept(f); n != known || p != pole || e != api.OK {
		t.Error(f, "is", n, p, e, "not", known, pole)
	}
}

func wantTurns(t *testing.T, f api.Frame, want ...int) {
	t.Helper()
	if l, e := frame.Turns(f); !slices.Equal(l, want) || e != api.OK {
		t.Error(f, "is", l, e, "not", want)
	}
}

func wantMost(t *testing.T, f api.Frame, knot, want int, err api.Errno) {
	t.Helper()
	if n, e := frame.Most(f, knot); n != want || e != err {
		t.Error(f, knot, "is", n, e, "not", want, err)
	}
}

// TestExamples has the examples of the chapter.
func TestExamples(t *testing.T) {
	f := example()
	third, half := span(13334, 16667), span(20000, 25000)
	wantLoads(t, f, nil, -1, third, third, third)
	wantLoads(t, f, []int{1}, -1, just(0), half, half)
	wantStands(t, f, api.KnownYes, 1, 2)
	wantStands(t, f, api.KnownNo, 1, 2, 3)
	wantAccept(t, f, api.KnownYes, -1)
	wantTurns(t, f, 1, 2, 3)
	wantMost(t, f, 0, 58000, api.OK)
	wantStands(t, with(f, func(f *api.Frame) { f.Knots[0].Hi = 55000 }), api.KnownOpen, 1, 2)
}

// TestLoads has frames of one knot and of some (P6.1).
func TestLoads(t *testing.T) {
	one := func(lo, hi int, props ...api.Prop) api.Frame { return rig([]api.Span{span(lo, hi)}, props...) }
	shared := []api.Prop{prop(1, 0, 0, -1, 1, 1), prop(2, 1, 0, -1, 2, 2), prop(3, 2, 0, -1, 3, 3)}
	for i, x := range []struct {
		f     api.Frame
		out   []int
		falls int
		want  []api.Span
	}{
		{one(0, 0, shared...), nil, -1, []api.Span{just(0), just(0), just(0)}},
		{one(6, 12, shared...), nil, -1, []api.Span{span(1, 2), span(2, 4), span(3, 6)}},
		// Each load is rounded up: 1 and two thirds, 3 and one third, 5; 1 and five sixths, 3 and two thirds, 5 and a half.
		{one(10, 11, shared...), nil, -1, []api.Span{just(2), just(4), span(5, 6)}},
		{one(1, 7, shared...), nil, -1, []api.Span{span(1, 2), span(1, 3), span(1, 4)}},
		// The shares of those that are gone do not count.
		{one(10, 11, shared...), []int{1}, -1, []api.Span{just(0), span(4, 5), span(6, 7)}},
		{one(10, 11, shared...), []int{3}, -1, []api.Span{just(4), span(7, 8), just(0)}},
		{one(10, 11, shared...), []int{1, 3}, -1, []api.Span{just(0), span(10, 11), just(0)}},
		{one(10, 11, shared...), []int{1, 2, 3}, 0, make([]api.Span, 3)},
		{one(0, 0, shared...), []int{1, 2, 3}, -1, make([]api.Span, 3)},
		// Poles that have no props.
		{one(10, 11, shared...), []int{4, 6}, -1, []api.Span{just(2), just(4), span(5, 6)}},
		{one(10, 11, shared...), []int{3, 5}, -1, []api.Span{just(4), span(7, 8), just(0)}},
		// No props.
		{one(0, 0), nil, -1, nil}, {one(0, 1), nil, 0, nil}, {one(1, 1), nil, 0, nil}, {one(0, 1), []int{1, 2, 3, 4, 5, 6}, 0, nil},
		// The greatest share, the least one, and all that may be put on.
		{one(999999, 1000000, prop(1, 0, 0, -1, 9, 1), prop(2, 0, 0, -1, 1, 1)), nil, -1, []api.Span{just(900000), just(100000)}},
		{one(1000000, 1000000, prop(1, 0, 0, -1, 9, 1)), nil, -1, []api.Span{just(1000000)}},
		// All sections of a pole go with it.
		{one(12, 14, bolt(1, 0, 0, -1), bolt(2, 0, 0, -1), bolt(1, 1, 0, -1), bolt(1, 2, 0, -1)), nil, -1, []api.Span{span(3, 4), span(3, 4), span(3, 4), span(3, 4)}},
		{one(12, 14, bolt(1, 0, 0, -1), bolt(2, 0, 0, -1), bolt(1, 1, 0, -1), bolt(1, 2, 0, -1)), []int{1}, -1, []api.Span{just(0), span(12, 14), just(0), just(0)}},
		{one(12, 14, bolt(1, 0, 0, -1), bolt(2, 0, 0, -1), bolt(1, 1, 0, -1), bolt(1, 2, 0, -1)), []int{2}, -1, []api.Span{span(4, 5), just(0), span(4, 5), span(4, 5)}},
	} {
		if l, n, e := frame.Loads(x.f, x.out); !slices.Equal(l, x.want) || n != x.falls || e != api.OK {
			t.Error(i, l, n, e)
		}
	}
}

// TestLoadsGoOn has props to later knots (P6.1).
func TestLoadsGoOn(t *testing.T) {
	knots := []api.Span{span(10, 20), span(0, 5), span(3, 3)}
	// Half of the first knot goes to the second one, a half to the ground; that goes to the third one, all of which goes to the ground.
	f := rig(knots, bolt(1, 0, 0, 1), bolt(2, 0, 0, -1), bolt(1, 1, 1, 2), bolt(3, 0, 2, -1))
	wantLoads(t, f, nil, -1, span(5, 10), span(5, 10), span(5, 15), span(8, 18))
	wantLoads(t, f, []int{2}, -1, span(10, 20), just(0), span(10, 25), span(13, 28))
	// Without 1 the second knot falls if something is on it: nothing of it comes to the third one.
	wantLoads(t, f, []int{1}, 1, just(0), span(10, 20), just(0), just(3))
	wantLoads(t, f, []int{3}, 2, span(5, 10), span(5, 10), span(5, 15), just(0))
	wantLoads(t, f, []int{1, 2}, 0, just(0), just(0), just(0), just(3))
	wantLoads(t, f, []int{1, 2, 3}, 0, make([]api.Span, 4)...)
	// Props may go past knots, and several may come to one.
	f = rig(knots, bolt(1, 0, 0, 2), bolt(2, 0, 0, 2), bolt(3, 0, 1, 2), bolt(4, 0, 2, -1))
	wantLoads(t, f, nil, -1, span(5, 10), span(5, 10), span(0, 5), span(13, 28))
	// What is rounded up goes on: 3 and 4 of 7, and of 4 two halves and two more.
	f = rig([]api.Span{just(7), just(0), just(0)}, bolt(1, 0, 0, 1), bolt(2, 0, 0, 2), bolt(3, 0, 1, 2), bolt(4, 0, 1, -1), prop(5, 0, 2, -1, 2, 1), prop(6, 0, 2, -1, 3, 1))
	wantLoads(t, f, nil, -1, just(4), just(4), just(2), just(2), just(3), just(4))
	// A prop may be listed before those whose loads it gets.
	f = rig(knots, bolt(3, 0, 2, -1), bolt(1, 1, 1, 2), bolt(1, 0, 0, 1))
	wantLoads(t, f, nil, -1, span(13, 28), span(10, 25), span(10, 20))
}

// TestFalls looks for the first knot that falls (P6.1).
func TestFalls(t *testing.T) {
	knots := []api.Span{just(0), just(0), span(0, 1), just(5)}
	// Nothing is put on the first two, so they do not fall.
	wantLoads(t, rig(knots), nil, 2)
	wantLoads(t, rig(knots, bolt(1, 0, 2, -1)), nil, 3, span(0, 1))
	wantLoads(t, rig(knots, bolt(1, 0, 2, -1), bolt(2, 0, 3, -1)), nil, -1, span(0, 1), just(5))
	wantLoads(t, rig(knots, bolt(1, 0, 2, -1), bolt(2, 0, 3, -1)), []int{1}, 2, just(0), just(5))
	wantLoads(t, rig(knots, bolt(1, 0, 2, -1), bolt(2, 0, 3, -1)), []int{2}, 3, span(0, 1), just(0))
	// A knot that nothing is put on falls by what comes to it.
	wantLoads(t, rig([]api.Span{span(0, 3), just(0), just(0)}, bolt(1, 0, 0, 2)), nil, 2, span(0, 3))
	wantLoads(t, rig([]api.Span{just(0), just(0), just(0)}, bolt(1, 0, 0, 2)), nil, -1, just(0))
	// The last one of ten.
	ten := make([]api.Span, 10)
	ten[9] = just(1)
	wantLoads(t, rig(ten), nil, 9)
	ten[9] = just(0)
	wantLoads(t, rig(ten), nil, -1)
}

// tower is the greatest frame: ten knots, the last one of which bears all, and twenty props of twelve poles.
func tower(lo, hi int) api.Frame {
	f := rig(slices.Repeat([]api.Span{span(lo, hi)}, 10))
	f.Sheet = poles(1, 2, 3, 4, 5, 6, 7, 8, 9, 10, 11, 12)
	for i := range 20 {
		to := i/2 + 1
		if to == 10 {
			to = api.Ground
		}
		f.Props = append(f.Props, bolt(i%10+1, i/10, i/2, to))
	}
	return f
}

// TestGreatestFrame has the greatest number of knots and of props (P6.1 to P6.5).
func TestGreatestFrame(t *testing.T) {
	f := tower(1, 1000000)
	var want []api.Span
	bears := 0
	for range 10 {
		// Of 1, 3, 5 and so on both halves are rounded up.
		bears++
		half := span((bears+1)/2, len(want)/2*500000+500000)
		want = append(want, half, half)
		bears = 2 * half.Lo
	}
	wantLoads(t, f, nil, -1, want...)
	wantStands(t, f, api.KnownOpen)
	wantStands(t, f, api.KnownNo, 1, 2, 3, 4, 5, 6, 7, 8, 9, 10, 11, 12)
	wantStands(t, f, api.KnownOpen, 11, 12)
	// With one of a knot's props gone the other one bears all: ten times 540 is what one section holds for sure.
	f = tower(0, 540)
	wantAccept(t, f, api.KnownYes, -1)
	wantTurns(t, f, 1, 2, 3, 4, 5, 6, 7, 8, 9, 10)
	wantMost(t, f, 0, 0, api.OK)
	f = tower(0, 538)
	wantMost(t, f, 0, 20, api.OK)
	wantMost(t, f, 9, 20, api.OK)
	// The last knot's props are the tops of 9 and 10.
	f = tower(0, 541)
	wantAccept(t, f, api.KnownOpen, 9)
	wantTurns(t, f, 1, 2, 3, 4, 5, 6, 7, 8)
	// All that may be put on ten knots is far above what any pole may hold.
	f = tower(1000000, 1000000)
	f.Grading = graded(200000, 200000, 0)
	wantStands(t, f, api.KnownNo)
}

// TestLoadsAskNoStrength has poles of no grade, and tests that contradict each other (P6.1).
func TestLoadsAskNoStrength(t *testing.T) {
	f := rig([]api.Span{span(10, 20)}, bolt(1, 0, 0, -1), bolt(2, 0, 0, -1))
	f.Sheet.Poles[0].Shot = 105
	wantLoads(t, f, nil, -1, span(5, 10), span(5, 10))
	f.Sheet.Tests = []api.Test{{Pole: 2, Force: 9000, Held: true}}
	wantLoads(t, f, nil, -1, span(5, 10), span(5, 10))
	wantLoads(t, f, []int{1, 2}, 0, just(0), just(0))
}

// wrongOuts are no poles that are taken out, if a sheet has the poles 1 to 3, or 1 to 6, but not 7.
func wrongOuts() [][]int {
	return [][]int{
		{0}, {7}, {-1}, {9999}, {10000}, {math.MinInt}, {math.MaxInt}, {1<<32 + 1},
		{1, 1}, {2, 1}, {1, 3, 2}, {1, 2, 2}, {1, 2, 3, 3}, {0, 1}, {1, 7}, {3, 1},
		make([]int, 1<<16), slices.Repeat([]int{1}, 1<<16),
	}
}

// TestOut takes poles out that may be, and some that may not (P6.1, P6.2).
func TestOut(t *testing.T) {
	for _, f := range []api.Frame{example(), rig([]api.Span{just(1)}, bolt(1, 0, 0, -1))} {
		for _, out := range wrongOuts() {
			l, n, e := frame.Loads(f, out)
			k, g := frame.Stands(f, out)
			if len(l) > 0 || n != 0 || e != api.ErrArg || k != 0 || g != api.ErrArg {
				t.Error(out, l, n, e, k, g)
			}
		}
		for _, out := range [][]int{nil, {}, {1}, {2}, {3}, {1, 2}, {1, 3}, {2, 3}, {1, 2, 3}} {
			_, _, e := frame.Loads(f, out)
			_, g := frame.Stands(f, out)
			if e != api.OK || g != api.OK {
				t.Error(out, e, g)
			}
		}
	}
	// A sheet without poles.
	f := with(rig([]api.Span{just(0)}), func(f *api.Frame) { f.Sheet = api.Sheet{} })
	wantLoads(t, f, nil, -1)
	wantStands(t, f, api.KnownYes)
	if _, _, e := frame.Loads(f, []int{1}); e != api.ErrArg {
		t.Error(e)
	}
}

// TestStands has loads that are just what a section or a joint holds, and one newton more (P6.2).
func TestStands(t *testing.T) {
	one := func(lo, hi int, joint uint8) api.Frame {
		return rig([]api.Span{span(lo, hi)}, prop(1, 0, 0, -1, 1, joint))
	}
	for i, x := range []struct {
		f    api.Frame
		want uint8
	}{
		// The section holds 5,400 to 8,100.
		{one(5400, 5400, 3), 2}, {one(0, 5400, 3), 2}, {one(5400, 5401, 3), 1}, {one(0, 5401, 3), 1}, {one(5401, 5401, 3), 1},
		{one(8100, 8100, 3), 1}, {one(8100, 8101, 3), 1}, {one(8101, 8101, 3), 0}, {one(8101, 9000, 3), 0}, {one(0, 1000000, 3), 1}, {one(1000000, 1000000, 3), 0},
		// A lashing holds 1,000 to 2,000.
		{one(1000, 1000, 1), 2}, {one(1000, 1001, 1), 1}, {one(1001, 1001, 1), 1}, {one(2000, 2000, 1), 1}, {one(2000, 2001, 1), 1}, {one(2001, 2001, 1), 0},
		// Mortar holds 3,000 to 4,000.
		{one(3000, 3000, 2), 2}, {one(3000, 3001, 2), 1}, {one(4000, 4000, 2), 1}, {one(4001, 4001, 2), 0},
		// A bolt holds what is told here.
		{with(one(5, 6, 3), func(f *api.Frame) { f.Holds[2] = span(6, 7) }), 2},
		{with(one(5, 6, 3), func(f *api.Frame) { f.Holds[2] = span(5, 5) }), 1},
		{with(one(5, 6, 3), func(f *api.Frame) { f.Holds[2] = span(0, 4) }), 0},
		// What bears nothing holds with nothing.
		{with(one(0, 0, 3), func(f *api.Frame) { f.Holds[2] = just(0) }), 2},
		{with(one(0, 1, 3), func(f *api.Frame) { f.Holds[2] = just(0) }), 1},
		{with(one(0, 1, 3), func(f *api.Frame) { f.Grading = graded(1, 1, 0) }), 2},
		{with(one(1, 3, 3), func(f *api.Frame) { f.Grading = graded(1, 1, 0) }), 1},
		{with(one(3, 3, 3), func(f *api.Frame) { f.Grading = graded(1, 1, 0) }), 0},
		// A knot that falls in some truths, and one that does in all.
		{rig([]api.Span{span(0, 1)}), 1}, {rig([]api.Span{span(1, 1)}), 0}, {rig([]api.Span{span(0, 0)}), 2},
		{rig([]api.Span{span(0, 0), span(5, 6)}, bolt(1, 0, 1, -1)), 2},
		{rig([]api.Span{span(0, 2), span(5, 6)}, bolt(1, 0, 1, -1)), 1},
		{rig([]api.Span{span(1, 2), span(5, 6)}, bolt(1, 0, 1, -1)), 0},
		{rig([]api.Span{span(5, 6), span(0, 2)}, bolt(1, 0, 0, -1)), 1},
		{rig([]api.Span{span(5, 6), span(0, 0)}, bolt(1, 0, 0, 1)), 0},
		{rig([]api.Span{span(0, 6), span(0, 0)}, bolt(1, 0, 0, 1)), 1},
	} {
		if n, e := frame.Stands(x.f, nil); n != x.want || e != api.OK {
			t.Error(i, n, e)
		}
	}
}

// TestStandsBySome has props some of which hold, and some do not (P6.2).
func TestStandsBySome(t *testing.T) {
	two := func(first, second api.Span, joint uint8) api.Frame {
		return rig([]api.Span{first, second}, bolt(1, 0, 0, -1), prop(2, 0, 1, -1, 1, joint))
	}
	wantStands(t, two(just(5400), just(1000), 1), api.KnownYes)
	wantStands(t, two(just(5401), just(1000), 1), api.KnownOpen)
	wantStands(t, two(just(5400), just(1001), 1), api.KnownOpen)
	wantStands(t, two(just(5401), just(1001), 1), api.KnownOpen)
	wantStands(t, two(just(8101), just(0), 1), api.KnownNo)
	wantStands(t, two(just(0), just(2001), 1), api.KnownNo)
	// With a pole out its props do not count, whatever they would bear.
	wantStands(t, two(just(8101), just(0), 1), api.KnownNo, 1)
	wantStands(t, two(just(0), just(2001), 1), api.KnownNo, 1)
	wantStands(t, two(just(0), just(1000), 1), api.KnownYes, 1)
	wantStands(t, two(just(0), just(1001), 1), api.KnownOpen, 1)
	// Without the pole that hands all to a weak one the frame stands.
	weak := rig([]api.Span{just(2000), just(0)}, prop(1, 0, 0, 1, 9, 3), bolt(2, 0, 0, -1), prop(3, 0, 1, -1, 1, 1))
	wantStands(t, weak, api.KnownOpen)
	wantStands(t, weak, api.KnownYes, 1)
	wantStands(t, weak, api.KnownOpen, 2)
	wantStands(t, weak, api.KnownNo, 3)
	wantStands(t, weak, api.KnownYes, 1, 3)
	wantStands(t, weak, api.KnownYes, 1, 4)
	wantStands(t, weak, api.KnownNo, 1, 2)
}

// TestStandsBySection has a pole that is thinner at the top (P6.2).
func TestStandsBySection(t *testing.T) {
	f := rig(nil)
	f.Sheet.Poles[3].Girths = [3]int{100, 80, 60}
	f.Sheet.Poles[3].Walls = [3]int{10, 8, 5}
	// Areas of 2,700, 1,728 and 825, by 2,000 to 3,000.
	for section, x := range []api.Span{span(5400, 8100), span(3456, 5184), span(1650, 2475)} {
		f.Props = []api.Prop{bolt(4, section, 0, -1)}
		for n, want := range map[int]uint8{x.Lo - 1: 2, x.Lo: 2, x.Lo + 1: 1, x.Hi: 1, x.Hi + 1: 0} {
			f.Knots = []api.Span{just(n)}
			wantStands(t, f, want)
		}
	}
	// A grade may have a stress of its own in each section.
	f = rig(nil)
	f.Grading.Grades[0].Stress = [3]api.Span{span(1000, 2000), span(4000, 5000), span(7000, 8000)}
	for section, x := range []api.Span{span(2700, 5400), span(10800, 13500), span(18900, 21600)} {
		f.Props = []api.Prop{bolt(4, section, 0, -1)}
		for n, want := range map[int]uint8{x.Lo: 2, x.Lo + 1: 1, x.Hi: 1, x.Hi + 1: 0} {
			f.Knots = []api.Span{just(n)}
			wantStands(t, f, want)
		}
	}
	// No pole holds more than MaxForce, however thick it is.
	f = rig([]api.Span{just(1000000), just(0)}, bolt(1, 0, 0, 1), bolt(2, 0, 1, -1))
	f.Grading = graded(200000, 200000, 0)
	for i := range f.Sheet.Poles {
		f.Sheet.Poles[i].Girths, f.Sheet.Poles[i].Walls = [3]int{300, 300, 300}, [3]int{60, 60, 60}
	}
	wantStands(t, f, api.KnownYes)
	f.Knots[1] = span(0, 1)
	wantStands(t, f, api.KnownOpen)
	f.Knots[1] = just(1)
	wantStands(t, f, api.KnownNo)
}

// TestStandsByTests has tests from which strengths follow (P6.2).
func TestStandsByTests(t *testing.T) {
	// By their grade feet hold 5,400 to 8,100.
	f := rig([]api.Span{just(6000)}, bolt(1, 0, 0, -1))
	wantStands(t, f, api.KnownOpen)
	f.Sheet.Tests = []api.Test{{Id: 1, Pole: 1, Force: 6000, Held: true}}
	wantStands(t, f, api.KnownYes)
	f.Sheet.Tests[0].Held = false
	wantStands(t, f, api.KnownNo)
	// Of another section it tells nothing.
	f.Sheet.Tests[0].Section = 1
	wantStands(t, f, api.KnownOpen)
	// Of another pole it tells as much as Vary allows: 500 more than 2,223 is at most 2,723.
	f.Sheet.Tests = []api.Test{{Id: 1, Pole: 2, Force: 6000}}
	f.Grading.Vary = 500
	f.Knots[0] = just(2722 * 2700 / 1000)
	wantStands(t, f, api.KnownOpen)
	f.Knots[0] = just(2723 * 2700 / 1000)
	wantStands(t, f, api.KnownNo)
	f.Grading.Vary = 501
	wantStands(t, f, api.KnownOpen)
}

// TestStandsErrors has props of which no strength is told: the first one of them counts (P6.2).
func TestStandsErrors(t *testing.T) {
	f := rig([]api.Span{just(10)}, bolt(2, 0, 0, -1), bolt(1, 0, 0, -1), bolt(3, 0, 0, -1))
	all := func(f api.Frame, out ...int) api.Errno {
		n, e := frame.Stands(f, out)
		k, p, g := frame.Accept(f)
		l, h := frame.Turns(f)
		m, j := frame.Most(f, 0)
		if e == api.OK || g != e || h != e || j != e || n != 0 || k != 0 || p != 0 || len(l) > 0 || m != 0 {
			t.Error(n, e, k, p, g, l, h, m, j)
		}
		return e
	}
	young := func(f *api.Frame) { f.Sheet.Poles[0].Shot = 105 }
	contrary := func(f *api.Frame) { f.Sheet.Tests = []api.Test{{Pole: 6, Force: 9000, Held: true}} }
	last := func(f *api.Frame) { f.Props[0], f.Props[1] = f.Props[1], f.Props[0] }
	for i, x := range []struct {
		f    api.Frame
		want api.Errno
	}{
		{with(f, young), api.ErrBad}, {with(f, contrary), api.ErrTests},
		// The first prop is of a pole with a grade, so that it is asked for a truth; or the first one is of that without one.
		{with(f, young, contrary), api.ErrTests}, {with(f, young, contrary, last), api.ErrBad},
		// Only the pole without a grade has a prop.
		{with(f, young, contrary, func(f *api.Frame) { f.Props = f.Props[1:2] }), api.ErrBad},
		{with(f, young, func(f *api.Frame) { f.Props = f.Props[1:2] }), api.ErrBad},
	} {
		for _, out := range [][]int{nil, {1}, {2}, {1, 2, 3, 4, 5, 6}} {
			if e := all(x.f, out...); e != x.want {
				t.Error(i, out, e)
			}
		}
	}
	// A pole without a prop needs no grade.
	none := with(f, young, func(f *api.Frame) { f.Props = slices.Delete(f.Props, 1, 2) })
	wantStands(t, none, api.KnownYes)
	wantStands(t, none, api.KnownYes, 1)
	wantAccept(t, none, api.KnownYes, -1)
	wantTurns(t, none, 2, 3)
	// Without props no strength is asked for.
	for hi, want := range []uint8{api.KnownYes, api.KnownOpen} {
		bare := with(f, young, contrary, func(f *api.Frame) { f.Props, f.Knots = nil, []api.Span{span(0, hi)} })
		wantStands(t, bare, want, 1, 3)
		wantAccept(t, bare, want, -1)
		wantTurns(t, bare)
	}
	wantStands(t, with(f, young, contrary, func(f *api.Frame) { f.Props = nil }), api.KnownNo)
}

// TestAccept has frames that stand with some poles out, and with others do not (P6.3, P6.4).
func TestAccept(t *testing.T) {
	both := func(lo, hi int, joints ...uint8) api.Frame {
		f := rig([]api.Span{span(lo, hi)})
		for i, joint := range joints {
			f.Props = append(f.Props, prop(len(joints)-i, 0, 0, -1, 1, joint))
		}
		return f
	}
	for i, x := range []struct {
		f     api.Frame
		known uint8
		pole  int
		turns []int
	}{
		// With one out each of the others bears a half; the props are listed from the last pole to the first.
		{both(10800, 10800, 3, 3, 3), 2, -1, []int{1, 2, 3}},
		{both(0, 10801, 3, 3, 3), 1, 1, nil},
		{both(16200, 16200, 3, 3, 3), 1, 1, nil},
		{both(16201, 16201, 3, 3, 3), 0, 1, nil},
		// With none it is so already.
		{both(0, 16201, 3, 3, 3), 1, -1, nil},
		{both(16201, 24300, 3, 3, 3), 0, 1, nil},
		{both(24301, 24301, 3, 3, 3), 0, -1, nil},
		// One pole has to stand alone.
		{both(0, 0, 3), 2, -1, []int{1}},
		{both(0, 1, 3), 1, 1, nil},
		{both(1, 1, 3), 0, 1, nil},
		// Two poles, by a lashing and by mortar: 1 has the latter.
		{both(0, 1000, 1, 2), 2, -1, []int{1, 2}},
		{both(0, 1001, 1, 2), 1, 1, []int{2}},
		{both(2001, 2001, 1, 2), 0, 1, []int{2}},
		{both(2000, 2000, 1, 2), 1, 1, []int{2}},
		{both(2001, 2001, 2, 1), 0, 2, []int{1}},
		{both(0, 2001, 2, 1), 1, -1, []int{1}},
		{both(0, 1500, 2, 1), 1, 2, []int{1}},
	} {
		k, p, e := frame.Accept(x.f)
		l, g := frame.Turns(x.f)
		if k != x.known || p != x.pole || e != api.OK || !slices.Equal(l, x.turns) || g != api.OK {
			t.Error(i, k, p, e, l, g)
		}
	}
}

// TestAcceptLeast has poles with which different things are known (P6.3, P6.4).
func TestAcceptLeast(t *testing.T) {
	// Each of two knots with poles of its own: without 2 or 4 a lashing has to hold the most of it.
	pairs := func(first, second api.Span) api.Frame {
		return rig([]api.Span{first, second}, prop(1, 0, 0, -1, 1, 1), bolt(2, 0, 0, -1), prop(3, 0, 1, -1, 1, 1), bolt(4, 0, 1, -1))
	}
	wantAccept(t, pairs(just(1000), just(1000)), api.KnownYes, -1)
	wantTurns(t, pairs(just(1000), just(1000)), 1, 2, 3, 4)
	// The first one with the least counts, not the first one with which less is known.
	wantAccept(t, pairs(just(1001), just(1001)), api.KnownOpen, 2)
	wantAccept(t, pairs(just(1001), just(2001)), api.KnownNo, 4)
	wantAccept(t, pairs(just(2001), just(2001)), api.KnownNo, 2)
	wantAccept(t, pairs(just(2001), just(1001)), api.KnownNo, 2)
	wantAccept(t, pairs(just(1000), just(1001)), api.KnownOpen, 4)
	// While both lashings of the second knot stand, one of them bears 1,001.
	wantTurns(t, pairs(just(1001), just(2001)), 3)
	wantTurns(t, pairs(just(1000), just(1001)), 1, 2, 3)
	// With none it is open, and with one it is known that it does not stand.
	wantAccept(t, pairs(span(2000, 2001), just(2001)), api.KnownNo, 4)
	wantAccept(t, pairs(span(1001, 2001), just(1000)), api.KnownOpen, -1)
	wantAccept(t, pairs(just(4001), just(2001)), api.KnownNo, -1)
	// A frame may stand without a pole, and with it not; so a pole may be taken out of a frame that is not accepted.
	weak := rig([]api.Span{just(2000), just(0)}, prop(1, 0, 0, 1, 9, 3), bolt(2, 0, 0, -1), prop(3, 0, 1, -1, 1, 1))
	wantAccept(t, weak, api.KnownNo, 3)
	wantTurns(t, weak, 1)
	weak.Props[2] = prop(1, 1, 1, -1, 1, 1)
	wantAccept(t, weak, api.KnownOpen, -1)
	wantTurns(t, weak, 1)
	// A pole with several props is taken out once, with all of them.
	several := rig([]api.Span{just(5000), just(400)}, bolt(6, 2, 0, 1), bolt(6, 0, 1, -1), bolt(6, 1, 0, -1), bolt(2, 0, 0, -1), bolt(2, 1, 1, -1))
	wantAccept(t, several, api.KnownYes, -1)
	wantTurns(t, several, 2, 6)
	// No pole has props: none is taken out.
	wantAccept(t, rig([]api.Span{just(0)}), api.KnownYes, -1)
	wantAccept(t, rig([]api.Span{span(0, 1)}), api.KnownOpen, -1)
	wantAccept(t, rig([]api.Span{just(1)}), api.KnownNo, -1)
	wantTurns(t, rig([]api.Span{just(0)}))
}

// TestMost has greatest loads that are 0, at MaxForce, and between (P6.5).
func TestMost(t *testing.T) {
	pair := func(lo, hi int, joint uint8) api.Frame {
		return rig([]api.Span{span(lo, hi)}, bolt(1, 0, 0, -1), prop(2, 0, 0, -1, 1, joint))
	}
	wantMost(t, pair(0, 0, 3), 0, 5400, api.OK)
	wantMost(t, pair(0, 5399, 3), 0, 1, api.OK)
	wantMost(t, pair(5400, 5400, 3), 0, 0, api.OK)
	wantMost(t, pair(0, 5401, 3), 0, 0, api.ErrBad)
	wantMost(t, pair(8101, 8101, 3), 0, 0, api.ErrBad)
	// Without 1 a lashing bears all.
	wantMost(t, pair(300, 400, 1), 0, 600, api.OK)
	wantMost(t, pair(300, 400, 2), 0, 2600, api.OK)
	// One pole alone may not be taken out if anything is on the knot.
	wantMost(t, rig([]api.Span{just(0)}, bolt(1, 0, 0, -1)), 0, 0, api.OK)
	wantMost(t, rig([]api.Span{span(0, 1)}, bolt(1, 0, 0, -1)), 0, 0, api.ErrBad)
	wantMost(t, rig([]api.Span{just(0)}), 0, 0, api.OK)
	wantMost(t, rig([]api.Span{span(0, 1)}), 0, 0, api.ErrBad)
	wantMost(t, rig([]api.Span{just(1)}), 0, 0, api.ErrBad)
	// Each knot has its own: half of what is on the first one comes to the second one, where mortar bears all without 3.
	two := rig([]api.Span{span(100, 1000), span(0, 600)}, bolt(1, 0, 0, 1), bolt(2, 0, 0, -1), bolt(3, 0, 1, -1), prop(4, 0, 1, -1, 1, 2))
	wantMost(t, two, 0, 3800, api.OK)
	wantMost(t, two, 1, 1900, api.OK)
	wantMost(t, with(two, func(f *api.Frame) { f.Props[0].To = -1 }), 0, 4400, api.OK)
	wantMost(t, with(two, func(f *api.Frame) { f.Props[0].To = -1 }), 1, 2400, api.OK)
	for _, knot := range []int{-1, 2, 3, 10, math.MinInt, math.MaxInt, 1 << 32} {
		wantMost(t, two, knot, 0, api.ErrNone)
		wantMost(t, with(two, func(f *api.Frame) { f.Sheet.Poles[0].Shot = 105 }), knot, 0, api.ErrNone)
	}
	wantMost(t, with(two, func(f *api.Frame) { f.Knots[0].Hi = 6000 }), 2, 0, api.ErrNone)
}

// TestMostAtMaxForce has poles that hold all that may be put on a knot (P6.5).
func TestMostAtMaxForce(t *testing.T) {
	f := rig([]api.Span{span(0, 5)}, bolt(1, 0, 0, -1), bolt(2, 0, 0, -1))
	f.Grading = graded(200000, 200000, 0)
	for i := range 3 {
		f.Sheet.Poles[i].Girths, f.Sheet.Poles[i].Walls = [3]int{300, 300, 300}, [3]int{60, 60, 60}
	}
	wantMost(t, f, 0, 999995, api.OK)
	f.Knots[0].Hi = 999999
	wantMost(t, f, 0, 1, api.OK)
	f.Knots[0].Hi = 1000000
	wantMost(t, f, 0, 0, api.OK)
	f.Knots[0] = just(1000000)
	wantMost(t, f, 0, 0, api.OK)
	f.Holds[2].Lo = 999999
	wantMost(t, f, 0, 0, api.ErrBad)
	f.Knots[0] = just(0)
	wantMost(t, f, 0, 999999, api.OK)
	// Three poles hold more than that, also with one out.
	f.Props = append(f.Props, bolt(3, 0, 0, -1))
	wantMost(t, f, 0, 1000000, api.OK)
	f.Knots[0] = span(7, 400000)
	wantMost(t, f, 0, 600000, api.OK)
	f.Knots[0] = just(1000000)
	wantMost(t, f, 0, 0, api.OK)
}
