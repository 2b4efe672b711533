package flute_test

import (
	"reflect"
	"slices"
	"testing"

	"canebrake/api"
	"canebrake/flute"
)

func span(lo, hi int) api.Span { return api.Span{Lo: lo, Hi: hi} }

func one(n int) api.Span { return span(n, n) }

func hole(at, lo, hi int) api.Hole { return api.Hole{At: at, Fix: span(lo, hi)} }

// exampleFlute and exampleBlank are those of the chapter's examples.
func exampleFlute() api.Flute {
	return api.Flute{Length: 400, End: span(10, 20), Cross: span(5, 10), Speed: span(340000, 344000), Holes: []api.Hole{hole(200, 8, 12), hole(300, 10, 10)}}
}

func exampleBlank() api.Blank {
	return api.Blank{Length: 500, End: one(10), Fix: one(10), Speed: one(340000), Gap: 40, Near: 5, Nodes: []int{330}}
}

// bare is a flute without holes, in which nothing is unknown.
func bare(length int) api.Flute { return api.Flute{Length: length, Speed: one(100000)} }

// eight is a flute with as many holes as there may be.
func eight() api.Flute {
	f := api.Flute{Length: 1000, End: span(0, 20), Cross: span(3, 7), Speed: span(330000, 350000)}
	for i := range 8 {
		f.Holes = append(f.Holes, hole(100*i+100, i, 10))
	}
	return f
}

// even is a blank whose flutes have the tone 100,000,000 divided by the place.
func even(change ...func(b *api.Blank)) api.Blank {
	b := api.Blank{Length: 500, Speed: one(200000), Gap: 50}
	for _, c := range change {
		c(&b)
	}
	return b
}

// between is a note for all places of an even blank from one to another one, and at for one place alone.
func between(near, far int) api.Span { return span(100000000/far, 100000000/near) }

func at(place int) api.Span { return between(place, place) }

// numbers are those from one on, before another one.
func numbers(from, to int) []int {
	var l []int
	for n := from; n < to; n++ {
		l = append(l, n)
	}
	return l
}

// down are some numbers, each less than the one before by as much.
func down(from, by, number int) []int {
	var l []int
	for i := range number {
		l = append(l, from-i*by)
	}
	return l
}

func wantTone(t *testing.T, f api.Flute, fingering uint8, want api.Span) {
	t.Helper()
	if s, e := flute.Tone(f, fingering); s != want || e != api.OK {
		t.Error(f, fingering, "is", s, e, "not", want)
	}
}

func wantPlays(t *testing.T, f api.Flute, fingering uint8, note api.Span, want uint8) {
	t.Helper()
	if known, e := flute.Plays(f, fingering, note); known != want || e != api.OK {
		t.Error(f, fingering, note, "is", known, e, "not", want)
	}
}

func wantFingers(t *testing.T, f api.Flute, note api.Span, want ...uint8) {
	t.Helper()
	if l, e := flute.Fingers(f, note); !slices.Equal(l, want) || e != api.OK {
		t.Error(f, note, "is", l, e, "not", want)
	}
}

func wantMake(t *testing.T, b api.Blank, places []int, want api.Flute) {
	t.Helper()
	f, e := flute.Make(b, places)
	if f.Length != want.Length || f.End != want.End || f.Cross != want.Cross || f.Speed != want.Speed || !slices.Equal(f.Holes, want.Holes) || e != api.OK {
		t.Error(b, places, "is", f, e, "not", want)
	}
}

func wantBad(t *testing.T, b api.Blank, places ...int) {
	t.Helper()
	if f, e := flute.Make(b, places); !reflect.DeepEqual(f, api.Flute{}) || e != api.ErrBad {
		t.Error(b, places, "is", f, e)
	}
}

// wantDrill looks for places, or for an error if there are none.
func wantDrill(t *testing.T, b api.Blank, notes []api.Span, want ...int) {
	t.Helper()
	e := api.OK
	if len(want) == 0 {
		e = api.ErrNone
	}
	if l, got := flute.Drill(b, notes); !slices.Equal(l, want) || got != e {
		t.Error(b, notes, "is", l, got, "not", want, e)
	}
}

// TestExamples has the examples of the chapter.
func TestExamples(t *testing.T) {
	f, b := exampleFlute(), exampleBlank()
	wantTone(t, f, 0, span(404761, 419512))
	wantTone(t, f, 2, span(548387, 554838))
	wantTone(t, f, 1, span(765765, 807511))
	wantTone(t, f, 3, span(801886, 826923))
	wantPlays(t, f, 0, span(400000, 420000), 2)
	wantPlays(t, f, 0, span(410000, 420000), 1)
	wantPlays(t, f, 0, span(420000, 430000), 0)
	wantFingers(t, f, span(760000, 830000), 1, 3)
	wantDrill(t, b, []api.Span{span(400000, 410000), span(500000, 520000), span(590000, 610000)}, 415, 325, 278)
	// The first place may be from 405 to 415, the second one from 317 on, the third one from 269 to 278.
	first, second, third := span(400000, 410000), span(500000, 520000), span(590000, 610000)
	for _, x := range []struct {
		length int
		note   api.Span
		want   []int
	}{
		{404, first, nil}, {405, first, []int{405}}, {415, first, []int{415}}, {416, first, []int{415}}, {316, second, nil}, {317, second, []int{317}}, {330, second, []int{330}}, {331, second, []int{330}}, {268, third, nil}, {269, third, []int{269}}, {279, third, []int{278}},
	} {
		b := exampleBlank()
		b.Length, b.Nodes = x.length, nil
		wantDrill(t, b, []api.Span{x.note}, x.want...)
	}
}

// TestTone has flutes without holes, with one and with as many as there may be, and spans of one number and from 0 (P9.1).
func TestTone(t *testing.T) {
	for _, x := range []struct {
		f         api.Flute
		fingering uint8
		want      api.Span
	}{
		// The least tone of all, and the greatest one.
		{bare(50), 0, one(1000000)}, {bare(51), 0, one(980392)}, {bare(20000), 0, one(2500)},
		{api.Flute{Length: 20000, End: one(60), Speed: one(100000)}, 0, one(2492)}, {api.Flute{Length: 50, Speed: one(500000)}, 0, one(5000000)},
		{api.Flute{Length: 50, End: span(0, 60), Speed: span(100000, 500000)}, 0, span(454545, 5000000)},
		// Without open holes neither Cross nor a Fix matters.
		{api.Flute{Length: 100, End: span(1, 2), Cross: span(3, 60), Speed: one(200000), Holes: []api.Hole{hole(50, 4, 60), hole(99, 5, 60)}}, 0, span(980392, 990099)},
		// One hole: at MinLength, and at Length less 1. Neither End nor Cross matters then.
		{api.Flute{Length: 100, End: one(60), Cross: one(60), Speed: one(100000), Holes: []api.Hole{hole(50, 0, 0)}}, 1, one(1000000)},
		{api.Flute{Length: 100, End: one(60), Cross: one(60), Speed: one(100000), Holes: []api.Hole{hole(50, 0, 0)}}, 0, one(312500)},
		{api.Flute{Length: 100, End: one(0), Speed: one(100000), Holes: []api.Hole{hole(99, 60, 60)}}, 1, one(314465)},
		{api.Flute{Length: 100, End: one(0), Speed: one(100000), Holes: []api.Hole{hole(99, 60, 60)}}, 0, one(500000)},
		{api.Flute{Length: 51, Speed: span(100000, 200000), Holes: []api.Hole{hole(50, 0, 60)}}, 1, span(454545, 2000000)},
		{api.Flute{Length: 20000, Speed: one(100000), Holes: []api.Hole{hole(19999, 0, 0)}}, 1, one(2500)},
		// All closed, all open, the first one alone, the last one alone.
		{eight(), 0, span(161764, 175000)}, {eight(), 255, span(1500000, 1750000)}, {eight(), 1, span(1037735, 1446280)}, {eight(), 128, span(203703, 216852)},
		// Holes are closed behind the first open one, up to the next open one or to the last.
		{eight(), 2, span(654761, 799086)}, {eight(), 64, span(230125, 246826)}, {eight(), 192, span(232394, 247875)}, {eight(), 16, span(310734, 341130)}, {eight(), 144, span(314885, 343137)},
		{eight(), 3, span(1500000, 1750000)}, {eight(), 5, span(1410256, 1699029)}, {eight(), 9, span(1330645, 1650943)}, {eight(), 17, span(1259541, 1605504)}, {eight(), 33, span(1195652, 1562500)}, {eight(), 65, span(1137931, 1521739)}, {eight(), 129, span(1085526, 1483050)},
		// What is behind the next open one does not matter.
		{eight(), 37, span(1410256, 1699029)}, {eight(), 7, span(1500000, 1750000)}, {eight(), 254, span(785714, 870646)}, {eight(), 240, span(323529, 347222)},
		// The longest air of a hole: each of seven closed ones makes it longer.
		{api.Flute{Length: 100, Cross: span(0, 60), Speed: one(500000), Holes: []api.Hole{hole(50, 0, 60), hole(51, 0, 0), hole(52, 0, 0), hole(53, 0, 0), hole(54, 0, 0), hole(55, 0, 0), hole(56, 0, 0), hole(57, 0, 0)}}, 1, span(471698, 5000000)},
	} {
		if e := flute.Check(x.f); e != api.OK {
			t.Error(x.f, e)
		}
		wantTone(t, x.f, x.fingering, x.want)
	}
}

// TestFingering asks for all fingerings: those with a bit that is no hole's are none of the flute (P9.1, P9.2).
func TestFingering(t *testing.T) {
	for holes := range 9 {
		f := eight()
		f.Holes = f.Holes[:holes]
		for fingering := range 256 {
			s, e := flute.Tone(f, uint8(fingering))
			known, g := flute.Plays(f, uint8(fingering), span(1, 10000000))
			_, h := flute.Plays(f, uint8(fingering), span(2, 1))
			valid := fingering < []int{1, 2, 4, 8, 16, 32, 64, 128, 256}[holes]
			if valid && (e != api.OK || g != api.OK || h != api.ErrNotes || s.Lo < 1 || known != api.KnownYes) {
				t.Error(holes, fingering, s, e, known, g, h)
			}
			if !valid && (e != api.ErrArg || g != api.ErrArg || h != api.ErrArg || s != span(0, 0) || known != 0) {
				t.Error(holes, fingering, s, e, known, g, h)
			}
		}
	}
}

// TestPlays has notes that are met by all that may be true, at one end only, within, and by nothing (P9.2).
func TestPlays(t *testing.T) {
	tones := span(1037735, 1446280)
	for _, x := range []struct {
		note api.Span
		want uint8
	}{
		{tones, 2}, {span(1, 10000000), 2}, {span(1037735, 10000000), 2}, {span(1, 1446280), 2}, {span(1037734, 1446281), 2},
		{span(1037736, 1446280), 1}, {span(1037735, 1446279), 1}, {span(1037736, 1446279), 1}, {span(1100000, 1200000), 1}, {span(1037736, 10000000), 1}, {span(1, 1446279), 1},
		// One end alone.
		{one(1037735), 1}, {one(1446280), 1}, {span(1, 1037735), 1}, {span(1446280, 10000000), 1},
		{one(1037734), 0}, {one(1446281), 0}, {span(1, 1037734), 0}, {span(1446281, 10000000), 0}, {one(1), 0}, {one(10000000), 0},
	} {
		wantPlays(t, eight(), 1, x.note, x.want)
	}
	// A tone that is known is met, or is not.
	for _, x := range []struct {
		note api.Span
		want uint8
	}{
		{one(1000000), 2}, {span(999999, 1000001), 2}, {span(1, 999999), 0}, {span(1000001, 10000000), 0}, {span(1000000, 1000001), 2}, {span(999999, 1000000), 2},
	} {
		wantPlays(t, bare(50), 0, x.note, x.want)
	}
}

// TestPlaysBetweenTones has notes that lie between tones next to each other, so that nothing that may be true meets them (P9.2).
func TestPlaysBetweenTones(t *testing.T) {
	ends := api.Flute{Length: 400, End: span(10, 12), Speed: one(340000)}           // 414634, 413625, 412621
	speeds := api.Flute{Length: 50, Speed: span(340000, 340002)}                    // 3400000, 3400010, 3400020
	both := api.Flute{Length: 100, End: span(0, 1), Speed: span(200000, 200001)}    // 1000000, 1000005, 990099, 990103
	held := api.Flute{Length: 20000, Speed: span(100000, 100080)}                   // 2500, 2501, 2502
	closed := api.Flute{Length: 300, Cross: span(1, 3), Speed: one(200000)}         // by two crosses 980392, 970873, 961538, 952380, 943396
	closed.Holes = []api.Hole{hole(100, 0, 0), hole(200, 9, 60), hole(299, 11, 60)} // of which the Fix does not matter
	for _, x := range []struct {
		f         api.Flute
		fingering uint8
		note      api.Span
		want      uint8
	}{
		{ends, 0, span(412622, 413624), 0}, {ends, 0, span(413626, 414633), 0}, {ends, 0, one(414000), 0}, {ends, 0, one(413625), 1}, {ends, 0, span(412621, 413624), 1}, {ends, 0, span(412622, 413625), 1}, {ends, 0, span(413625, 414633), 1}, {ends, 0, span(413626, 414634), 1}, {ends, 0, span(412622, 414633), 1}, {ends, 0, span(412621, 414634), 2},
		{speeds, 0, span(3400001, 3400009), 0}, {speeds, 0, span(3400011, 3400019), 0}, {speeds, 0, one(3400010), 1}, {speeds, 0, span(3400000, 3400009), 1}, {speeds, 0, span(3400001, 3400010), 1}, {speeds, 0, span(3400011, 3400020), 1}, {speeds, 0, span(3400000, 3400020), 2},
		{both, 0, span(990104, 999999), 0}, {both, 0, span(990100, 990102), 0}, {both, 0, span(1000001, 1000004), 0}, {both, 0, span(990103, 999999), 1}, {both, 0, span(990104, 1000000), 1}, {both, 0, one(990103), 1}, {both, 0, one(1000000), 1},
		{held, 0, one(2500), 1}, {held, 0, one(2501), 1}, {held, 0, one(2502), 1}, {held, 0, one(2503), 0}, {held, 0, span(2500, 2502), 2},
		{closed, 1, span(970874, 980391), 0}, {closed, 1, span(961539, 970872), 0}, {closed, 1, span(952381, 961537), 0}, {closed, 1, span(943397, 952379), 0}, {closed, 1, one(970873), 1}, {closed, 1, one(961538), 1}, {closed, 1, one(952380), 1}, {closed, 1, span(943396, 980392), 2},
		{closed, 5, one(980392), 1}, {closed, 5, one(990099), 1}, {closed, 5, one(961538), 0}, {closed, 3, one(1000000), 2},
	} {
		wantPlays(t, x.f, x.fingering, x.note, x.want)
	}
}

// TestFingers has notes that no fingering, some of them and all play (P9.2).
func TestFingers(t *testing.T) {
	var all []uint8
	for n := range 256 {
		all = append(all, uint8(n))
	}
	wantFingers(t, eight(), span(1, 10000000), all...)
	wantFingers(t, eight(), span(161764, 1750000), all...)
	wantFingers(t, eight(), span(161765, 1750000), all[1:]...)
	wantFingers(t, eight(), one(1))
	wantFingers(t, eight(), one(10000000))
	wantFingers(t, eight(), span(161764, 175000), 0)
	wantFingers(t, eight(), span(161764, 174999))
	wantFingers(t, eight(), span(161765, 175000))
	wantFingers(t, eight(), span(161764, 247875), 0, 64, 128, 192)
	wantFingers(t, eight(), span(203703, 247874), 64, 128)
	wantFingers(t, eight(), span(323529, 347222), 48, 112, 176, 240)
	wantFingers(t, eight(), span(310734, 347222), 16, 48, 80, 112, 144, 176, 208, 240)
	// All with the first two holes open sound alike.
	var two []uint8
	for n := 3; n < 256; n += 4 {
		two = append(two, uint8(n))
	}
	wantFingers(t, eight(), span(1500000, 1750000), two...)
	wantFingers(t, bare(50), one(1000000), 0)
	wantFingers(t, bare(50), one(1000001))
	wantFingers(t, exampleFlute(), span(404761, 419512), 0)
	wantFingers(t, exampleFlute(), span(404761, 554838), 0, 2)
	wantFingers(t, exampleFlute(), span(801886, 826923), 3)
	wantFingers(t, exampleFlute(), span(1, 826922), 0, 1, 2)
}

// TestMake has one place, as many as there may be, and such that are as near to the mouth, to each other and to nodes as they may be (P9.3).
func TestMake(t *testing.T) {
	b := api.Blank{Length: 500, End: span(1, 2), Fix: span(3, 4), Speed: span(100001, 100002), Gap: 50}
	want := func(length int, at ...int) api.Flute {
		f := api.Flute{Length: length, End: span(1, 2), Speed: span(100001, 100002)}
		for _, n := range at {
			f.Holes = append(f.Holes, hole(n, 3, 4))
		}
		return f
	}
	wantMake(t, b, []int{500}, want(500))
	wantMake(t, b, []int{50}, want(50))
	wantMake(t, b, []int{77}, want(77))
	wantBad(t, b)
	wantBad(t, b, 501)
	wantBad(t, b, 49)
	wantBad(t, b, 0)
	wantBad(t, b, -77)
	wantMake(t, b, []int{400, 300, 101}, want(400, 101, 300))
	// A Gap apart, and one less.
	wantMake(t, b, []int{500, 450, 400}, want(500, 400, 450))
	wantBad(t, b, 500, 451, 400)
	wantBad(t, b, 500, 450, 401)
	wantBad(t, b, 499, 450, 400)
	wantMake(t, b, []int{100, 50}, want(100, 50))
	wantBad(t, b, 100, 49)
	wantBad(t, b, 99, 50)
	wantBad(t, b, 300, 300)
	wantBad(t, b, 300, 400)
	wantBad(t, b, 500, 400, 450)
	// As many as there may be, and one more.
	wantMake(t, b, down(500, 50, 9), want(500, 100, 150, 200, 250, 300, 350, 400, 450))
	wantBad(t, b, down(500, 50, 10)...)
	b.Gap = 56
	wantMake(t, b, down(500, 56, 9), want(500, 52, 108, 164, 220, 276, 332, 388, 444))
	b.Gap = 57
	wantBad(t, b, down(500, 57, 9)...)
	b.Gap = 1
	wantMake(t, b, []int{500, 499, 498, 50}, want(500, 50, 498, 499))
	wantBad(t, b, 500, 499, 499)
	b.Gap = 20000
	wantMake(t, b, []int{500}, want(500))
	wantBad(t, b, 500, 50)
	b.Length, b.Gap = 20000, 19950
	wantMake(t, b, []int{20000, 50}, want(20000, 50))
	wantBad(t, b, 19999, 50)
}

// TestMakeNearNodes has holes that are as near to nodes as they may be, and nearer (P9.3).
func TestMakeNearNodes(t *testing.T) {
	for _, x := range []struct {
		near  int
		nodes []int
		good  []int
		bad   []int
	}{
		// With Near 0 holes may be at nodes.
		{0, []int{300}, []int{299, 300, 301}, nil},
		{1, []int{300}, []int{299, 301}, []int{300}},
		{9, []int{300}, []int{291, 309, 50, 498}, []int{292, 299, 300, 301, 308}},
		{9, []int{300, 310}, []int{291, 319}, []int{292, 300, 301, 305, 309, 310, 311, 318}},
		{9, []int{300, 318}, []int{291, 309, 327}, []int{292, 308, 310, 326}},
		{9, []int{0, 40, 42, 500}, []int{51, 491}, []int{50, 492, 498}},
		{60, []int{0, 500}, []int{60, 440}, []int{59, 50, 441, 498}},
		{3, []int{50}, []int{53}, []int{50, 51, 52}},
		// Near for which one place is left, and none.
		{250, []int{250}, nil, []int{50, 249, 250, 251, 498}},
		{248, []int{250}, []int{498}, []int{50, 497}},
		{20000, []int{0}, nil, numbers(50, 499)},
		{20000, []int{500}, nil, numbers(50, 499)},
		{20, []int{100, 140, 180, 220, 260, 300, 340, 380, 420, 460}, []int{50, 80, 120, 160, 200, 240, 280, 320, 360, 400, 440, 480, 498}, []int{81, 100, 119, 121, 139, 141, 401, 439, 441, 460, 479}},
	} {
		b := even(func(b *api.Blank) { b.Near, b.Nodes, b.Gap = x.near, x.nodes, 1 })
		for _, place := range x.good {
			wantMake(t, b, []int{500, place}, api.Flute{Length: 500, Speed: one(200000), Holes: []api.Hole{hole(place, 0, 0)}})
		}
		for _, place := range x.bad {
			wantBad(t, b, 500, place)
			// The first place may be near to a node.
			wantMake(t, b, []int{place}, api.Flute{Length: place, Speed: one(200000)})
		}
	}
	// Each hole counts, not just the next one.
	b := even(func(b *api.Blank) { b.Near, b.Nodes = 5, []int{100, 300} })
	wantMake(t, b, []int{500, 400, 305, 200, 105}, api.Flute{Length: 500, Speed: one(200000), Holes: []api.Hole{hole(105, 0, 0), hole(200, 0, 0), hole(305, 0, 0), hole(400, 0, 0)}})
	wantBad(t, b, 500, 400, 304, 200, 105)
	wantBad(t, b, 500, 400, 305, 200, 104)
	wantBad(t, b, 500, 296, 200)
}

// TestDrill has one note, as many as there may be, and such for which there are no places (P9.4).
func TestDrill(t *testing.T) {
	gap := func(n int) func(b *api.Blank) { return func(b *api.Blank) { b.Gap = n } }
	length := func(n int) func(b *api.Blank) { return func(b *api.Blank) { b.Length = n } }
	wide := between(50, 20000)
	for _, x := range []struct {
		b     api.Blank
		notes []api.Span
		want  []int
	}{
		// One note: at the blank's Length, at MinLength, and between.
		{even(), []api.Span{wide}, []int{500}}, {even(), []api.Span{at(500)}, []int{500}}, {even(), []api.Span{at(50)}, []int{50}}, {even(), []api.Span{between(300, 400)}, []int{400}}, {even(), []api.Span{between(400, 600)}, []int{500}}, {even(), []api.Span{at(501)}, nil}, {even(), []api.Span{between(40, 49)}, nil}, {even(), []api.Span{between(40, 50)}, []int{50}},
		{even(length(50)), []api.Span{wide}, []int{50}}, {even(length(20000)), []api.Span{wide}, []int{20000}}, {even(), []api.Span{span(1, 10000000)}, []int{500}}, {even(), []api.Span{one(1)}, nil}, {even(), []api.Span{one(10000000)}, nil},
		// As many as there may be, with all the room that they need, and with less.
		{even(), slices.Repeat([]api.Span{wide}, 9), down(500, 50, 9)}, {even(gap(56)), slices.Repeat([]api.Span{wide}, 9), down(500, 56, 9)}, {even(gap(57)), slices.Repeat([]api.Span{wide}, 9), nil}, {even(gap(57)), slices.Repeat([]api.Span{wide}, 8), down(500, 57, 8)}, {even(gap(1)), slices.Repeat([]api.Span{wide}, 9), down(500, 1, 9)}, {even(gap(20000)), []api.Span{wide}, []int{500}}, {even(gap(20000)), []api.Span{wide, wide}, nil},
		{even(gap(19950), length(20000)), []api.Span{wide, wide}, []int{20000, 50}}, {even(gap(19951), length(20000)), []api.Span{wide, wide}, nil}, {even(gap(20000), length(20000)), []api.Span{wide}, []int{20000}},
		{even(), []api.Span{at(500), at(450), at(400), at(350), at(300), at(250), at(200), at(150), at(100)}, down(500, 50, 9)},
		{even(), []api.Span{at(500), at(450), at(400), at(350), at(300), at(250), at(200), at(150), at(101)}, nil},
		// Notes in their order: each is that of one hole more.
		{even(), []api.Span{at(500), at(400), at(100)}, []int{500, 400, 100}}, {even(), []api.Span{at(500), at(100), at(400)}, nil}, {even(), []api.Span{at(400), at(500), at(100)}, nil},
		// A Gap apart, and one less.
		{even(), []api.Span{at(400), at(350)}, []int{400, 350}}, {even(), []api.Span{at(400), at(351)}, nil}, {even(), []api.Span{at(400), between(350, 399)}, []int{400, 350}}, {even(), []api.Span{at(400), between(351, 399)}, nil},
		// The note of the last place asks for less than there is room for.
		{even(), []api.Span{wide, between(200, 300), between(100, 280)}, []int{500, 300, 250}}, {even(), []api.Span{wide, between(200, 300), between(100, 240)}, []int{500, 300, 240}},
	} {
		wantDrill(t, x.b, x.notes, x.want...)
	}
}

// TestDrillNearNodes has nodes that bar the greatest places, all of a note's places, and none (P9.4).
func TestDrillNearNodes(t *testing.T) {
	wide := between(50, 20000)
	tens := []int{100, 140, 180, 220, 260, 300, 340, 380, 420, 460}
	for _, x := range []struct {
		near  int
		nodes []int
		notes []api.Span
		want  []int
	}{
		{0, []int{450}, []api.Span{wide, wide}, []int{500, 450}}, {1, []int{450}, []api.Span{wide, wide}, []int{500, 449}}, {5, []int{450}, []api.Span{wide, wide}, []int{500, 445}}, {5, []int{445}, []api.Span{wide, wide}, []int{500, 450}}, {5, []int{446}, []api.Span{wide, wide}, []int{500, 441}}, {5, []int{454}, []api.Span{wide, wide}, []int{500, 449}}, {5, []int{455}, []api.Span{wide, wide}, []int{500, 450}},
		// Two nodes bar all from one to the other one, or leave one place.
		{5, []int{440, 449}, []api.Span{wide, wide}, []int{500, 435}}, {5, []int{439, 449}, []api.Span{wide, wide}, []int{500, 444}}, {5, []int{436, 446}, []api.Span{wide, wide}, []int{500, 441}}, {5, []int{437, 446}, []api.Span{wide, wide}, []int{500, 432}},
		// The note has places above a node, below it, or on both sides.
		{5, []int{300}, []api.Span{wide, between(200, 310)}, []int{500, 310}}, {5, []int{300}, []api.Span{wide, between(200, 305)}, []int{500, 305}}, {5, []int{300}, []api.Span{wide, between(200, 304)}, []int{500, 295}}, {5, []int{300}, []api.Span{wide, between(295, 304)}, []int{500, 295}}, {5, []int{300}, []api.Span{wide, between(296, 304)}, nil}, {5, []int{300}, []api.Span{wide, between(296, 305)}, []int{500, 305}}, {5, []int{300}, []api.Span{wide, at(300)}, nil}, {0, []int{300}, []api.Span{wide, at(300)}, []int{500, 300}},
		// Nodes at 0 and at the end, which the first place may be near to, and nodes that it is at.
		{5, []int{0, 500}, []api.Span{wide, at(60)}, []int{500, 60}}, {60, []int{0, 500}, []api.Span{wide, wide}, []int{500, 440}}, {60, []int{0, 500}, []api.Span{wide, between(50, 60)}, []int{500, 60}}, {61, []int{0, 500}, []api.Span{wide, between(50, 60)}, nil}, {20, []int{400}, []api.Span{at(400), at(350)}, []int{400, 350}}, {20, []int{400}, []api.Span{between(300, 400)}, []int{400}},
		// Near for which no place is left but the first one.
		{20000, []int{0}, []api.Span{wide}, []int{500}}, {20000, []int{0}, []api.Span{wide, wide}, nil}, {20000, []int{500}, []api.Span{wide, wide}, nil}, {201, []int{250}, []api.Span{wide, wide}, nil}, {200, []int{250}, []api.Span{wide, wide}, []int{500, 450}}, {200, []int{250}, []api.Span{wide, wide, wide}, []int{500, 450, 50}}, {20000, nil, []api.Span{wide, wide}, []int{500, 450}}, {450, []int{0}, []api.Span{wide, wide}, []int{500, 450}}, {451, []int{0}, []api.Span{wide, wide}, nil},
		// As many nodes as there may be: between two of them there is one place, a few, or none.
		{20, tens, []api.Span{wide, wide, wide, wide}, []int{500, 440, 360, 280}}, {20, tens, []api.Span{wide, at(80), at(50)}, nil}, {20, tens, []api.Span{wide, between(60, 119)}, []int{500, 80}}, {20, tens, []api.Span{wide, between(81, 119)}, nil}, {19, tens, []api.Span{wide, between(81, 119)}, []int{500, 119}}, {19, tens, slices.Repeat([]api.Span{wide}, 7), []int{500, 441, 361, 281, 201, 121, 71}}, {19, tens, slices.Repeat([]api.Span{wide}, 8), nil}, {21, tens, []api.Span{wide, wide}, []int{500, 79}},
	} {
		b := even(func(b *api.Blank) { b.Near, b.Nodes = x.near, x.nodes })
		wantDrill(t, b, x.notes, x.want...)
	}
}

// TestDrillSpans has spans that leave less room for a note, as it has to be played whatever is true (P9.4).
func TestDrillSpans(t *testing.T) {
	for _, x := range []struct {
		end, fix, speed api.Span
		notes           []api.Span
		want            []int
	}{
		// The least tone is that of the longest air: the first place goes by End, the next ones by Fix.
		{one(10), one(0), one(200000), []api.Span{between(300, 400), between(200, 300)}, []int{390, 300}}, {one(0), one(10), one(200000), []api.Span{between(300, 400), between(200, 300)}, []int{400, 290}}, {one(0), one(10), one(200000), []api.Span{between(300, 400), between(200, 300), between(100, 150)}, []int{400, 290, 140}},
		{span(0, 60), one(0), one(200000), []api.Span{between(300, 400)}, []int{340}}, {span(0, 60), one(0), one(200000), []api.Span{between(340, 400)}, []int{340}}, {span(0, 60), one(0), one(200000), []api.Span{between(341, 400)}, nil}, {span(20, 60), one(0), one(200000), []api.Span{between(360, 400)}, []int{340}}, {span(20, 60), one(0), one(200000), []api.Span{between(361, 400)}, nil},
		{one(0), span(0, 60), one(200000), []api.Span{between(300, 400), between(200, 300)}, []int{400, 240}}, {one(0), span(0, 60), one(200000), []api.Span{between(300, 400), between(241, 300)}, nil}, {one(0), span(0, 60), one(200000), []api.Span{between(300, 400), between(240, 300)}, []int{400, 240}},
		// Both speeds have to be in the note: 60,000,000 and 100,000,000 divided by the place.
		{one(0), one(0), span(120000, 200000), []api.Span{span(200000, 400000)}, []int{300}}, {one(0), one(0), span(120000, 200000), []api.Span{span(200000, 333333)}, []int{300}}, {one(0), one(0), span(120000, 200000), []api.Span{span(200000, 333332)}, nil},
	} {
		b := even(func(b *api.Blank) { b.End, b.Fix, b.Speed = x.end, x.fix, x.speed })
		wantDrill(t, b, x.notes, x.want...)
	}
}

// TestFurtherLeavesMore has two notes whose first place may be at many: the further it is from the mouth, the more is left for the next one, and the nearest ones leave none (P9.4, P9.6).
func TestFurtherLeavesMore(t *testing.T) {
	next := between(250, 330)
	for first := 300; first <= 400; first++ {
		notes := []api.Span{at(first), next}
		wantDrill(t, even(), notes, first, min(first-50, 330))
		wantDrill(t, even(func(b *api.Blank) { b.Gap = 51 }), notes, []int{first, min(first-51, 330)}[:min(first-300, 1)*2]...)
		// With a node the next place may be less far, but never leaves none where it would after a nearer one.
		b := even(func(b *api.Blank) { b.Nodes, b.Near = []int{290}, 20 })
		want := min(first-50, 330)
		if want < 310 {
			want = min(want, 270)
		}
		wantDrill(t, b, notes, first, want)
		wantDrill(t, b, []api.Span{between(300, first), next}, first, want)
	}
	wantDrill(t, even(), []api.Span{between(300, 400), at(350)}, 400, 350)
	wantDrill(t, even(), []api.Span{between(300, 399), at(350)})
	wantDrill(t, even(), []api.Span{between(300, 400), between(260, 345), at(295)}, 400, 345, 295)
	wantDrill(t, even(), []api.Span{between(300, 400), between(260, 344), at(295)})
}
