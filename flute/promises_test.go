package flute_test

import (
	"math/rand/v2"
	"slices"
	"testing"

	"canebrake/api"
	"canebrake/flute"
)

// tally counts which kinds of answers were met.
type tally map[string]int

// want looks for kinds that were hardly met.
func (y tally) want(t *testing.T, least int, kinds ...string) {
	t.Helper()
	for _, kind := range kinds {
		if y[kind] < least {
			t.Error("one kind of answer was hardly met:", kind, y[kind])
		}
	}
}

// few names how many there are.
func few(number int) string {
	switch {
	case number < 2:
		return []string{"none", "one"}[number]
	case number < 5:
		return "some"
	}
	return "many"
}

func nameOf(known uint8) string { return []string{"no", "open", "yes"}[known] }

// TestModel holds what is told of flutes with narrow spans against the model, which goes through all that may be true (P9.1, P9.2, P9.5).
func TestModel(t *testing.T) {
	r := chance(1)
	met := tally{}
	for range 4000 {
		f := anyFlute(r, small())
		if r.IntN(2) == 0 {
			f = anyFlute(r, sizes{20000, 4, 30})
		}
		fingering := anyFingering(r, f)
		tones := modelTones(f, fingering)
		wantTone(t, f, fingering, tones.ends())
		for range 6 {
			note := noteNear(r, tones.ends())
			known := modelPlays(tones, note)
			wantPlays(t, f, fingering, note, known)
			met[nameOf(known)]++
			if known == api.KnownNo && note.Lo < tones.ends().Hi && note.Hi > tones.ends().Lo {
				met["between tones"]++
			}
		}
		if t.Failed() {
			t.FailNow()
		}
	}
	met.want(t, 200, "no", "open", "yes", "between tones")
}

// TestFingersModel asks the model for each fingering (P9.2).
func TestFingersModel(t *testing.T) {
	r := chance(2)
	met := tally{}
	for range 400 {
		f := anyFlute(r, small())
		heard := map[uint8]set{}
		for n := range 256 {
			if n == 0 || n < 1<<len(f.Holes) {
				heard[uint8(n)] = modelTones(f, uint8(n))
			}
		}
		for range 5 {
			note := noteNear(r, heard[anyFingering(r, f)].ends())
			var want []uint8
			for n := range len(heard) {
				if modelPlays(heard[uint8(n)], note) == api.KnownYes {
					want = append(want, uint8(n))
				}
			}
			met[few(len(want))]++
			wantFingers(t, f, note, want...)
		}
		if t.Failed() {
			t.FailNow()
		}
	}
	met.want(t, 50, "none", "one", "some", "many")
}

// TestPrintedSpans draws what is true of flutes with wide spans: their tones lie in the spans that are told, both ends of which come about, and what is told for sure is so (P9.5).
func TestPrintedSpans(t *testing.T) {
	r := chance(3)
	met := tally{}
	for range 3000 {
		f := anyFlute(r, large())
		fingering := anyFingering(r, f)
		tones, e := flute.Tone(f, fingering)
		if e != api.OK {
			t.Fatal(f, fingering, e)
		}
		wantEnds(t, f, fingering, tones)
		note := noteNear(r, tones)
		known, _ := flute.Plays(f, fingering, note)
		met[nameOf(known)]++
		sure, _ := flute.Fingers(f, note)
		if slices.Contains(sure, fingering) != (known == api.KnownYes) {
			t.Error(sure, fingering, known)
		}
		for range 60 {
			tone := anyTone(r, f, fingering)
			in := note.Lo <= tone && tone <= note.Hi
			if tone < tones.Lo || tone > tones.Hi || in && known == api.KnownNo || !in && known == api.KnownYes {
				t.Error(tone, tones, note, known)
			}
		}
		if t.Failed() {
			t.Fatal(f, fingering)
		}
	}
	met.want(t, 200, "no", "open", "yes")
}

// wantEnds looks for the tones of the two truths in which all spans are at their ends.
func wantEnds(t *testing.T, f api.Flute, fingering uint8, tones api.Span) {
	t.Helper()
	for _, x := range []struct {
		longer, speed func(api.Span) int
		want          int
	}{{hi, lo, tones.Lo}, {lo, hi, tones.Hi}} {
		g := f
		g.End, g.Cross, g.Speed = one(x.longer(f.End)), one(x.longer(f.Cross)), one(x.speed(f.Speed))
		g.Holes = slices.Clone(f.Holes)
		for i := range g.Holes {
			g.Holes[i].Fix = one(x.longer(f.Holes[i].Fix))
		}
		if tone := anyTone(chance(0), g, fingering); tone != x.want {
			t.Error(f, fingering, tones, "not", tone)
		}
	}
}

func lo(s api.Span) int { return s.Lo }
func hi(s api.Span) int { return s.Hi }

// wider is a span that begins earlier, ends later, or both, within another one.
func wider(r *rand.Rand, s, in api.Span) api.Span {
	if r.IntN(3) > 0 {
		s.Lo -= r.IntN(min(s.Lo-in.Lo, 1+r.IntN(100000)) + 1)
	}
	if r.IntN(3) > 0 {
		s.Hi += r.IntN(min(in.Hi-s.Hi, 1+r.IntN(100000)) + 1)
	}
	return s
}

// widened is a flute of which one span is wider, or several.
func widened(r *rand.Rand, f api.Flute) api.Flute {
	fix, what := span(0, 60), r.IntN(5)
	f.Holes = slices.Clone(f.Holes)
	if what == 0 || what == 4 {
		f.End = wider(r, f.End, fix)
	}
	if what == 1 || what == 4 {
		f.Cross = wider(r, f.Cross, fix)
	}
	if what == 2 || what == 4 {
		f.Speed = wider(r, f.Speed, span(100000, 500000))
	}
	for i := range f.Holes {
		if what == 3 || what == 4 {
			f.Holes[i].Fix = wider(r, f.Holes[i].Fix, fix)
		}
	}
	return f
}

// TestWiderSpans makes spans of flutes wider: no fingering is surer then, and no tone that was told is left out (P9.7).
func TestWiderSpans(t *testing.T) {
	r := chance(4)
	met := tally{}
	for range 12000 {
		f := anyFlute(r, []sizes{small(), large(), {20000, 10, 2000}}[r.IntN(3)])
		g := widened(r, f)
		fingering := anyFingering(r, f)
		tones, _ := flute.Tone(f, fingering)
		wide, e := flute.Tone(g, fingering)
		if wide.Lo > tones.Lo || wide.Hi < tones.Hi || e != api.OK {
			t.Fatal(f, g, fingering, tones, wide, e)
		}
		note := noteNear(r, tones)
		known, _ := flute.Plays(f, fingering, note)
		less, e := flute.Plays(g, fingering, note)
		if less != known && less != api.KnownOpen || e != api.OK {
			t.Fatal(f, g, fingering, note, known, less, e)
		}
		before, _ := flute.Fingers(f, note)
		after, _ := flute.Fingers(g, note)
		for _, n := range after {
			if !slices.Contains(before, n) {
				t.Fatal(f, g, note, before, after)
			}
		}
		met[nameOf(known)+" to "+nameOf(less)]++
	}
	met.want(t, 100, "no to no", "no to open", "open to open", "yes to open", "yes to yes")
}

// TestOpening opens a hole before the first open one: no tone is lower then, if Cross is 0 to 0 and all holes have the same Fix (P9.7).
func TestOpening(t *testing.T) {
	r := chance(5)
	met := tally{}
	for range 3000 {
		f := anyFlute(r, []sizes{small(), large()}[r.IntN(2)])
		f.Cross = one(0)
		for i := range f.Holes {
			f.Holes[i].Fix = f.Holes[0].Fix
		}
		for i := range f.Holes {
			// The holes from i on are as they may be, those before are closed.
			fingering := anyFingering(r, f) >> i << i
			tones, _ := flute.Tone(f, fingering)
			if fingering == 0 {
				continue
			}
			for k := range len(f.Holes) {
				if fingering&(1<<(k+1)-1) != 0 {
					break
				}
				open, e := flute.Tone(f, fingering|1<<k)
				if open.Lo < tones.Lo || open.Hi < tones.Hi || e != api.OK {
					t.Fatal(f, fingering, k, tones, open, e)
				}
				if open.Lo > tones.Lo && open.Hi > tones.Hi {
					met["higher"]++
				}
			}
		}
	}
	met.want(t, 500, "higher")
	// With other ones a tone may be lower: by a Cross, or by a greater Fix.
	f := api.Flute{Length: 100, Cross: one(60), Speed: one(100000), Holes: []api.Hole{hole(50, 0, 0), hole(60, 0, 0), hole(61, 0, 0)}}
	wantTone(t, f, 4, one(819672))
	wantTone(t, f, 5, one(454545))
	f.Cross, f.Holes[0].Fix = one(0), one(60)
	wantTone(t, f, 5, one(454545))
}

// TestBehind opens and closes holes after the next one that is open (P9.8).
func TestBehind(t *testing.T) {
	r := chance(6)
	met := tally{}
	for range 3000 {
		f := anyFlute(r, []sizes{small(), large()}[r.IntN(2)])
		if len(f.Holes) < 3 {
			continue
		}
		first := r.IntN(len(f.Holes) - 1)
		next := among(r, first+1, len(f.Holes)-1)
		fingering := uint8(1<<first + 1<<next)
		tones, _ := flute.Tone(f, fingering)
		note := noteNear(r, tones)
		known, _ := flute.Plays(f, fingering, note)
		for behind := range 1 << (len(f.Holes) - next - 1) {
			other := fingering + uint8(behind<<(next+1))
			wantTone(t, f, other, tones)
			wantPlays(t, f, other, note, known)
			met["behind"] += min(behind, 1)
		}
		if t.Failed() {
			t.FailNow()
		}
	}
	met.want(t, 500, "behind")
}

// TestMakeModel holds flutes of places, and what are no places, against the model (P9.3).
func TestMakeModel(t *testing.T) {
	r := chance(7)
	met := tally{}
	for range 20000 {
		b := anyBlank(r, large())
		places := anyPlaces(r, b, 11)
		if r.IntN(3) == 0 {
			places[r.IntN(len(places))] += among(r, -2, 2)
		}
		if !modelPlaces(b, places) {
			wantBad(t, b, places...)
			met["bad"]++
		} else {
			wantMake(t, b, places, modelMake(b, places))
			if f, _ := flute.Make(b, places); flute.Check(f) != api.OK {
				t.Error(b, places, f)
			}
			met[few(len(places))]++
		}
		if t.Failed() {
			t.FailNow()
		}
	}
	met.want(t, 500, "bad", "one", "some", "many")
}

// TestDrillModel holds places for notes against the model, which goes through all places of short blanks (P9.4, P9.6).
func TestDrillModel(t *testing.T) {
	r := chance(8)
	met := tally{}
	for range 3000 {
		b := anyBlank(r, sizes{62, 3, 5})
		b.Gap = min(b.Gap, 1+r.IntN(4))
		b.Near = min(b.Near, r.IntN(4))
		b.Nodes = some(r, 3, 45, b.Length)
		notes := notesFor(r, b, 3)
		drills := allDrills(b, notes)
		want := greatestOf(drills)
		// The greatest places of all are places together.
		if len(drills) > 0 && !slices.ContainsFunc(drills, func(l []int) bool { return slices.Equal(l, want) }) {
			t.Fatal(b, notes, drills)
		}
		if wide := wideDrill(b, notes); !slices.Equal(wide, want) {
			t.Fatal(b, notes, wide, want)
		}
		wantDrill(t, b, notes, want...)
		if t.Failed() {
			t.FailNow()
		}
		met[few(len(drills))]++
		if len(want) > 1 {
			met["with holes"]++
		}
	}
	met.want(t, 200, "none", "one", "some", "many", "with holes")
}

// TestDrillWide has blanks of all sizes, with notes that some places play (P9.4, P9.6).
func TestDrillWide(t *testing.T) {
	r := chance(9)
	met := tally{}
	for range 2500 {
		b := anyBlank(r, []sizes{large(), {20000, 8, 3000}, {20000, 1, 1}}[r.IntN(3)])
		notes := notesFor(r, b, 9)
		want := wideDrill(b, notes)
		wantDrill(t, b, notes, want...)
		wantRight(t, r, b, notes, want)
		if t.Failed() {
			t.FailNow()
		}
		met[few(len(want))]++
		if len(want) > 1 && len(b.Nodes) > 0 && b.Near > 0 {
			met["near nodes"]++
		}
	}
	met.want(t, 200, "none", "one", "some", "many", "near nodes")
}

// wantRight makes a flute of places, plays all notes on it, whatever is true, and measures how far its holes are from each other and from nodes (P9.6).
func wantRight(t *testing.T, r *rand.Rand, b api.Blank, notes []api.Span, places []int) {
	t.Helper()
	if len(places) == 0 {
		return
	}
	f, e := flute.Make(b, places)
	if e != api.OK {
		t.Fatal(b, places, e)
	}
	for open, note := range notes {
		fingering := lastOpen(len(f.Holes), open)
		wantPlays(t, f, fingering, note, api.KnownYes)
		if sure, _ := flute.Fingers(f, note); !slices.Contains(sure, fingering) {
			t.Error(f, note, sure, fingering)
		}
		for range 20 {
			if tone := anyTone(r, f, fingering); tone < note.Lo || tone > note.Hi {
				t.Error(f, fingering, tone, note)
			}
		}
	}
	for _, h := range f.Holes {
		for _, node := range b.Nodes {
			if h.At > node-b.Near && h.At < node+b.Near {
				t.Error(b, f)
			}
		}
	}
}

// eased is a blank, and notes, of which one thing leaves more room than before, or several.
func eased(r *rand.Rand, b api.Blank, notes []api.Span) (api.Blank, []api.Span) {
	what := r.IntN(5)
	notes = slices.Clone(notes)
	if what == 0 || what == 4 {
		b.Length = min(b.Length+1+r.IntN(200), 20000)
	}
	if what == 1 || what == 4 {
		b.Gap = among(r, max(1, b.Gap-20), b.Gap)
	}
	if what == 2 || what == 4 {
		b.Near = among(r, max(0, b.Near-20), b.Near)
	}
	if what == 3 || what == 4 {
		i := r.IntN(len(notes))
		notes[i] = wider(r, notes[i], span(1, 10000000))
	}
	return b, notes
}

// TestMoreRoom has longer blanks, lesser Gaps, lesser Nears and wider notes: there are places if there were any before, and none is nearer to the mouth (P9.9).
func TestMoreRoom(t *testing.T) {
	r := chance(10)
	met := tally{}
	for range 20000 {
		b := anyBlank(r, []sizes{large(), {20000, 8, 3000}, {200, 2, 30}}[r.IntN(3)])
		notes := notesFor(r, b, 9)
		places, e := flute.Drill(b, notes)
		c, more := eased(r, b, notes)
		others, g := flute.Drill(c, more)
		if e == api.OK && g != api.OK {
			t.Fatal(b, notes, places, c, more, g)
		}
		for i, place := range places {
			if others[i] < place {
				t.Fatal(b, notes, places, c, more, others)
			}
		}
		switch {
		case g != api.OK:
			met["none"]++
		case e != api.OK:
			met["found then"]++
		case slices.Equal(others, places):
			met["the same"]++
		default:
			met["further"]++
		}
	}
	met.want(t, 200, "found then", "none", "further", "the same")
}
