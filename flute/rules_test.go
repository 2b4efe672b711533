package flute_test

import (
	"math/rand/v2"
	"reflect"
	"slices"
	"sync"
	"testing"

	"canebrake/api"
	"canebrake/flute"
)

// question is arguments for all calls of the package.
type question struct {
	flute     api.Flute
	fingering uint8
	note      api.Span
	blank     api.Blank
	places    []int
	notes     []api.Span
}

// answer is all that the calls return.
type answer struct {
	check   api.Errno
	tone    api.Span
	toneE   api.Errno
	plays   uint8
	playsE  api.Errno
	fingers []uint8
	fingerE api.Errno
	made    api.Flute
	madeE   api.Errno
	drilled []int
	drillE  api.Errno
}

func ask(q question) answer {
	var a answer
	a.check = flute.Check(q.flute)
	a.tone, a.toneE = flute.Tone(q.flute, q.fingering)
	a.plays, a.playsE = flute.Plays(q.flute, q.fingering, q.note)
	a.fingers, a.fingerE = flute.Fingers(q.flute, q.note)
	a.made, a.madeE = flute.Make(q.blank, q.places)
	a.drilled, a.drillE = flute.Drill(q.blank, q.notes)
	return a
}

func (a answer) errors() [6]api.Errno {
	return [6]api.Errno{a.check, a.toneE, a.playsE, a.fingerE, a.madeE, a.drillE}
}

// bare tells whether there is nothing beside errors.
func (a answer) bare() bool {
	made := len(a.made.Holes) == 0 && a.made.Length == 0 && a.made.End == span(0, 0) && a.made.Cross == span(0, 0) && a.made.Speed == span(0, 0)
	return (a.toneE == api.OK || a.tone == span(0, 0)) &&
		(a.playsE == api.OK || a.plays == 0) &&
		(a.fingerE == api.OK || len(a.fingers) == 0) &&
		(a.madeE == api.OK || made) &&
		(a.drillE == api.OK || len(a.drilled) == 0)
}

// usual asks for something to be told by each call.
func usual() question {
	return question{
		flute: exampleFlute(), fingering: 3, note: span(760000, 830000),
		blank:  exampleBlank(),
		places: []int{415, 325, 278},
		notes:  []api.Span{span(400000, 410000), span(500000, 520000), span(590000, 610000)},
	}
}

// anyQuestion is a question to which there mostly are answers.
func anyQuestion(r *rand.Rand) question {
	z := []sizes{small(), large()}[r.IntN(2)]
	q := question{flute: anyFlute(r, z), blank: anyBlank(r, z)}
	q.fingering = anyFingering(r, q.flute)
	tones, _ := flute.Tone(q.flute, q.fingering)
	q.note = noteNear(r, tones)
	q.places, q.notes = anyPlaces(r, q.blank, 9), notesFor(r, q.blank, 9)
	return q
}

// TestUsual looks at what is told of the usual question.
func TestUsual(t *testing.T) {
	want := answer{
		tone: span(801886, 826923), plays: api.KnownYes, fingers: []uint8{1, 3},
		made:    api.Flute{Length: 415, End: one(10), Speed: one(340000), Holes: []api.Hole{hole(278, 10, 10), hole(325, 10, 10)}},
		drilled: []int{415, 325, 278},
	}
	if a := ask(usual()); !reflect.DeepEqual(a, want) {
		t.Error(a, want)
	}
}

// TestErrorsInOrder gives calls arguments with several faults (R1), and looks at what stands beside an error (R2).
func TestErrorsInOrder(t *testing.T) {
	badFlute := func(q *question) { q.flute.Holes[1].At = 200 }
	short := func(q *question) { q.flute.Length = 49 }
	badBit := func(q *question) { q.fingering = 4 }
	badNote := func(q *question) { q.note = span(2, 1) }
	low := func(q *question) { q.note.Lo = 0 }
	badBlank := func(q *question) { q.blank.Gap = 0 }
	badNode := func(q *question) { q.blank.Nodes[0] = 501 }
	noPlaces := func(q *question) { q.places = nil }
	badPlace := func(q *question) { q.places[1] = 326 }
	noNotes := func(q *question) { q.notes = nil }
	badNotes := func(q *question) { q.notes[2].Hi = 10000001 }
	high := func(q *question) { q.notes[1] = one(10000000) }
	for i, x := range []struct {
		changes []func(q *question)
		want    [6]api.Errno
	}{
		{nil, [6]api.Errno{0, 0, 0, 0, 0, 0}},
		{[]func(q *question){badFlute, badBit, badNote}, [6]api.Errno{90, 90, 90, 90, 0, 0}},
		{[]func(q *question){short, badBit, low}, [6]api.Errno{90, 90, 90, 90, 0, 0}},
		{[]func(q *question){badFlute}, [6]api.Errno{90, 90, 90, 90, 0, 0}},
		{[]func(q *question){badBit, badNote}, [6]api.Errno{0, 2, 2, 91, 0, 0}},
		{[]func(q *question){badBit, low}, [6]api.Errno{0, 2, 2, 91, 0, 0}},
		{[]func(q *question){badBit}, [6]api.Errno{0, 2, 2, 0, 0, 0}},
		{[]func(q *question){badNote}, [6]api.Errno{0, 0, 91, 91, 0, 0}},
		{[]func(q *question){low}, [6]api.Errno{0, 0, 91, 91, 0, 0}},
		{[]func(q *question){badBlank, noPlaces, noNotes}, [6]api.Errno{0, 0, 0, 0, 92, 92}},
		{[]func(q *question){badNode, badPlace, badNotes}, [6]api.Errno{0, 0, 0, 0, 92, 92}},
		{[]func(q *question){badBlank, high}, [6]api.Errno{0, 0, 0, 0, 92, 92}},
		{[]func(q *question){badNode}, [6]api.Errno{0, 0, 0, 0, 92, 92}},
		{[]func(q *question){noPlaces, noNotes}, [6]api.Errno{0, 0, 0, 0, 8, 91}},
		{[]func(q *question){badPlace, badNotes, high}, [6]api.Errno{0, 0, 0, 0, 8, 91}},
		{[]func(q *question){badPlace, high}, [6]api.Errno{0, 0, 0, 0, 8, 6}},
		{[]func(q *question){short, badNotes}, [6]api.Errno{90, 90, 90, 90, 0, 91}},
	} {
		q := usual()
		for _, change := range x.changes {
			change(&q)
		}
		if a := ask(q); a.errors() != x.want || !a.bare() {
			t.Error(i, a)
		}
	}
}

// roomy is a slice with something behind its end, and all of it.
func roomy[T any](list []T, behind T) (short, whole []T) {
	whole = append(slices.Clone(list), behind, behind)
	return whole[:len(list)], whole
}

// TestArgumentsStay looks for arguments that were written to, also behind their ends (R3).
func TestArgumentsStay(t *testing.T) {
	r := chance(11)
	for i := range 300 {
		q := anyQuestion(r)
		switch i {
		case 0:
			q = usual()
		case 1:
			q.flute.Length = 20001
		case 2:
			q.blank.Gap = 0
		}
		var holes []api.Hole
		var nodes, places []int
		var notes []api.Span
		q.flute.Holes, holes = roomy(q.flute.Holes, hole(777, 7, 7))
		q.blank.Nodes, nodes = roomy(q.blank.Nodes, 777)
		q.places, places = roomy(q.places, 777)
		q.notes, notes = roomy(q.notes, one(777))
		same, sameHoles, sameNodes, samePlaces, sameNotes := q, slices.Clone(holes), slices.Clone(nodes), slices.Clone(places), slices.Clone(notes)
		ask(q)
		if !reflect.DeepEqual(q, same) || !slices.Equal(holes, sameHoles) || !slices.Equal(nodes, sameNodes) || !slices.Equal(places, samePlaces) || !slices.Equal(notes, sameNotes) {
			t.Error(q, holes, nodes, places, notes)
		}
	}
}

// spoil writes all over a list, up to its capacity.
func spoil[T any](list []T, with T) {
	list = list[:cap(list)]
	for i := range list {
		list[i] = with
	}
}

// TestResultsAreNew writes over results, and looks at the arguments, at other results, and at what is told again (R3).
func TestResultsAreNew(t *testing.T) {
	q, same := usual(), usual()
	want, a, b := ask(q), ask(q), ask(q)
	spoil(a.fingers, 77)
	spoil(a.made.Holes, hole(-7, -7, -7))
	spoil(a.drilled, -7)
	if !reflect.DeepEqual(q, same) {
		t.Error("an argument was spoilt", q)
	}
	if again := ask(q); !reflect.DeepEqual(again, want) || !reflect.DeepEqual(b, want) {
		t.Error("a call remembers another one", again, b, want)
	}
	// Nor does a result change with an argument.
	spoil(q.places, -7)
	spoil(q.notes, one(-7))
	spoil(q.blank.Nodes, -7)
	spoil(q.flute.Holes, hole(-7, -7, -7))
	if !reflect.DeepEqual(b, want) {
		t.Error("a result shares memory with an argument", b, want)
	}
}

// TestNoCallRemembers asks for many things in two orders, and at the same time (R3).
func TestNoCallRemembers(t *testing.T) {
	r := chance(12)
	questions := []question{usual()}
	for range 200 {
		questions = append(questions, anyQuestion(r))
	}
	want := make([]answer, len(questions))
	for i, q := range questions {
		want[i] = ask(q)
	}
	for i, q := range slices.Backward(questions) {
		if a := ask(q); !reflect.DeepEqual(a, want[i]) {
			t.Error(q, a, want[i])
		}
	}
	got := make([]answer, len(questions))
	var all sync.WaitGroup
	for i, q := range questions {
		all.Go(func() { got[i] = ask(q) })
	}
	all.Wait()
	if !reflect.DeepEqual(got, want) {
		t.Error("calls at the same time disturb each other")
	}
}

// TestNilIsEmpty gives the calls nil lists and empty ones (R4).
func TestNilIsEmpty(t *testing.T) {
	for i, x := range []struct {
		toNil, toEmpty func(q *question)
		want           [6]api.Errno
	}{
		{func(q *question) { q.flute.Holes = nil }, func(q *question) { q.flute.Holes = []api.Hole{} }, [6]api.Errno{0, 0, 0, 0, 0, 0}},
		{func(q *question) { q.blank.Nodes = nil }, func(q *question) { q.blank.Nodes = []int{} }, [6]api.Errno{0, 0, 0, 0, 0, 0}},
		{func(q *question) { q.places = nil }, func(q *question) { q.places = []int{} }, [6]api.Errno{0, 0, 0, 0, 8, 0}},
		{func(q *question) { q.notes = nil }, func(q *question) { q.notes = []api.Span{} }, [6]api.Errno{0, 0, 0, 0, 0, 91}},
	} {
		one, same := usual(), usual()
		one.fingering, same.fingering = 0, 0
		x.toNil(&one)
		x.toEmpty(&same)
		a, b := ask(one), ask(same)
		if !reflect.DeepEqual(a, b) || a.errors() != x.want {
			t.Error(i, a, b)
		}
	}
}

// TestNothingElse looks for fields of results that were to stay zero (R4).
func TestNothingElse(t *testing.T) {
	r := chance(13)
	for range 2000 {
		b := anyBlank(r, large())
		f, e := flute.Make(b, []int{b.Length})
		if e != api.OK || f.Cross != span(0, 0) || len(f.Holes) != 0 {
			t.Error(b, f, e)
		}
	}
}

// TestAnyValue has values that nobody would make: they count as valid (R6).
func TestAnyValue(t *testing.T) {
	// A flute whose holes are next to each other, and which sounds lower with the last of them open.
	f := api.Flute{Length: 54, Speed: one(100000), Holes: []api.Hole{hole(50, 60, 60), hole(51, 59, 59), hole(52, 0, 0), hole(53, 60, 60)}}
	wantTone(t, f, 0, one(925925))
	wantTone(t, f, 8, one(442477))
	wantTone(t, f, 4, one(961538))
	wantTone(t, f, 15, one(454545))
	wantFingers(t, f, one(454545), 1, 2, 3, 5, 6, 7, 9, 10, 11, 13, 14, 15)
	// Notes that are the same, that contain each other, or go down.
	wantDrill(t, even(), []api.Span{span(1, 10000000), span(1, 10000000), span(250000, 9000000)}, 500, 450, 400)
	wantDrill(t, even(func(b *api.Blank) { b.End, b.Fix = one(60), one(0) }), []api.Span{one(178571), one(222222)}, 500, 450)
	wantDrill(t, even(func(b *api.Blank) { b.End, b.Fix = one(0), one(60) }), []api.Span{one(200000), one(196078)}, 500, 450)
	wantDrill(t, even(func(b *api.Blank) { b.End, b.Fix = one(0), one(60) }), []api.Span{one(200000), one(196077)})
	// Nodes that lie next to each other, and a Gap and a Near beyond the blank.
	wantDrill(t, even(func(b *api.Blank) { b.Nodes, b.Near = numbers(441, 451), 1 }), slices.Repeat([]api.Span{span(1, 10000000)}, 2), 500, 440)
	wantDrill(t, even(func(b *api.Blank) { b.Length, b.Gap, b.Near, b.Nodes = 50, 20000, 20000, []int{50} }), []api.Span{span(1, 10000000)}, 50)
	wantMake(t, even(func(b *api.Blank) { b.Length, b.Gap, b.Near, b.Nodes = 50, 20000, 20000, []int{50} }), []int{50}, api.Flute{Length: 50, Speed: one(200000)})
}

// numbersOf are the numbers of a question.
func numbersOf(q *question) []*int {
	f, b := &q.flute, &q.blank
	l := []*int{
		&f.Length, &f.End.Lo, &f.End.Hi, &f.Cross.Lo, &f.Cross.Hi, &f.Speed.Lo, &f.Speed.Hi,
		&q.note.Lo, &q.note.Hi,
		&b.Length, &b.End.Lo, &b.End.Hi, &b.Fix.Lo, &b.Fix.Hi, &b.Speed.Lo, &b.Speed.Hi, &b.Gap, &b.Near,
	}
	for i := range f.Holes {
		l = append(l, &f.Holes[i].At, &f.Holes[i].Fix.Lo, &f.Holes[i].Fix.Hi)
	}
	for i := range b.Nodes {
		l = append(l, &b.Nodes[i])
	}
	for i := range q.places {
		l = append(l, &q.places[i])
	}
	for i := range q.notes {
		l = append(l, &q.notes[i].Lo, &q.notes[i].Hi)
	}
	return l
}

// TestOddArguments gives the calls numbers and lists of all kinds: each call ends, without a panic, and all of them agree on what is valid (R5, R7).
func TestOddArguments(t *testing.T) {
	r := chance(14)
	numbers := odd()
	met := map[api.Errno]int{}
	for range 40000 {
		q := usual()
		if r.IntN(2) == 0 {
			q = anyQuestion(r)
		}
		q.fingering = uint8(r.IntN(256) >> r.IntN(9))
		for range r.IntN(4) {
			all := numbersOf(&q)
			*all[r.IntN(len(all))] = numbers[r.IntN(len(numbers))]
		}
		switch r.IntN(20) {
		case 0:
			q.flute.Holes = slices.Repeat(q.flute.Holes, r.IntN(6))
		case 1:
			q.places = slices.Repeat(q.places, r.IntN(6))
		case 2:
			q.notes = slices.Repeat(q.notes, r.IntN(6))
		case 3:
			q.blank.Nodes = slices.Repeat(q.blank.Nodes, r.IntN(12))
		}
		a := ask(q)
		if !agree(a) || !a.bare() {
			t.Fatal(q, a)
		}
		for _, e := range a.errors() {
			met[e]++
		}
	}
	for _, e := range []api.Errno{api.OK, api.ErrArg, api.ErrNone, api.ErrBad, api.ErrFlute, api.ErrNotes, api.ErrBlank} {
		if met[e] < 1000 {
			t.Error("one kind of answer was hardly met", e, met[e])
		}
	}
}

// agree tells whether calls agree on what is valid, and only return errors of their own.
func agree(a answer) bool {
	if a.check != api.OK {
		return a.check == api.ErrFlute && a.toneE == a.check && a.playsE == a.check && a.fingerE == a.check && (a.madeE == api.ErrBlank) == (a.drillE == api.ErrBlank)
	}
	tone := a.toneE == api.OK || a.toneE == api.ErrArg
	plays := a.playsE == a.toneE && a.fingerE == api.OK || a.toneE == api.ErrArg && a.playsE == api.ErrArg || a.playsE == api.ErrNotes && a.fingerE == api.ErrNotes
	fingers := a.fingerE == api.OK || a.fingerE == api.ErrNotes
	made := a.madeE == api.OK || a.madeE == api.ErrBad || a.madeE == api.ErrBlank && a.drillE == api.ErrBlank
	drilled := slices.Contains([]api.Errno{api.OK, api.ErrNotes, api.ErrNone, api.ErrBlank}, a.drillE)
	return tone && plays && fingers && made && drilled
}
