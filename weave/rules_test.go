package weave_test

import (
	"math"
	"math/rand/v2"
	"reflect"
	"slices"
	"sync"
	"testing"

	"canebrake/api"
	"canebrake/weave"
)

// question is arguments for all calls of the package.
type question struct {
	pattern api.Pattern
	screen  api.Screen
	gauge   api.Gauge
	sticks  []api.Stick
}

// answer is all that the calls return.
type answer struct {
	check    api.Errno
	float    int
	floatE   api.Errno
	loose    []int
	looseE   api.Errno
	falls    []int
	fallsE   api.Errno
	lengths  []int
	lengthsE api.Errno
	bundles  []api.Member
	bundlesE api.Errno
	plan     []int
	cost     int
	madeE    api.Errno
}

func ask(q question) answer {
	var a answer
	a.check = weave.Check(q.pattern, q.screen)
	a.float, a.floatE = weave.Float(q.pattern, q.screen)
	a.loose, a.looseE = weave.Loose(q.pattern, q.screen)
	a.falls, a.fallsE = weave.Falls(q.pattern, q.screen)
	a.lengths, a.lengthsE = weave.Lengths(q.pattern, q.screen, q.gauge)
	a.bundles, a.bundlesE = weave.Bundles(q.pattern, q.screen, q.gauge)
	a.plan, a.cost, a.madeE = weave.Made(q.pattern, q.screen, q.gauge, q.sticks)
	return a
}

func (a answer) errors() [7]api.Errno {
	return [7]api.Errno{a.check, a.floatE, a.looseE, a.fallsE, a.lengthsE, a.bundlesE, a.madeE}
}

// bare tells whether there is nothing beside errors.
func (a answer) bare() bool {
	return (a.floatE == api.OK || a.float == 0) &&
		(a.looseE == api.OK || len(a.loose) == 0) &&
		(a.fallsE == api.OK || len(a.falls) == 0) &&
		(a.lengthsE == api.OK || len(a.lengths) == 0) &&
		(a.bundlesE == api.OK || len(a.bundles) == 0) &&
		(a.madeE == api.OK || len(a.plan) == 0 && a.cost == 0)
}

// usual asks for something to be told by each call: some strips are loose, some fall off, and of the bundles some are bought.
func usual() question {
	return question{
		pattern: pattern("ouu", "uou", "oou"),
		screen:  round(3, 3),
		gauge:   api.Gauge{Pitch: 40, Bow: 3, Lap: 6, Split: 2, Grade: 1, Buy: 50},
		sticks:  []api.Stick{stick(130, 1), stick(200, 3), stick(150, 2), stick(140, 0)},
	}
}

// plainQuestion has strips that are all held, and nothing falls off.
func plainQuestion() question { return question{plain(), flat(2, 2), example(), nil} }

// anyQuestion is a question to which there mostly are answers.
func anyQuestion(r *rand.Rand) question {
	p := anyPattern(r, 8, 8)
	s, g := anyScreen(r, p, []int{4, 24}[r.IntN(2)]), anyGauge(r)
	m, _ := weave.Bundles(p, s, g)
	return question{p, s, g, anySticks(r, m)}
}

// TestUsual looks at what is told of the usual question.
func TestUsual(t *testing.T) {
	want := answer{
		float: 3,
		loose: []int{2}, falls: []int{0, 1, 3, 4},
		lengths: []int{126, 123, 120, 132, 132, 132},
		bundles: []api.Member{{Length: 120, Grade: 1, Buy: 50}, {Length: 123, Grade: 1, Buy: 50}, {Length: 126, Grade: 1, Buy: 50}, {Length: 132, Grade: 1, Buy: 50}, {Length: 132, Grade: 1, Buy: 50}},
		plan:    []int{-1, -1, 0, -1, 2}, cost: 172,
	}
	if a := ask(usual()); !reflect.DeepEqual(a, want) {
		t.Error(a, want)
	}
}

// TestErrorsInOrder gives calls arguments with several faults (R1), and looks at what stands beside an error (R2).
func TestErrorsInOrder(t *testing.T) {
	badPattern := func(q *question) { q.pattern.Over = q.pattern.Over[:8] }
	wide := func(q *question) { q.pattern.Wide = 0 }
	badScreen := func(q *question) { q.screen.Rows = 25 }
	columns := func(q *question) { q.screen.Columns = 0 }
	open := func(q *question) { q.screen.Columns = 4 }
	badGauge := func(q *question) { q.gauge.Buy = -1 }
	many := func(q *question) { q.screen.Columns, q.screen.Rows, q.gauge.Split = 24, 24, 1 }
	badStick := func(q *question) { q.sticks[3].Trunk = 6 }
	all := func(woven, measured, bundles, made api.Errno) [7]api.Errno {
		return [7]api.Errno{woven, woven, woven, woven, measured, bundles, made}
	}
	for i, x := range []struct {
		changes []func(q *question)
		want    [7]api.Errno
	}{
		{nil, all(0, 0, 0, 0)},
		{[]func(q *question){badPattern, badScreen, badGauge, badStick}, all(80, 80, 80, 80)},
		{[]func(q *question){wide, columns, badStick}, all(80, 80, 80, 80)},
		{[]func(q *question){badPattern, open, many}, all(80, 80, 80, 80)},
		{[]func(q *question){wide, badGauge}, all(80, 80, 80, 80)},
		{[]func(q *question){badScreen, open, badGauge, badStick}, all(81, 81, 81, 81)},
		{[]func(q *question){columns, badGauge}, all(81, 81, 81, 81)},
		{[]func(q *question){open, badGauge, badStick}, all(8, 8, 8, 8)},
		{[]func(q *question){many, open, badStick}, all(8, 8, 8, 8)},
		{[]func(q *question){badGauge, badStick}, all(0, 82, 82, 82)},
		{[]func(q *question){many, badGauge, badStick}, all(0, 82, 82, 82)},
		{[]func(q *question){many, badStick}, all(0, 0, 4, 4)},
		{[]func(q *question){many}, all(0, 0, 4, 4)},
		{[]func(q *question){badStick}, all(0, 0, 0, 71)},
	} {
		q := usual()
		for _, change := range x.changes {
			change(&q)
		}
		if a := ask(q); a.errors() != x.want || !a.bare() {
			t.Error(i, a)
		}
	}
}

// roomy is a slice with something behind its end, and all of it.
func roomy[T any](list []T, behind T) (short, whole []T) {
	whole = append(slices.Clone(list), behind, behind)
	return whole[:len(list)], whole
}

// TestArgumentsStay looks for arguments that were written to, also behind their ends (R3).
func TestArgumentsStay(t *testing.T) {
	r := chance(7)
	for i := range 200 {
		q := anyQuestion(r)
		switch i {
		case 0:
			q = usual()
		case 1:
			q = plainQuestion()
		case 2:
			q.pattern.Wide = 9
		case 3:
			q.gauge.Split = 0
		}
		var over []bool
		var sticks []api.Stick
		q.pattern.Over, over = roomy(q.pattern.Over, i%2 == 0)
		q.sticks, sticks = roomy(q.sticks, stick(777, 3))
		same, sameOver, sameSticks := q, slices.Clone(over), slices.Clone(sticks)
		ask(q)
		if !reflect.DeepEqual(q, same) || !slices.Equal(over, sameOver) || !slices.Equal(sticks, sameSticks) {
			t.Error(q, over, sticks)
		}
	}
}

// spoil writes all over a list, up to its capacity.
func spoil[T any](list []T, with T) {
	list = list[:cap(list)]
	for i := range list {
		list[i] = with
	}
}

// TestResultsAreNew writes over results, and looks at the arguments, at other results, and at what is told again (R3).
func TestResultsAreNew(t *testing.T) {
	q, same := usual(), usual()
	want, a, b := ask(q), ask(q), ask(q)
	spoil(a.loose, -7)
	spoil(a.falls, -7)
	spoil(a.lengths, -7)
	spoil(a.bundles, api.Member{Length: -7})
	spoil(a.plan, -7)
	if !reflect.DeepEqual(q, same) {
		t.Error("an argument was spoilt", q)
	}
	if again := ask(q); !reflect.DeepEqual(again, want) || !reflect.DeepEqual(b, want) {
		t.Error("a call remembers another one", again, b, want)
	}
}

// TestNoCallRemembers asks for many things in two orders, and at the same time (R3).
func TestNoCallRemembers(t *testing.T) {
	r := chance(8)
	questions := []question{usual(), plainQuestion()}
	for range 100 {
		questions = append(questions, anyQuestion(r))
	}
	want := make([]answer, len(questions))
	for i, q := range questions {
		want[i] = ask(q)
	}
	for i, q := range slices.Backward(questions) {
		if a := ask(q); !reflect.DeepEqual(a, want[i]) {
			t.Error(q, a, want[i])
		}
	}
	got := make([]answer, len(questions))
	var all sync.WaitGroup
	for i, q := range questions {
		all.Go(func() { got[i] = ask(q) })
	}
	all.Wait()
	if !reflect.DeepEqual(got, want) {
		t.Error("calls at the same time disturb each other")
	}
}

// TestNilIsEmpty gives the calls nil lists and empty ones (R4).
func TestNilIsEmpty(t *testing.T) {
	for _, x := range []struct {
		toNil, toEmpty func(q *question)
		want           api.Errno
	}{
		{func(q *question) { q.pattern.Over = nil }, func(q *question) { q.pattern.Over = []bool{} }, api.ErrPattern},
		{func(q *question) { q.sticks = nil }, func(q *question) { q.sticks = []api.Stick{} }, api.OK},
	} {
		one, same := usual(), usual()
		x.toNil(&one)
		x.toEmpty(&same)
		a, b := ask(one), ask(same)
		if !reflect.DeepEqual(a, b) || a.madeE != x.want {
			t.Error(a, b)
		}
	}
}

// TestAnyValue has values that nobody would weave: they count as valid (R6).
func TestAnyValue(t *testing.T) {
	// A basket of one upright strip, and one of one level strip.
	wantLengths(t, pattern("u", "o"), round(1, 2), example(), 22, 15, 15)
	wantLengths(t, pattern("ou"), round(2, 1), example(), 10, 10, 29)
	// A bow that is longer than the pitch, and a lap that is longer than the screen.
	wantLengths(t, plain(), round(2, 2), api.Gauge{Pitch: 1, Bow: 100, Lap: 1000, Split: 1}, 102, 102, 1202, 1202)
	// Sticks of one trunk that could not be sawn of it, and more of them than there are bundles.
	wantMade(t, plain(), flat(2, 2), example(), slices.Repeat([]api.Stick{{Trunk: 5, Length: 20000, Grade: 3}}, 16), 100, -1, -1)
	// Members that are shorter than any stick.
	wantMade(t, pattern("o"), flat(1, 1), api.Gauge{Pitch: 1, Split: 2, Buy: 100}, []api.Stick{stick(101, 0), stick(100, 0)}, 99, 1)
}

// odd are numbers at the ends of ranges, and others far from them.
func odd() []int {
	return []int{math.MinInt, math.MinInt + 1, -1 << 32, -2, -1, 0, 1, 2, 3, 4, 5, 8, 9, 12, 13, 24, 25, 99, 100, 101, 500, 501, 1000, 1001, 20000, 20001, 1000000, 1000001, 1 << 32, math.MaxInt/2 + 1, math.MaxInt - 1, math.MaxInt}
}

// numbersOf are the numbers of a question, those of one of its sticks among them.
func numbersOf(r *rand.Rand, q *question) []*int {
	l := &q.sticks[r.IntN(len(q.sticks))]
	return []*int{
		&q.pattern.Wide, &q.screen.Columns, &q.screen.Rows,
		&q.gauge.Pitch, &q.gauge.Bow, &q.gauge.Lap, &q.gauge.Split, &q.gauge.Grade, &q.gauge.Buy,
		&l.Trunk, &l.Length, &l.Grade,
	}
}

// TestOddArguments gives the calls numbers and lists of all kinds: each call ends, without a panic, and all of them agree on what is valid (R5, R7).
func TestOddArguments(t *testing.T) {
	r := chance(9)
	numbers := odd()
	met := map[api.Errno]int{}
	for range 20000 {
		q := usual()
		for range r.IntN(4) {
			all := numbersOf(r, &q)
			*all[r.IntN(len(all))] = numbers[r.IntN(len(numbers))]
		}
		q.screen.Round = r.IntN(2) == 0
		if r.IntN(8) == 0 {
			q.pattern.Over = make([]bool, r.IntN(70))
		}
		if r.IntN(8) == 0 {
			q.sticks = slices.Repeat(q.sticks, r.IntN(6))
		}
		a := ask(q)
		if a.floatE != a.check || a.looseE != a.check || a.fallsE != a.check || a.check != api.OK && a.lengthsE != a.check || !a.bare() {
			t.Fatal(q, a)
		}
		if a.lengthsE != api.OK && a.bundlesE != a.lengthsE || a.bundlesE != api.OK && a.madeE != a.bundlesE || len(a.plan) != len(a.bundles) && a.madeE == api.OK {
			t.Fatal(q, a)
		}
		met[a.madeE]++
	}
	for _, e := range []api.Errno{api.OK, api.ErrPattern, api.ErrScreen, api.ErrBad, api.ErrGauge, api.ErrMany, api.ErrSticks} {
		if met[e] < 100 {
			t.Error("one kind of answer was hardly met", e, met[e])
		}
	}
}
