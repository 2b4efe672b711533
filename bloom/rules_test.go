package bloom_test

import (
	"math"
	"reflect"
	"slices"
	"sync"
	"testing"

	"canebrake/api"
	"canebrake/bloom"
)

// answer is all that the calls of the package return for the same arguments.
type answer struct {
	check  api.Errno
	ages   []int
	agesE  api.Errno
	years  []api.Span
	yearsE api.Errno
	lives  []api.Life
	livesE api.Errno
	liars  []int
	liarsE api.Errno
	seed   int
	seedE  api.Errno
}

func ask(l []api.Genet, s []api.Tale, kind, id, year int) answer {
	var a answer
	a.check = bloom.Check(l, s)
	a.ages, a.agesE = bloom.Ages(l, s, kind)
	a.years, a.yearsE = bloom.Years(l, s, id)
	a.lives, a.livesE = bloom.Truth(l, s, id, year)
	a.liars, a.liarsE = bloom.Liars(l, s)
	a.seed, a.seedE = bloom.Store(l, s, year)
	return a
}

// TestErrorsInOrder gives calls arguments with several faults (R1), and looks at what stands beside an error (R2).
func TestErrorsInOrder(t *testing.T) {
	badGenets, badTales := example(), told()
	badGenets[1].Born = span(5, 4)
	badTales[1].Kind = 5
	lies := told(gone(13, 3, 1890))
	never := []api.Genet{{Id: 1, Mother: api.NoMother}, {Id: 2, Mother: 1}}
	for i, x := range []struct {
		l              []api.Genet
		s              []api.Tale
		kind, id, year int
		want           [6]api.Errno // of Check, Ages, Years, Truth, Liars and Store
	}{
		{badGenets, badTales, -1, -1, -1, [6]api.Errno{20, 20, 20, 20, 20, 20}},
		{badGenets, lies, 4, 1, 1850, [6]api.Errno{20, 20, 20, 20, 20, 20}},
		{example(), badTales, -1, -1, -1, [6]api.Errno{21, 21, 21, 21, 21, 21}},
		{never, badTales, 4, 1, 1850, [6]api.Errno{21, 21, 21, 21, 21, 21}},
		{example(), lies, -1, -1, -1, [6]api.Errno{0, api.ErrArg, api.ErrNone, api.ErrNone, 0, api.ErrArg}},
		{example(), lies, 10, 4, 3151, [6]api.Errno{0, api.ErrArg, api.ErrNone, api.ErrNone, 0, api.ErrArg}},
		{example(), lies, 4, 1, 1850, [6]api.Errno{0, api.ErrFalse, api.ErrFalse, api.ErrFalse, 0, api.ErrFalse}},
		// Another kind is as false.
		{example(), lies, 0, 1, 0, [6]api.Errno{0, api.ErrFalse, api.ErrFalse, api.ErrFalse, 0, api.ErrFalse}},
		{never, nil, -1, -1, -1, [6]api.Errno{0, api.ErrArg, api.ErrNone, api.ErrNone, api.ErrFalse, api.ErrArg}},
		{never, nil, 4, 1, 50, [6]api.Errno{0, api.ErrFalse, api.ErrFalse, api.ErrFalse, api.ErrFalse, api.ErrFalse}},
		{example(), told(), 4, 1, 1849, [6]api.Errno{0, 0, 0, api.ErrFalse, 0, 0}},
		{example(), told(), 4, 1, 3151, [6]api.Errno{0, 0, 0, api.ErrFalse, 0, api.ErrArg}},
		{example(), told(), 4, 1, 1850, [6]api.Errno{}},
	} {
		a := ask(x.l, x.s, x.kind, x.id, x.year)
		if got := [6]api.Errno{a.check, a.agesE, a.yearsE, a.livesE, a.liarsE, a.seedE}; got != x.want {
			t.Error(i, got)
		}
		if !bare(a) {
			t.Error(i, a)
		}
	}
}

// bare tells whether there is nothing beside errors.
func bare(a answer) bool {
	return (a.agesE == api.OK || len(a.ages) == 0) &&
		(a.yearsE == api.OK || len(a.years) == 0) &&
		(a.livesE == api.OK || len(a.lives) == 0) &&
		(a.liarsE == api.OK || len(a.liars) == 0) &&
		(a.seedE == api.OK || a.seed == 0)
}

// roomy is a slice with something behind its end, and that something.
func roomy[T any](list []T, behind T) (short, whole []T) {
	whole = append(slices.Clone(list), behind, behind)
	return whole[:len(list)], whole
}

// TestArgumentsStay looks for arguments that were written to, also behind their ends (R3).
func TestArgumentsStay(t *testing.T) {
	other, tale := api.Genet{Id: 77}, api.Tale{Id: 77}
	for _, s := range [][]api.Tale{told(), told(gone(13, 3, 1890))} {
		l, wholeL := roomy(example(), other)
		short, wholeS := roomy(s, tale)
		ask(l, short, 4, 2, 1896)
		if !slices.Equal(wholeL, append(example(), other, other)) || !slices.Equal(wholeS, append(slices.Clone(s), tale, tale)) {
			t.Error(wholeL, wholeS)
		}
	}
}

// spoil writes all over a list, up to its capacity.
func spoil[T any](list []T, with T) {
	list = list[:cap(list)]
	for i := range list {
		list[i] = with
	}
}

// TestResultsAreNew writes over results, and asks again (R3).
func TestResultsAreNew(t *testing.T) {
	l, s := example(), told()
	lies := told(gone(13, 3, 1890))
	askBoth := func() [2]answer { return [2]answer{ask(l, s, 4, 2, 1896), ask(l, lies, 0, 1, 1850)} }
	first, want := askBoth(), askBoth()
	for _, a := range first {
		spoil(a.ages, -7)
		spoil(a.years, span(-7, -7))
		spoil(a.lives, api.Life{Genet: -7})
		spoil(a.liars, -7)
	}
	if !slices.Equal(l, example()) || !slices.Equal(s, told()) || !slices.Equal(lies, told(gone(13, 3, 1890))) {
		t.Error("an argument was spoilt", l, s, lies)
	}
	if again := askBoth(); !reflect.DeepEqual(again, want) {
		t.Error("a call remembers another one")
	}
}

// TestNoCallRemembers asks for many things in two orders, and at the same time (R3).
func TestNoCallRemembers(t *testing.T) {
	r := chance(8)
	var genets [][]api.Genet
	var tales [][]api.Tale
	for range 60 {
		l, s := anyAccount(r, rough{kinds: []int{0, 4}, genets: 6, far: 4, tales: 5, lie: 4})
		genets, tales = append(genets, l), append(tales, s)
	}
	askOf := func(i int) answer { return ask(genets[i], tales[i], 4, i%7, 50+i) }
	want := make([]answer, len(genets))
	for i := range genets {
		want[i] = askOf(i)
	}
	for i := range slices.Backward(genets) {
		if a := askOf(i); !reflect.DeepEqual(a, want[i]) {
			t.Error(i, a, want[i])
		}
	}
	got := make([]answer, len(genets))
	var all sync.WaitGroup
	for i := range genets {
		all.Go(func() { got[i] = askOf(i) })
	}
	all.Wait()
	if !reflect.DeepEqual(got, want) {
		t.Error("calls at the same time disturb each other")
	}
}

// TestNilIsEmpty gives the calls nil lists and empty ones (R4).
func TestNilIsEmpty(t *testing.T) {
	for _, l := range [][]api.Genet{nil, example()} {
		if a, b := ask(l, nil, 4, 2, 1896), ask(append([]api.Genet{}, l...), []api.Tale{}, 4, 2, 1896); !reflect.DeepEqual(a, b) || a.check != api.OK {
			t.Error(a, b)
		}
	}
}

// TestAnyValue has values that nobody would write down: they count as valid (R6).
func TestAnyValue(t *testing.T) {
	// A daughter that is born before her mother, a clone that flowered before it grew, and a kind that no genet has.
	l := []api.Genet{{Mother: api.NoMother, Born: span(3000, 3000)}, {Id: 9, Mother: 0, Born: span(0, 0)}}
	s := []api.Tale{bloomed(0, 0, 0, 0), aged(2, 3, 3000, 3000)}
	if a := ask(l, s, 3, 9, 0); a.check != api.OK || a.agesE != api.ErrFalse || a.yearsE != api.ErrFalse || a.livesE != api.ErrFalse || a.liarsE != api.ErrFalse || a.seedE != api.ErrFalse {
		t.Error(a)
	}
	if a := ask(l[:1], s, 3, 0, 0); a.check != api.OK || a.liarsE != api.OK || !slices.Equal(a.liars, []int{0, 2}) {
		t.Error(a)
	}
}

// TestOddArguments gives the calls numbers and lists of all kinds: each call ends, without a panic, and all of them agree on what is valid (R5, R7).
func TestOddArguments(t *testing.T) {
	r := chance(9)
	odd := []int{math.MinInt, math.MinInt + 1, -1 << 32, -2, -1, 0, 1, 2, 3, 4, 9, 10, 11, 12, 150, 151, 1850, 3000, 3001, 3150, 3151, 9999, 10000, 1 << 32, math.MaxInt - 1, math.MaxInt}
	number := func() int { return odd[r.IntN(len(odd))] }
	for range 20000 {
		l, s := example(), told(gone(13, 2, 1900), aged(14, 4, 30, 60))
		for range r.IntN(3) {
			g, x := &l[r.IntN(len(l))], &s[r.IntN(len(s))]
			numbers := []*int{&g.Id, &g.Kind, &g.Mother, &g.Born.Lo, &g.Born.Hi, &g.Seed, &x.Id, &x.Of, &x.From, &x.To}
			*numbers[r.IntN(len(numbers))] = number()
			if r.IntN(9) == 0 {
				x.Kind = uint8(number())
			}
		}
		for range r.IntN(12) * r.IntN(2) {
			l = append(l, api.Genet{Id: l[len(l)-1].Id + 1, Kind: 4, Mother: 1 - r.IntN(3), Born: span(0, 3000)})
		}
		a := ask(l, s, number(), number(), number())
		for _, e := range []api.Errno{a.agesE, a.yearsE, a.livesE, a.liarsE, a.seedE} {
			if a.check != api.OK && e != a.check || a.check == api.OK && (e == api.ErrGenets || e == api.ErrTales) {
				t.Fatal(l, s, a)
			}
		}
		if !bare(a) {
			t.Fatal(l, s, a)
		}
	}
}

// TestWorst has as many genets and tales as there may be, which contradict each other as much as they can (R7: the call ends).
func TestWorst(t *testing.T) {
	l := line(api.MaxGenets, 4, span(0, 3000))
	var s []api.Tale
	for id := range api.MaxTales {
		s = append(s, bloomed(id, 11, 2000+100*id, 2000+100*id))
	}
	if liars, e := bloom.Liars(l, s); e != api.OK || !slices.Equal(liars, numbers(0, 8)) {
		t.Error(liars, e)
	}
	if _, e := bloom.Years(l, s, 11); e != api.ErrFalse {
		t.Error(e)
	}
}
