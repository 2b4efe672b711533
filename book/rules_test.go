package book_test

import (
	"cmp"
	"fmt"
	"math/rand/v2"
	"reflect"
	"slices"
	"strings"
	"sync"
	"testing"
	"unsafe"

	"canebrake/api"
	"canebrake/book"
)

// question is arguments for all calls of the package.
type question struct {
	v    api.Valley
	do   api.Entry
	log  []api.Entry
	pole int
	text string
}

// answer is all that the calls return.
type answer struct {
	check   api.Errno
	next    api.Valley
	said    string
	doE     api.Errno
	last    api.Valley
	at      int
	why     string
	replayE api.Errno
	told    api.Told
	tellE   api.Errno
	text    string
	writeE  api.Errno
	read    []api.Entry
	line    int
	readE   api.Errno
}

func ask(q question) answer {
	var a answer
	a.check = book.Check(q.v)
	a.next, a.said, a.doE = book.Do(q.v, q.do.Word, q.do.Args)
	a.last, a.at, a.why, a.replayE = book.Replay(q.v, q.log)
	a.told, a.tellE = book.Tell(q.v, q.pole)
	a.text, a.writeE = book.WriteLog(q.log)
	a.read, a.line, a.readE = book.ReadLog(q.text)
	return a
}

func (a answer) errors() [6]api.Errno {
	return [6]api.Errno{a.check, a.doE, a.replayE, a.tellE, a.writeE, a.readE}
}

// bare tells whether there is nothing beside errors, but what the chapter says of them.
func (a answer) bare() bool {
	empty := shown(api.Valley{})
	return (a.doE == api.OK || shown(a.next) == empty) && (a.doE == api.ErrDoubt) == (a.said != "") &&
		(a.replayE == api.OK || shown(a.last) == empty) && (a.replayE == api.ErrDoubt) == (a.why != "") && (a.replayE != api.OK && a.replayE != api.ErrValley || a.at == 0) &&
		(a.tellE == api.OK || a.told == api.Told{}) && (a.writeE == api.OK) == (a.text != "") &&
		(a.readE == api.OK || len(a.read) == 0) && (a.readE == api.ErrRow || a.readE == api.ErrEnd) == (a.line > 0)
}

// usual asks for something to be done, and to be told, by each call.
func usual() question {
	return question{usualValley(), entry("SEASON 3 4 5"), entries("PROP 30 2 1 -1 2 2", "SHUT", "TAKE 20"), 10, "USE\nTAKE 3\nEND 2 3644\n"}
}

// usualValley has something of everything.
func usualValley() api.Valley {
	v := valley()
	for _, line := range append(slices.Clip(open), "TEST 5 10 0 60000 1", "KNOT 0 0") {
		v, _, _ = do(v, line)
	}
	return v
}

// TestUsual looks at what is told of the usual question.
func TestUsual(t *testing.T) {
	a := ask(usual())
	if a.errors() != [6]api.Errno{} || !a.bare() || a.at != 0 || a.line != 0 {
		t.Error(shown(a))
	}
	if n := len(a.next.Log); n != 10 || shown(a.next.Log[9]) != "{Word:SEASON Args:[3 4 5]}" || len(a.next.Groves[0].Seasons) != 2 || !a.next.Open {
		t.Error(shown(a.next))
	}
	if n := len(a.last.Log); n != 12 || len(a.last.Frame.Props) != 2 || a.last.Open {
		t.Error(shown(a.last))
	}
	if want := (api.Told{Grade: 1, Trace: 2, Fit: 2, Strong: [3]api.Span{span(60002, 162000), span(54000, 162000), span(54000, 162000)}, Used: true}); a.told != want {
		t.Error(a.told)
	}
	if a.text != ended("PROP 30 2 1 -1 2 2\nSHUT\nTAKE 20\n") || shown(a.read) != shown(entries("USE", "TAKE 3")) {
		t.Error(a.text, a.read)
	}
}

// TestErrorsInOrder gives calls arguments with several faults (R1), and looks at what stands beside an error (R2).
func TestErrorsInOrder(t *testing.T) {
	badValley := func(q *question) { q.v.Soaks[0].Hours = 301 }
	full := func(q *question) { q.v.Log = slices.Repeat(entries("USE"), 150) }
	noPole := func(q *question) { q.pole = 11 }
	badText := func(q *question) { q.text = "USE\nTAKE 03\nEND 2 3644\n" }
	badEnd := func(q *question) { q.text = "USE\nEND 2 3796\n" }
	longText := func(q *question) { q.text = strings.Repeat("x", 9001) }
	longLog := func(q *question) { q.log = slices.Repeat(entries("POLE"+strings.Repeat(" -1000000000000", 12)), 50) }
	manyEntries := func(q *question) { q.log = slices.Repeat(entries("SOAK 9 0 0 0 0 0 0"), 151) }
	badEntry := func(q *question) { q.log[0].Args[2] = api.MaxSaid + 1 }
	lines := func(do string, log ...string) func(q *question) {
		return func(q *question) { q.do, q.log = entry(do), entries(log...) }
	}
	type changes = []func(q *question)
	for i, x := range []struct {
		changes changes
		want    [6]api.Errno
	}{
		{nil, [6]api.Errno{}},
		{changes{badValley, noPole, badText, lines("use 1", "use 1")}, [6]api.Errno{110, 110, 110, 110, 2, 113}},
		{changes{badValley, noPole, full, badEnd, badEntry}, [6]api.Errno{110, 110, 110, 110, 2, 114}},
		{changes{noPole, full, longText, lines("use 1000000000001", "use 1000000000001")}, [6]api.Errno{0, 111, 111, 6, 2, 9}},
		{changes{full, lines("TAKE 1000000000001", "TAKE -1000000000001")}, [6]api.Errno{0, 2, 2, 0, 2, 0}},
		{changes{full, lines("TAKE 11", "SEASON 4 31 31")}, [6]api.Errno{0, 9, 9, 0, 0, 0}},
		{changes{longLog}, [6]api.Errno{0, 0, 8, 0, 9, 0}},
		{changes{manyEntries}, [6]api.Errno{0, 0, 8, 0, 2, 0}},
		{changes{badEntry}, [6]api.Errno{0, 0, 2, 0, 2, 0}},
		{changes{lines("SEASON 4 31 31", "SEASON 3 31 31")}, [6]api.Errno{0, 6, 8, 0, 0, 0}},
		{changes{lines("SEASON 3 0 10", "SEASON 3 0 9")}, [6]api.Errno{0, 112, 112, 0, 0, 0}},
		{changes{lines("POLE 10 4 101 97 100 100 100 10 10 10 0 0", "POLE 11 4 101 97 100 100 100 10 10 10 0 0")}, [6]api.Errno{0, 8, 112, 0, 0, 0}},
		{changes{lines("TEST 5 20 0 162001 1", "TEST 6 20 0 162001 2")}, [6]api.Errno{0, 8, 8, 0, 0, 0}},
		{changes{lines("KNOT 2 1", "KNOT 1 2")}, [6]api.Errno{0, 8, 112, 0, 0, 0}},
		{changes{lines("PROP 10 0 0 -1 1 300", "PROP 10 0 0 -1 1 1")}, [6]api.Errno{0, 8, 8, 0, 0, 0}},
		{changes{lines("TAKE 11", "TAKE 30")}, [6]api.Errno{0, 6, 8, 0, 0, 0}},
		{changes{lines("USE", "TAKE 10", "USE", "TAKE 20")}, [6]api.Errno{0, 8, 8, 0, 0, 0}},
		{changes{lines("SHUT", "TAKE 10", "TAKE 20", "USE")}, [6]api.Errno{0, 0, 112, 0, 0, 0}},
	} {
		q := usual()
		for _, change := range x.changes {
			change(&q)
		}
		if a := ask(q); a.errors() != x.want || !a.bare() {
			t.Error(i, a.errors(), shown(a))
		}
	}
}

// TestFullListsFirst has lists that are full, and commands with other faults (R1).
func TestFullListsFirst(t *testing.T) {
	v := crowd(t)
	for range 5 {
		v = after(t, v, vat)
	}
	for i := range 20 {
		v = after(t, v, fmt.Sprint("TEST ", i, " 1 0 60000 1"), fmt.Sprint("PROP ", 1+i/3, " ", i%3, " 0 -1 1 3"))
	}
	for range 9 {
		v = after(t, v, "KNOT 0 0")
	}
	for _, v := range []api.Valley{v, after(t, v, "USE")} {
		wantRefused(t, v, api.ErrFull, "SOAK 9 0 0 0 0 0 0", "POLE 1 7 0 9 0 0 0 0 0 0 9 9", "TEST 0 77 3 0 2", "KNOT 2 1", "KNOT 0 1", "PROP 77 3 9 9 0 300", "PROP 1 0 0 -1 1 1")
		wantRefused(t, v, api.ErrWord, "SOAK 9 0 0 0 0 0", "POLE 1", "KNOT 0", "PROP")
		wantRefused(t, v, api.ErrArg, "KNOT 0 1000000000001", "PROP 77 3 9 9 0 -1000000000001")
	}
}

// place is where a list or a word is in memory: from which byte on, and before which one.
type place [2]uintptr

// memory are the places of all lists of something, up to their capacities, and of the words of entries. (What is said may be a constant, which nobody can write to.)
func memory(x reflect.Value) []place {
	var all []place
	add := func(at, size uintptr) {
		if size > 0 {
			all = append(all, place{at, at + size})
		}
	}
	switch x.Kind() {
	case reflect.Slice:
		add(x.Pointer(), uintptr(x.Cap())*x.Type().Elem().Size())
		for i := range x.Len() {
			all = append(all, memory(x.Index(i))...)
		}
	case reflect.Struct:
		if x.Type() == reflect.TypeFor[api.Entry]() {
			word := x.FieldByName("Word").String()
			add(uintptr(unsafe.Pointer(unsafe.StringData(word))), uintptr(len(word)))
		}
		for i := range x.NumField() {
			all = append(all, memory(x.Field(i))...)
		}
	}
	return all
}

// shares tells whether any two of some places have something in common.
func shares(places []place) bool {
	slices.SortFunc(places, func(a, b place) int { return cmp.Compare(a[0], b[0]) })
	for i, x := range places[min(1, len(places)):] {
		if x[0] < places[i][1] {
			return true
		}
	}
	return false
}

// meet tells whether any of some places has something in common with any of others.
func meet(some, others []place) bool {
	return slices.ContainsFunc(some, func(a place) bool {
		return slices.ContainsFunc(others, func(b place) bool { return a[0] < b[1] && b[0] < a[1] })
	})
}

// roomy is a slice with something behind its end, and all of it.
func roomy[T interface{ ~[]E }, E any](list *T, behind E) T {
	whole := append(slices.Clone(*list), behind, behind, behind, behind)
	*list = whole[:len(*list)]
	return whole
}

// withRoom gives all lists of a question something behind their ends, and returns all of them.
func withRoom(q question) (question, []any) {
	q.v = copied(q.v)
	var all []any
	keep := func(whole any) { all = append(all, whole) }
	v, f := &q.v, &q.v.Frame
	for i := range v.Groves {
		keep(roomy(&v.Groves[i].Start, 77))
		keep(roomy(&v.Groves[i].Seasons, api.Season{Shots: 77}))
	}
	for i := range v.Soaks {
		b := &v.Soaks[i].Batch
		for k := range b.Poles {
			keep(roomy(&b.Poles[k], 77))
		}
		keep(roomy(&b.Poles, []int{77}))
	}
	for i := range v.Log {
		keep(roomy(&v.Log[i].Args, 77))
	}
	keep(roomy(&v.Groves, api.Grove{Id: 77}))
	keep(roomy(&v.Soaks, api.Soak{Hours: 77}))
	keep(roomy(&v.Log, api.Entry{Word: "77"}))
	keep(roomy(&f.Sheet.Poles, api.Pole{Id: 77}))
	keep(roomy(&f.Sheet.Tests, api.Test{Id: 77}))
	keep(roomy(&f.Grading.Grades, api.Grade{Age: 77}))
	keep(roomy(&f.Knots, span(77, 77)))
	keep(roomy(&f.Props, api.Prop{Pole: 77}))
	q.log = slices.Clone(q.log)
	for i := range q.log {
		keep(roomy(&q.log[i].Args, 77))
	}
	keep(roomy(&q.log, api.Entry{Word: "77"}))
	keep(roomy(&q.do.Args, 77))
	return q, all
}

// everyCommand has at least one command for each word that is done in the usual valley, and ones that are refused at last.
func everyCommand() []api.Entry {
	return entries("SEASON 3 4 5", "SEASON 3 4 10", "SEASON 3 0 9", vat, "SOAK 10 0 1 1 1 301 1", "POLE 0 3 101 97 100 100 100 10 10 10 0 0", "TAKE 10", "TAKE 30", "TEST 0 10 0 60000 1", "TEST 9 10 0 60000 1", "TEST 6 10 0 60000 0",
		"KNOT 0 0", "KNOT 1 1", "PROP 30 0 0 -1 1 3", "PROP 30 0 0 -1 9 1", "SHUT", "USE")
}

// manyQuestions are the usual one with other commands, and others of lives.
func manyQuestions(t *testing.T, seed uint64) []question {
	var all []question
	for _, x := range everyCommand() {
		q := usual()
		q.do = x
		all = append(all, q)
		q.v, _, _ = do(q.v, "SHUT")
		q.log = []api.Entry{x, entry("USE"), entry("SEASON 3 4 5")}
		all = append(all, q)
	}
	r := chance(seed)
	for range 40 {
		var lived []api.Entry
		l := live(t, r, 30, func(_ *life, x step) { lived = append(lived, x.do) })
		q := question{v: l.Valley, do: l.anyCommand(r), pole: r.IntN(40), log: l.Log, text: ended(linesOf(l.Log))}
		all = append(all, q)
		q.v, q.log = anyStart(l), lived
		all = append(all, q)
	}
	return all
}

// TestArgumentsStay looks for arguments that were written to, also behind their ends (R3).
func TestArgumentsStay(t *testing.T) {
	for _, from := range manyQuestions(t, 10) {
		q, all := withRoom(from)
		was, behind := shown(q), shown(all)
		a := ask(q)
		if shown(q) != was || shown(all) != behind {
			t.Error(shown(q), shown(all), "was", was, behind)
		}
		if !a.bare() {
			t.Error(shown(a))
		}
	}
}

// TestResultsAreNew looks for memory that results share with arguments, with each other, or within themselves (R3).
func TestResultsAreNew(t *testing.T) {
	met := tally{}
	for _, q := range manyQuestions(t, 11) {
		// Lists of the arguments may share their memory with each other.
		q.text, q.do.Word = strings.Clone(q.text), strings.Clone(q.do.Word)
		a, b := ask(q), ask(q)
		results := slices.Concat(memory(reflect.ValueOf(a)), memory(reflect.ValueOf(b)))
		text := uintptr(unsafe.Pointer(unsafe.StringData(q.text)))
		arguments := append(memory(reflect.ValueOf(q)), place{text, text + uintptr(len(q.text))})
		if meet(results, arguments) {
			t.Fatal("a result shares memory with an argument", shown(q.do), shown(q.log))
		}
		if shares(results) {
			t.Fatal("results share memory", shown(q.do), shown(q.log))
		}
		met[fmt.Sprint("do ", int(a.doE))]++
		met[fmt.Sprint("replay ", int(a.replayE))]++
	}
	met.want(t, 10, "do 0", "do 112", "replay 0", "replay 112")
}

// TestSharedArguments has a valley whose lists are the same ones: after a command each has its own (R3).
func TestSharedArguments(t *testing.T) {
	v := usualValley()
	other := v.Groves[0]
	other.Id = 4
	v.Groves = append(v.Groves, other)
	v.Soaks = append(v.Soaks, v.Soaks[0])
	cells := []int{0, 0, 0, 0, 0, 0}
	v.Soaks = append(v.Soaks, api.Soak{Batch: api.Batch{Water: 10, Poles: [][]int{cells, cells, cells[:3]}, Spread: span(1, 1), Need: 1}})
	args := []int{3, 4, 5}
	v.Log = []api.Entry{command("SEASON", args...), {Word: "SEASON", Args: args}, {Word: "KNOT", Args: args[1:]}}
	for _, x := range everyCommand() {
		next, _, e := book.Do(v, x.Word, x.Args)
		if e == api.OK && shares(memory(reflect.ValueOf(next))) {
			t.Error(shown(x), "leaves lists that share memory")
		}
	}
	next, _, _, e := book.Replay(v, []api.Entry{command("SEASON", args...), {Word: "KNOT", Args: []int{0, 0}}})
	if e != api.OK || shares(memory(reflect.ValueOf(next))) {
		t.Error(e)
	}
	next, _, _, e = book.Replay(v, nil)
	if e != api.OK || shares(memory(reflect.ValueOf(next))) || shown(next) != shown(v) {
		t.Error(e)
	}
	// A season more of one grove is not one of the other.
	next = after(t, v, "SEASON 4 4 5")
	if len(next.Groves[0].Seasons) != 1 || len(next.Groves[1].Seasons) != 2 {
		t.Error(shown(next.Groves))
	}
}

// TestNoCallRemembers asks for many things in two orders, and at the same time (R3).
func TestNoCallRemembers(t *testing.T) {
	questions := manyQuestions(t, 12)
	want := make([]string, len(questions))
	for i, q := range questions {
		want[i] = shown(ask(q))
	}
	for i, q := range slices.Backward(questions) {
		if a := shown(ask(q)); a != want[i] {
			t.Error(shown(q), a, want[i])
		}
	}
	got := make([]string, len(questions))
	var all sync.WaitGroup
	for i, q := range questions {
		all.Go(func() { got[i] = shown(ask(q)) })
	}
	all.Wait()
	if !slices.Equal(got, want) {
		t.Error("calls at the same time disturb each other")
	}
}

// TestNilIsEmpty gives the calls nil lists and empty ones (R4).
func TestNilIsEmpty(t *testing.T) {
	for i, x := range []struct {
		toNil, toEmpty func(q *question)
		want           [6]api.Errno
	}{
		{func(q *question) { q.v.Groves = nil }, func(q *question) { q.v.Groves = []api.Grove{} }, [6]api.Errno{110, 110, 110, 110, 0, 0}},
		{func(q *question) { q.v.Groves[0].Start = nil }, func(q *question) { q.v.Groves[0].Start = []int{} }, [6]api.Errno{110, 110, 110, 110, 0, 0}},
		{func(q *question) { q.v.Groves[0].Seasons = nil }, func(q *question) { q.v.Groves[0].Seasons = []api.Season{} }, [6]api.Errno{110, 110, 110, 110, 0, 0}},
		{func(q *question) { q.v.Soaks = nil }, func(q *question) { q.v.Soaks = []api.Soak{} }, [6]api.Errno{110, 110, 110, 110, 0, 0}},
		{func(q *question) { q.v.Soaks[0].Batch.Poles = nil }, func(q *question) { q.v.Soaks[0].Batch.Poles = [][]int{} }, [6]api.Errno{110, 110, 110, 110, 0, 0}},
		{func(q *question) { q.v.Soaks[0].Batch.Poles[3] = nil }, func(q *question) { q.v.Soaks[0].Batch.Poles[3] = []int{} }, [6]api.Errno{110, 110, 110, 110, 0, 0}},
		{func(q *question) { q.v.Frame.Sheet.Tests = nil }, func(q *question) { q.v.Frame.Sheet.Tests = []api.Test{} }, [6]api.Errno{}},
		{func(q *question) { q.v.Frame.Grading.Grades = nil }, func(q *question) { q.v.Frame.Grading.Grades = []api.Grade{} }, [6]api.Errno{110, 110, 110, 110, 0, 0}},
		{func(q *question) { q.v.Frame.Knots = nil }, func(q *question) { q.v.Frame.Knots = []api.Span{} }, [6]api.Errno{110, 110, 110, 110, 0, 0}},
		{func(q *question) { q.v.Frame.Props, q.v.Open = nil, false }, func(q *question) { q.v.Frame.Props, q.v.Open = []api.Prop{}, false }, [6]api.Errno{0, 0, 8, 0, 0, 0}},
		{func(q *question) { q.v = valley(); q.pole = 1; q.log = nil }, func(q *question) {
			q.v = valley()
			q.v.Soaks, q.v.Frame.Sheet, q.v.Frame.Props, q.v.Log = []api.Soak{}, api.Sheet{Poles: []api.Pole{}, Tests: []api.Test{}}, []api.Prop{}, []api.Entry{}
			q.pole, q.log = 1, []api.Entry{}
		}, [6]api.Errno{0, 0, 0, 6, 0, 0}},
		{func(q *question) { q.v.Log = nil }, func(q *question) { q.v.Log = []api.Entry{} }, [6]api.Errno{}},
		{func(q *question) { q.v.Log[8].Args = nil }, func(q *question) { q.v.Log[8].Args = []int{} }, [6]api.Errno{110, 110, 110, 110, 0, 0}},
		{func(q *question) { q.v.Log[6] = command("SHUT") }, func(q *question) { q.v.Log[6] = command("SHUT", []int{}...) }, [6]api.Errno{}},
		{func(q *question) { q.do, q.log = api.Entry{Word: "SHUT"}, []api.Entry{{Word: "SHUT"}, {Word: "USE"}} }, func(q *question) {
			q.do, q.log = api.Entry{Word: "SHUT", Args: []int{}}, []api.Entry{{Word: "SHUT", Args: []int{}}, {Word: "USE", Args: []int{}}}
		}, [6]api.Errno{}},
		{func(q *question) { q.do.Args = nil }, func(q *question) { q.do.Args = []int{} }, [6]api.Errno{0, 111, 0, 0, 0, 0}},
		{func(q *question) { q.log = nil }, func(q *question) { q.log = []api.Entry{} }, [6]api.Errno{}},
	} {
		one, other := usual(), usual()
		x.toNil(&one)
		x.toEmpty(&other)
		a, b := ask(one), ask(other)
		if shown(a) != shown(b) || a.errors() != x.want || !a.bare() {
			t.Error(i, a.errors(), b.errors(), shown(a), shown(b))
		}
	}
}

// numbersIn are numbers of a question, of all parts.
func numbersIn(r *rand.Rand, q *question) []*int {
	v := &q.v
	g, s, f := &v.Groves[0], &v.Soaks[0], &v.Frame
	p, x, prop := &f.Sheet.Poles[r.IntN(3)], &f.Sheet.Tests[0], &f.Props[r.IntN(2)]
	l := &v.Log[r.IntN(6)]
	all := []*int{
		&g.Id, &g.First, &g.Habit.Ripe, &g.Habit.Dies, &g.Habit.Keep, &g.Start[r.IntN(5)], &g.Seasons[0].Cut, &g.Seasons[0].Shots,
		&s.Batch.Water, &s.Batch.Spread.Lo, &s.Batch.Need, &s.Hours, &s.Batch.Poles[3][r.IntN(6)],
		&p.Id, &p.Clone, &p.Cut, &p.Shot, &p.Walls[r.IntN(3)], &p.Girths[r.IntN(3)], &p.Soak, &p.Place,
		&x.Id, &x.Pole, &x.Section, &x.Force, &f.Grading.Vary, &f.Grading.Grades[0].Age, &f.Knots[0].Lo, &f.Knots[0].Hi, &f.Holds[2].Lo,
		&prop.Pole, &prop.Section, &prop.From, &prop.To, &prop.Share, &l.Args[0],
	}
	return append(all, &q.pole, &q.pole, &q.pole, &q.pole)
}

// spoilList makes a list of a question longer or shorter.
func spoilList(r *rand.Rand, q *question) {
	v := &q.v
	switch r.IntN(24) {
	case 0:
		v.Groves = append(v.Groves, make([]api.Grove, r.IntN(9))...)
	case 1:
		v.Groves[0].Start = v.Groves[0].Start[:r.IntN(6)]
	case 2:
		v.Groves[0].Seasons = append(v.Groves[0].Seasons, make([]api.Season, r.IntN(70))...)
	case 3:
		v.Soaks = slices.Repeat(v.Soaks, r.IntN(9))
	case 4:
		v.Soaks[0].Batch.Poles = v.Soaks[0].Batch.Poles[:r.IntN(5)]
	case 5:
		v.Frame.Knots = append(v.Frame.Knots, make([]api.Span, r.IntN(12))...)
	case 6:
		v.Frame.Props = v.Frame.Props[:r.IntN(3)]
	case 7:
		v.Frame.Sheet.Poles = v.Frame.Sheet.Poles[:r.IntN(4)]
	case 8:
		v.Log = slices.Repeat(v.Log, r.IntN(20))
	case 9:
		v.Log[r.IntN(9)].Word = one(r, "", "END", "SHUT", "take")
	case 10:
		v.Open = false
	case 12:
		v.Log = slices.Repeat(v.Log, 17)[:150]
	case 11:
		v.Frame.Props[0].Joint = uint8(r.IntN(256))
	}
}

// TestOddArguments gives the calls numbers, lists, words and texts of all kinds: each call ends, without a panic, and all of them agree on what is valid (R5, R7).
func TestOddArguments(t *testing.T) {
	r := chance(13)
	met := map[api.Errno]int{}
	l := &life{}
	for range 12000 {
		q := usual()
		for range r.IntN(3) {
			*one(r, numbersIn(r, &q)...) = one(r, odd()...)
		}
		spoilList(r, &q)
		if r.IntN(4) > 0 {
			q.do = l.wildCommand(r)
		}
		q.log = append(slices.Clip(q.log[:r.IntN(4)]), l.wildCommand(r), l.wildCommand(r))
		if r.IntN(2) == 0 {
			i := r.IntN(len(q.text))
			q.text = q.text[:i] + string([]byte{byte(r.IntN(256))}) + q.text[min(len(q.text), i+r.IntN(3)):]
		}
		a := ask(q)
		if !agree(a) || !a.bare() {
			t.Fatal(shown(q), shown(a))
		}
		for _, e := range a.errors() {
			met[e]++
		}
	}
	for _, e := range []api.Errno{api.OK, api.ErrArg, api.ErrNone, api.ErrBad, api.ErrFull, api.ErrValley, api.ErrWord, api.ErrDoubt, api.ErrRow, api.ErrEnd} {
		if met[e] < 50 {
			t.Error("one kind of answer was hardly met", e, met[e])
		}
	}
}

// agree tells whether calls agree on what is valid, and only return errors of their own.
func agree(a answer) bool {
	wrong := a.check == api.ErrValley
	if !wrong && a.check != api.OK || (a.doE == api.ErrValley) != wrong || (a.replayE == api.ErrValley) != wrong || (a.tellE == api.ErrValley) != wrong {
		return false
	}
	own := []api.Errno{api.OK, api.ErrArg, api.ErrNone, api.ErrBad, api.ErrFull, api.ErrValley, api.ErrWord, api.ErrDoubt}
	return slices.Contains(own, a.doE) && slices.Contains(own, a.replayE) &&
		slices.Contains([]api.Errno{api.OK, api.ErrNone, api.ErrValley}, a.tellE) &&
		slices.Contains([]api.Errno{api.OK, api.ErrArg, api.ErrFull}, a.writeE) &&
		slices.Contains([]api.Errno{api.OK, api.ErrRow, api.ErrEnd, api.ErrFull}, a.readE)
}

// greatest is a valley with the greatest number of everything, whose soaks take long to go through; its log has some entries.
func greatest(number int) api.Valley {
	g := api.Grove{Habit: api.Habit{Rate: span(0, 1000), Bears: 6, Ripe: 1, Dies: 6, Keep: 200}, First: 100, Start: slices.Repeat([]int{9}, 7), Seasons: slices.Repeat([]api.Season{{Shots: 30, Cut: 30}}, 60)}
	b := api.Batch{Water: 10000, Borax: 100000, Spread: span(1, 250), Need: 1000}
	// As the core of the last pole is never reached, all hours are gone through.
	full := []int{0, 0, 0, 0, 0, 1000}
	b.Poles = [][]int{full, full, full, make([]int, 6)}
	grades := slices.Repeat([]api.Grade{{Wall: 1, Stress: alike(100000, 200000)}}, 3)
	v := api.Valley{Frame: api.Frame{Grading: api.Grading{Grades: grades, Vary: 1000}, Knots: make([]api.Span, 10), Holds: [3]api.Span{span(0, 9000), span(9000, 9000), span(1000000, 1000000)}}}
	for i := range 6 {
		g.Id = i
		v.Groves, v.Soaks = append(v.Groves, g), append(v.Soaks, api.Soak{Batch: b, Hours: 300})
	}
	for id := range 12 {
		v.Frame.Sheet.Poles = append(v.Frame.Sheet.Poles, api.Pole{Id: id, Clone: id / 2, Cut: 101, Shot: 95, Girths: [3]int{300, 300, 300}, Walls: [3]int{60, 60, 60}, Soak: id / 2, Place: id % 3})
	}
	for id := range 20 {
		v.Frame.Sheet.Tests = append(v.Frame.Sheet.Tests, api.Test{Id: id, Pole: id % 12, Section: id % 3, Force: 1000000, Held: true})
		v.Frame.Props = append(v.Frame.Props, api.Prop{Pole: id % 12, Section: id / 12, From: id / 2, To: -1, Share: 9, Joint: 3})
	}
	for i := range v.Frame.Knots {
		v.Frame.Knots[i].Hi = 900000
	}
	v.Log = slices.Repeat(entries("POLE"+strings.Repeat(" -1000000000000", 12)), number)
	return v
}

// TestGreatest asks of the greatest valley, and does the most in it (R7).
func TestGreatest(t *testing.T) {
	q := question{v: greatest(149), do: entry("USE"), log: entries("USE"), pole: 11, text: ended(strings.Repeat("USE\n", 150))}
	a := ask(q)
	if a.errors() != [6]api.Errno{} || len(a.next.Log) != 150 || !a.next.Open || a.told.Fit != 2 || len(a.read) != 150 {
		t.Fatal(a.errors(), shown(a.told), a.said)
	}
	if book.Check(a.next) != api.OK {
		t.Error("it is not valid when it is open")
	}
	// Two of its props are taken and put back as often as there is room for it.
	again := slices.Repeat(entries("TAKE 9", "PROP 9 0 4 -1 9 3"), 75)
	wantReplayEnds(t, greatest(1), again, 149, step{e: api.ErrFull})
	last, _, _, e := book.Replay(greatest(0), again)
	if e != api.OK || len(last.Log) != 150 {
		t.Error(e)
	}
}
