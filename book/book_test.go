package book_test

import (
	"fmt"
	"slices"
	"strconv"
	"strings"
	"testing"

	"canebrake/api"
	"canebrake/book"
)

func span(lo, hi int) api.Span { return api.Span{Lo: lo, Hi: hi} }

// alike is a span for each section, the same one.
func alike(lo, hi int) [3]api.Span { return [3]api.Span{span(lo, hi), span(lo, hi), span(lo, hi)} }

// valley is that of the chapter's examples. In 101 two culms of 97 and one of 98 were cut; in 102 nine are ripe.
func valley() api.Valley {
	return api.Valley{
		Groves: []api.Grove{{
			Id:      3,
			Habit:   api.Habit{Rate: span(400, 500), Bears: 2, Ripe: 2, Dies: 4, Keep: 8},
			First:   100,
			Start:   []int{4, 3, 3, 2, 1},
			Seasons: []api.Season{{Shots: 5, Cut: 3}},
		}},
		Frame: api.Frame{
			Grading: api.Grading{Grades: []api.Grade{{Age: 2, Wall: 4, Stress: alike(20000, 60000)}}, Vary: 40000},
			Knots:   []api.Span{span(40000, 50000)},
			Holds:   [3]api.Span{span(1000, 2000), span(5000, 9000), span(60000, 70000)},
		},
	}
}

// with is a valley after some changes. These may write into its lists, so it has to be a new one.
func with(v api.Valley, changes ...func(v *api.Valley)) api.Valley {
	for _, change := range changes {
		change(&v)
	}
	return v
}

// entry is a command that is written as a line.
func entry(line string) api.Entry {
	all := strings.Split(line, " ")
	x := api.Entry{Word: all[0]}
	for _, word := range all[1:] {
		n, e := strconv.Atoi(word)
		if e != nil {
			panic(e)
		}
		x.Args = append(x.Args, n)
	}
	return x
}

func entries(lines ...string) []api.Entry {
	var l []api.Entry
	for _, line := range lines {
		l = append(l, entry(line))
	}
	return l
}

func do(v api.Valley, line string) (api.Valley, string, api.Errno) {
	x := entry(line)
	return book.Do(v, x.Word, x.Args)
}

// after is a valley after commands, each of which has to be done.
func after(t *testing.T, v api.Valley, lines ...string) api.Valley {
	t.Helper()
	for _, line := range lines {
		next, said, e := do(v, line)
		if said != "" || e != api.OK {
			t.Fatal(line, "is refused:", said, e)
		}
		v = next
	}
	return v
}

// shown is all of something in text, in which nil lists are empty ones.
func shown(x any) string { return fmt.Sprintf("%+v", x) }

// wantDone does a command, which makes some changes, and nothing else but that the log has it.
func wantDone(t *testing.T, v api.Valley, line string, changes ...func(v *api.Valley)) {
	t.Helper()
	was := shown(v)
	next, said, e := do(v, line)
	if said != "" || e != api.OK {
		t.Error(line, "is refused:", said, e)
		return
	}
	if shown(v) != was {
		t.Error(line, "has changed the valley that was passed")
	}
	if f := book.Check(next); f != api.OK {
		t.Error(line, "leaves a valley that is not valid:", shown(next))
	}
	changes = append(changes, func(v *api.Valley) { v.Log = append(slices.Clip(v.Log), entry(line)) })
	if want := shown(with(v, changes...)); shown(next) != want {
		t.Error(line, "leaves", shown(next), "not", want)
	}
}

// wantRefused gives commands that are refused with an error, and nothing is said.
func wantRefused(t *testing.T, v api.Valley, want api.Errno, lines ...string) {
	t.Helper()
	for _, line := range lines {
		next, said, e := do(v, line)
		if e != want || said != "" || shown(next) != shown(api.Valley{}) {
			t.Error(line, "is", e, said, shown(next), "not", want)
		}
	}
}

// wantDoubt gives commands against which something is said.
func wantDoubt(t *testing.T, v api.Valley, want string, lines ...string) {
	t.Helper()
	for _, line := range lines {
		next, said, e := do(v, line)
		if e != api.ErrDoubt || said != want || shown(next) != shown(api.Valley{}) {
			t.Error(line, "is", e, said, shown(next), "not", want)
		}
	}
}

// wantKind gives a command, and looks only at the error.
func wantKind(t *testing.T, v api.Valley, line string, want api.Errno) {
	t.Helper()
	if _, _, e := do(v, line); e != want {
		t.Error(line, "is", e, "not", want)
	}
}

// vat soaks four poles, the last of which has a core that nothing reaches in its hours.
const vat = "SOAK 10 1000 250 250 20 5 1 2 2 6"

// pole is the line of a pole with a strength of 54,000 to 162,000, in the vat.
func pole(id, shot, place int) string {
	return fmt.Sprint("POLE ", id, " 3 101 ", shot, " 100 100 100 10 10 10 0 ", place)
}

// Two props, each of which may bear all, stand with one of them out: built has them, and open is in use.
var (
	poles = []string{vat, pole(10, 97, 0), pole(20, 97, 1), pole(30, 98, 2)}
	built = append(slices.Clip(poles), "PROP 10 0 0 -1 1 3", "PROP 20 0 0 -1 1 3")
	open  = append(slices.Clip(built), "USE")
)

// TestExamples has the examples of the chapter.
func TestExamples(t *testing.T) {
	v := valley()
	wantDoubt(t, v, "ripe 9", "SEASON 3 4 10")
	wantDoubt(t, v, "keep 7", "SEASON 3 0 7")
	wantDone(t, v, "SEASON 3 4 5", func(v *api.Valley) { v.Groves[0].Seasons = []api.Season{{Shots: 5, Cut: 3}, {Shots: 4, Cut: 5}} })
	v = valley()
	first, other := "POLE 1 3 101 98 100 100 100 10 10 10 0 0", "POLE 2 3 101 98 100 100 100 10 10 10 0 0"
	wantDone(t, v, first, func(v *api.Valley) {
		v.Frame.Sheet.Poles = []api.Pole{{Id: 1, Clone: 3, Cut: 101, Shot: 98, Girths: [3]int{100, 100, 100}, Walls: [3]int{10, 10, 10}}}
	})
	wantDoubt(t, after(t, valley(), first), "many 1", other)
	wantDoubt(t, valley(), "trace", "POLE 1 3 101 99 100 100 100 10 10 10 0 0")
	wantDoubt(t, after(t, valley(), first), "unfit", "PROP 1 0 0 -1 1 3")
	wantDoubt(t, valley(), "falls", "USE")
	wantText(t, entries("USE"), "USE\nEND 1 3796\n")
	wantText(t, entries("TAKE 3"), "TAKE 3\nEND 1 915\n")
}

// needs is how many numbers each word has at least, and at most.
func needs() map[string][2]int {
	return map[string][2]int{
		"SEASON": {3, 3}, "SOAK": {7, 10}, "POLE": {12, 12}, "TEST": {5, 5}, "KNOT": {2, 2}, "PROP": {6, 6}, "TAKE": {1, 1}, "USE": {0, 0}, "SHUT": {0, 0},
	}
}

// TestWords gives each word too few numbers, enough, and too many, and has words that are none (P11.1, R6).
func TestWords(t *testing.T) {
	v := after(t, valley(), open...)
	for word, need := range needs() {
		for number := range 30 {
			// A number that may not be said shows that the error of words comes first.
			args := make([]int, number)
			if number > 0 {
				args[number-1] = api.MaxSaid + 1
			}
			_, said, e := book.Do(v, word, args)
			isWord := need[0] <= number && number <= need[1]
			if (e == api.ErrWord) == isWord || said != "" || isWord && number > 0 && e != api.ErrArg {
				t.Error(word, number, said, e)
			}
		}
		_, _, e := book.Do(v, word, make([]int, 1<<20))
		if e != api.ErrWord {
			t.Error(word, e)
		}
		for _, other := range []string{strings.ToLower(word), word + " ", " " + word, word + "\n", word + "S", word[1:], word + word, word + "\x00"} {
			for number := range 14 {
				if _, said, e := book.Do(v, other, make([]int, number)); e != api.ErrWord || said != "" {
					t.Error(other, number, said, e)
				}
			}
		}
	}
	for _, word := range []string{"", " ", "END", "CHECK", "0", "\xff", strings.Repeat("USE", 100000)} {
		for number := range 14 {
			if _, said, e := book.Do(v, word, make([]int, number)); e != api.ErrWord || said != "" {
				t.Error(word, number, said, e)
			}
		}
	}
}

// TestSaidNumbers gives each number of each word to the ends of their range, and beyond (P11.1, R5).
func TestSaidNumbers(t *testing.T) {
	v := after(t, valley(), open...)
	for word, need := range needs() {
		for number := need[0]; number <= need[1]; number++ {
			for i := range number {
				for _, n := range append(around(-api.MaxSaid, api.MaxSaid), odd()...) {
					args := make([]int, number)
					args[i] = n
					sayable := n >= -1000000000000 && n <= 1000000000000
					if _, _, e := book.Do(v, word, args); (e == api.ErrArg) == sayable || e == api.ErrWord {
						t.Error(word, args, e)
					}
				}
			}
		}
	}
}

// TestFullLog has logs with 149 entries and with 150 (P11.1, P11.6).
func TestFullLog(t *testing.T) {
	log := func(number int) func(v *api.Valley) {
		return func(v *api.Valley) { v.Log = slices.Repeat(entries("SHUT"), number) }
	}
	v := with(after(t, valley(), vat, pole(10, 97, 0)), log(149))
	for _, line := range []string{"SEASON 3 4 5", vat, pole(30, 98, 2), "TEST 1 10 0 60000 1", "KNOT 0 0", "PROP 10 0 0 -1 1 3"} {
		if next := after(t, v, line); len(next.Log) != 150 {
			t.Error(line, next.Log)
		}
		wantRefused(t, with(v, log(150)), api.ErrFull, line)
	}
	last := after(t, v, "KNOT 0 0")
	if len(last.Log) != 150 || shown(last.Log[149]) != "{Word:KNOT Args:[0 0]}" || book.Check(last) != api.OK {
		t.Error(last.Log)
	}
	// It is full whatever else is wrong, but for words and numbers.
	wantRefused(t, last, api.ErrFull, "SEASON 4 4 5", "SEASON 3 31 0", "SOAK 9 0 0 0 0 0 0", "TEST 1 77 0 1 1", "TAKE 10", "TAKE 77", "USE", "SHUT", "KNOT 0 0", "PROP 10 0 0 0 0 0")
	wantRefused(t, last, api.ErrWord, "KNOT 0", "use", "END 0 0")
	wantRefused(t, last, api.ErrArg, "KNOT 0 1000000000001", "TAKE -1000000000001")
}

// TestTell has poles with and without props, of all grades, and of which nothing is reached (P11.3).
func TestTell(t *testing.T) {
	v := after(t, valley(), built...)
	for id, want := range map[int]api.Told{
		10: {Grade: 1, Trace: 2, Fit: 2, Strong: alike(54000, 162000), Used: true},
		30: {Grade: 1, Trace: 2, Fit: 2, Strong: alike(54000, 162000)},
	} {
		wantTold(t, v, id, want)
	}
	for _, id := range append(odd(), 9, 11, 19, 21, 31) {
		if told, e := book.Tell(v, id); id != 30 && (told != (api.Told{}) || e != api.ErrNone) {
			t.Error(id, told, e)
		}
	}
	// A thin one, of another grade, and by tests; its sections are told one by one.
	v = with(valley(), func(v *api.Valley) {
		second := api.Grade{Age: 3, Wall: 10, Stress: [3]api.Span{span(30000, 30000), span(40000, 50000), span(50000, 70000)}}
		v.Frame.Grading.Grades = append(v.Frame.Grading.Grades, second)
	})
	v = after(t, v, "SOAK 10 1000 249 250 20 4 2 6 1",
		"POLE 1 3 101 97 100 80 60 10 12 15 0 0", "POLE 2 3 101 97 100 80 60 10 9 10 0 1", "POLE 3 3 101 98 100 80 60 10 10 3 0 2",
		"TEST 1 1 1 100000 1", "TEST 2 2 2 70000 0")
	wantTold(t, v, 1, api.Told{Grade: 2, Trace: 2, Fit: 1, Strong: [3]api.Span{span(81000, 81000), span(100000, 122400), span(101250, 141750)}})
	wantTold(t, v, 2, api.Told{Grade: 1, Trace: 2, Fit: 0, Strong: [3]api.Span{span(54000, 162000), span(38340, 115020), span(30000, 69999)}})
	wantTold(t, v, 3, api.Told{Trace: 2, Fit: 2})
	// In a place that no soak has, and of no soak.
	v = after(t, valley(), vat, "POLE 1 3 101 97 100 100 100 10 10 10 1 0")
	wantTold(t, v, 1, api.Told{Grade: 1, Trace: 2, Fit: 0, Strong: alike(54000, 162000)})
}

func wantTold(t *testing.T, v api.Valley, pole int, want api.Told) {
	t.Helper()
	if told, e := book.Tell(v, pole); told != want || e != api.OK {
		t.Error(pole, "is", told, e, "not", want)
	}
}
