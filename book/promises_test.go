package book_test

import (
	"fmt"
	"math/rand/v2"
	"slices"
	"strconv"
	"strings"
	"testing"

	"canebrake/api"
	"canebrake/book"
	"canebrake/frame"
	"canebrake/grade"
)

// tally counts which kinds of answers were met.
type tally map[string]int

// want looks for kinds that were hardly met.
func (y tally) want(t *testing.T, least int, kinds ...string) {
	t.Helper()
	for _, kind := range kinds {
		if y[kind] < least {
			t.Error("one kind of answer was hardly met:", kind, y[kind])
		}
	}
}

// kindOf names what a command was answered, without numbers.
func kindOf(x api.Entry, said string, e api.Errno) string {
	reason, _, _ := strings.Cut(said, " ")
	switch {
	case e == api.OK:
		return x.Word + " done"
	case reason == "falls":
		return x.Word + " " + []string{"falls", "falls with a pole"}[min(1, len(said)-len(reason))]
	case e == api.ErrDoubt:
		return x.Word + " " + reason
	}
	return fmt.Sprint(x.Word, " ", int(e))
}

// step is a command in a life, and what it was answered.
type step struct {
	before api.Valley
	do     api.Entry
	after  api.Valley
	said   string
	e      api.Errno
}

// live does so many commands in a life, and calls look after each of them.
func live(t *testing.T, r *rand.Rand, number int, look func(l *life, x step)) *life {
	t.Helper()
	l := anyLife(r)
	for range number {
		x := step{before: l.Valley, do: l.anyCommand(r)}
		x.after, x.said, x.e = book.Do(x.before, x.do.Word, x.do.Args)
		if x.e == api.ErrValley {
			t.Fatal(shown(x))
		}
		if x.e == api.OK {
			l.goOn(r, x.after)
		}
		look(l, x)
		if t.Failed() {
			t.FailNow()
		}
	}
	return l
}

// TestDoModel holds commands in long lives against the model, and looks whether what they leave is valid (P11.1, P11.6).
func TestDoModel(t *testing.T) {
	r := chance(1)
	met := tally{}
	for range 250 {
		live(t, r, 90, func(l *life, x step) {
			was := shown(x.before)
			next, said, e := modelDo(x.before, x.do)
			if shown(next) != shown(x.after) || said != x.said || e != x.e {
				t.Error(shown(x), "not", shown(next), said, e)
			}
			if x.e == api.OK && book.Check(x.after) != api.OK || shown(x.before) != was {
				t.Error("after", shown(x.do), "a valley is", shown(x.after), "and was", shown(x.before), was)
			}
			met[kindOf(x.do, x.said, x.e)]++
		})
	}
	met.want(t, 10,
		"SEASON done", "SEASON ripe", "SEASON keep", "SEASON 6", "SEASON 8", "SOAK done", "SOAK 8", "SOAK 9", "POLE done", "POLE trace", "POLE many", "POLE 8", "POLE 9",
		"TEST done", "TEST clash", "TEST 8", "KNOT done", "KNOT falls", "KNOT 8", "KNOT falls with a pole", "PROP done", "PROP weak", "PROP unfit", "PROP falls", "PROP falls with a pole", "PROP 8",
		"TAKE done", "TAKE falls", "TAKE 6", "TAKE 8", "USE done", "USE 8", "USE falls", "USE falls with a pole", "SHUT done", "SHUT 8", "KNOT 111", "END 111", "use 111")
	met.want(t, 3, "SEASON 2", "POLE 2", "TEST 2", "PROP 2")
}

// TestTellModel holds what is told of all poles in lives against the model (P11.3).
func TestTellModel(t *testing.T) {
	r := chance(2)
	met := tally{}
	for range 150 {
		l := live(t, r, 60, func(*life, step) {})
		for _, p := range l.Frame.Sheet.Poles {
			want := modelTold(l.Valley, p)
			wantTold(t, l.Valley, p.Id, want)
			met[fmt.Sprint("fit ", want.Fit)]++
			met[fmt.Sprint("used ", want.Used)]++
			met[fmt.Sprint("grade ", min(want.Grade, 1))]++
		}
		if told, e := book.Tell(l.Valley, 40); told != (api.Told{}) || e != api.ErrNone {
			t.Fatal(told, e)
		}
	}
	met.want(t, 20, "fit 0", "fit 1", "fit 2", "used true", "used false", "grade 0", "grade 1")
}

func logOf(steps []step, so func(x step) bool) []api.Entry {
	var log []api.Entry
	for _, x := range steps {
		if so(x) {
			log = append(log, x.do)
		}
	}
	return log
}

// TestLifetime replays lives from their logs, whole and in two parts, with what was refused between, and without it (P11.2, P11.6, P11.7).
func TestLifetime(t *testing.T) {
	r := chance(3)
	met := tally{}
	for range 120 {
		var steps []step
		last := live(t, r, 60, func(_ *life, x step) { steps = append(steps, x) })
		first := steps[0].before
		done := logOf(steps, func(x step) bool { return x.e == api.OK })
		if shown(last.Log) != shown(done) {
			t.Fatal("the log is", shown(last.Log), "not", shown(done))
		}
		wantReplay(t, first, done, last.Valley)
		wantReplay(t, last.Valley, nil, last.Valley)
		at := r.IntN(len(done) + 1)
		half, _, _, e := book.Replay(first, done[:at])
		if e != api.OK {
			t.Fatal(e)
		}
		wantReplay(t, half, done[at:], last.Valley)
		// With all that was refused the first of it is told; from there on nothing is done.
		wanted := slices.IndexFunc(steps, func(x step) bool { return x.e != api.OK })
		if wanted >= 0 {
			wantReplayEnds(t, first, logOf(steps, func(step) bool { return true }), wanted, steps[wanted])
			met["refused"] += min(wanted, 1)
		}
		// With just one of it, wherever it was.
		x := steps[r.IntN(len(steps))]
		if x.e != api.OK {
			some := append(slices.Clone(x.before.Log), x.do)
			wantReplayEnds(t, first, append(some, done[len(x.before.Log):]...), len(x.before.Log), x)
			met["one refused"]++
		}
	}
	met.want(t, 20, "refused", "one refused")
}

// wantReplay replays a log, which leaves a valley.
func wantReplay(t *testing.T, v api.Valley, log []api.Entry, want api.Valley) {
	t.Helper()
	next, at, said, e := book.Replay(v, log)
	if shown(next) != shown(want) || at != 0 || said != "" || e != api.OK {
		t.Fatal(shown(log), "leaves", shown(next), at, said, e, "not", shown(want))
	}
}

// wantReplayEnds replays a log that ends with a command that is refused.
func wantReplayEnds(t *testing.T, v api.Valley, log []api.Entry, want int, why step) {
	t.Helper()
	next, at, said, e := book.Replay(v, log)
	if shown(next) != shown(api.Valley{}) || at != want || said != why.said || e != why.e {
		t.Fatal(shown(log), "ends at", at, said, e, shown(next), "not at", want, why.said, why.e)
	}
}

// TestReplay has empty logs, and logs of which the first entry or the last one is refused (P11.2).
func TestReplay(t *testing.T) {
	wantReplay(t, valley(), nil, valley())
	wantReplay(t, valley(), []api.Entry{}, valley())
	wantReplay(t, valley(), entries(open...), after(t, valley(), open...))
	v := after(t, valley(), open...)
	for _, x := range []struct {
		line, said string
		e          api.Errno
	}{
		{"USE", "", api.ErrBad}, {"SEASON 3 0 10", "ripe 9", api.ErrDoubt}, {"SEASON 3 0 9", "keep 5", api.ErrDoubt}, {"KNOT 1 1", "falls", api.ErrDoubt}, {"TAKE 77", "", api.ErrNone}, {"KNOT 1", "", api.ErrWord}, {"TAKE 1000000000001", "", api.ErrArg},
		{"POLE 3 3 101 97 100 100 100 10 10 10 0 0", "many 2", api.ErrDoubt}, {"TEST 1 10 0 162001 1", "clash 1", api.ErrDoubt},
	} {
		why := step{said: x.said, e: x.e}
		wantReplayEnds(t, v, entries(x.line), 0, why)
		wantReplayEnds(t, v, entries(x.line, "SHUT", "USE"), 0, why)
		wantReplayEnds(t, v, entries("KNOT 0 0", "SHUT", "USE", x.line), 3, why)
		wantReplayEnds(t, v, entries("KNOT 0 0", x.line, "USED", x.line), 1, why)
		wantReplayEnds(t, valley(), entries(append(slices.Clip(open), x.line)...), len(open), why)
	}
	// The log is full after 150 entries, whoever wrote them.
	v = with(valley(), func(v *api.Valley) { v.Log = slices.Repeat(entries("USE"), 100) })
	last, _, _, e := book.Replay(v, slices.Repeat(entries("SEASON 3 30 0"), 50))
	if e != api.OK || len(last.Log) != 150 || len(last.Groves[0].Seasons) != 51 {
		t.Error(shown(last), e)
	}
	wantReplayEnds(t, v, slices.Repeat(entries("SEASON 3 30 0"), 51), 50, step{e: api.ErrFull})
	wantReplayEnds(t, valley(), slices.Repeat(entries("SEASON 3 30 0"), 60), 59, step{e: api.ErrFull})
	wantReplayEnds(t, valley(), make([]api.Entry, 1<<20), 0, step{e: api.ErrWord})
	wantReplay(t, last, nil, last)
}

// TestLogsOfLives writes the logs of lives, and reads them again (P11.4, P11.5, P11.8).
func TestLogsOfLives(t *testing.T) {
	r := chance(4)
	for range 100 {
		l := live(t, r, 40, func(*life, step) {})
		text, e := book.WriteLog(l.Log)
		if e != api.OK || text != ended(linesOf(l.Log)) {
			t.Fatal(l.Log, text, e)
		}
		log, line, e := book.ReadLog(text)
		if shown(log) != shown(l.Log) || line != 0 || e != api.OK {
			t.Fatal(text, log, line, e)
		}
		wantReplay(t, anyStart(l), log, l.Valley)
	}
}

// anyStart is the valley from which a life went on: all is as it was before its log.
func anyStart(l *life) api.Valley {
	v := copied(l.Valley)
	for _, x := range l.Log {
		for i := range v.Groves {
			if g := &v.Groves[i]; x.Word == "SEASON" && g.Id == x.Args[0] {
				g.Seasons = g.Seasons[:len(g.Seasons)-1]
			}
		}
		if x.Word == "KNOT" {
			v.Frame.Knots = v.Frame.Knots[:len(v.Frame.Knots)-1]
		}
	}
	v.Soaks, v.Frame.Sheet, v.Frame.Props, v.Open, v.Log = v.Soaks[:2], api.Sheet{}, nil, false, nil
	return v
}

// TestOneByteIsSeen changes each byte of some texts to each other one (P11.8).
func TestOneByteIsSeen(t *testing.T) {
	for _, lines := range []string{"", "USE\n", "TAKE 3\n", "USE\nTAKE -3\nSEASON 3 0 10\nSHUT\n", "SOAK 10 1000 249 250 20 4 2 6 1\nPOLE 1 3 101 97 100 80 60 10 12 15 0 0\nKNOT 0 -1000000000000\n"} {
		text := ended(lines)
		for i := range len(text) {
			for b := range 256 {
				other := text[:i] + string([]byte{byte(b)}) + text[i+1:]
				log, line, e := book.ReadLog(other)
				if other != text && (e != api.ErrRow && e != api.ErrEnd || len(log) > 0 || line < 1 || line > strings.Count(other, "\n")+1) {
					t.Fatalf("%q is %v %v %v", other, log, line, e)
				}
			}
		}
	}
	// A long text, of which some bytes are changed.
	r := chance(5)
	text := ended(strings.Repeat("PROP 1 2 3 4 5 6\nTAKE -1000000000000\n", 75))
	for range 3000 {
		i, b := r.IntN(len(text)), one(r, byte(r.IntN(256)), byte('0'+r.IntN(10)))
		other := text[:i] + string([]byte{b}) + text[i+1:]
		if _, line, e := book.ReadLog(other); other != text && (e != api.ErrRow && e != api.ErrEnd || line == 0) {
			t.Fatalf("%q is %v %v", other, line, e)
		}
	}
}

// TestReadModel holds what texts with some changes are read as against the model, and writes those again that are read (P11.5, P11.8).
func TestReadModel(t *testing.T) {
	r := chance(6)
	met := tally{}
	pieces := []string{"\n", " ", "0", "1", "9", "-", "-0", "+", "END", "END 0 0\n", "USE\n", "TAKE 3\n", "TAKE", "KNOT 1", "\x00", "x", "1000000000000", "99999999999999999999", "SHUT\nUSE\n", ""}
	for range 40000 {
		var lines strings.Builder
		for range r.IntN(5) {
			lines.WriteString(one(r, "USE\n", "SHUT\n", "TAKE 3\n", "TAKE -17\n", "KNOT 0 10\n", "SEASON 3 0 1000000000000\n", "PROP 1 2 3 -4 5 6\n"))
		}
		text := ended(lines.String())
		if r.IntN(4) == 0 {
			lines := lines.String()
			text = fmt.Sprint(lines, "END ", max(0, strings.Count(lines, "\n")+r.IntN(3)-1), " ", max(0, modelCheck(lines)+r.IntN(3)-1), "\n")
		}
		for range r.IntN(3) {
			i := r.IntN(len(text) + 1)
			k := min(len(text), i+r.IntN(4))
			text = text[:i] + one(r, pieces...) + text[k:]
		}
		if r.IntN(4) == 0 {
			text = ended(text)
		}
		log, line, e := book.ReadLog(text)
		want, wantLine, wantE := modelRead(text)
		if shown(log) != shown(want) || line != wantLine || e != wantE {
			t.Fatalf("%q is %v %v %v, not %v %v %v", text, log, line, e, want, wantLine, wantE)
		}
		if again, f := book.WriteLog(log); e == api.OK && (again != text || f != api.OK) {
			t.Fatalf("%q is written as %q %v", text, again, f)
		}
		met[fmt.Sprint("error ", int(e), " in line ", min(line, 3))]++
	}
	met.want(t, 200, "error 0 in line 0", "error 113 in line 1", "error 113 in line 2", "error 113 in line 3", "error 114 in line 1", "error 114 in line 2", "error 114 in line 3")
}

// TestGrovesAndPolesAreKept looks in lives at what groves keep, where poles are from, and which ones are used (P11.9).
func TestGrovesAndPolesAreKept(t *testing.T) {
	r := chance(7)
	met := tally{}
	for range 150 {
		live(t, r, 70, func(l *life, x step) {
			if x.e != api.OK {
				return
			}
			met[x.do.Word]++
			for _, g := range l.Groves {
				if x.do.Word != "SEASON" || x.do.Args[0] != g.Id {
					continue
				}
				whole := g
				whole.Seasons = slices.Clone(g.Seasons)
				whole.Seasons[len(g.Seasons)-1].Cut = 0
				_, ripe := standing(whole)
				if all, _ := standing(g); all < g.Habit.Keep || x.do.Args[2] > ripe {
					t.Error(shown(x), "is cut below what keeps it:", all, ripe)
				}
			}
			like := map[[3]int]int{}
			for _, p := range l.Frame.Sheet.Poles {
				from := [3]int{p.Clone, p.Cut, p.Shot}
				if like[from]++; like[from] > felled(l.Groves, p) {
					t.Error(shown(x), "has a pole that is not of its clone:", p)
				}
				if x.do.Word == "PROP" && p.Id == x.do.Args[0] && !soaked(l.Soaks, p) {
					t.Error(shown(x), "uses a pole before its core is reached:", p)
				}
			}
		})
	}
	met.want(t, 300, "SEASON", "POLE", "PROP")
}

// bears is what each prop bears with something put on each knot, and some poles out; it is not ok if a knot falls.
func bears(f api.Frame, puts []int, out ...int) (loads []int, ok bool) {
	loads, ok = make([]int, len(f.Props)), true
	for knot, bear := range puts {
		for i, p := range f.Props {
			if p.To == knot {
				bear += loads[i]
			}
		}
		shares := 0
		for _, p := range f.Props {
			if p.From == knot && !slices.Contains(out, p.Pole) {
				shares += p.Share
			}
		}
		ok = ok && (bear == 0 || shares > 0)
		for i, p := range f.Props {
			if p.From == knot && !slices.Contains(out, p.Pole) {
				loads[i] = (bear*p.Share + shares - 1) / shares
			}
		}
	}
	return loads, ok
}

// stands tells whether the scaffold of a life stands in a truth: with something put on its knots, and joints that hold something.
func (l *life) stands(puts []int, holds [3]int, out ...int) bool {
	loads, ok := bears(l.Frame, puts, out...)
	for i, p := range l.Frame.Props {
		for _, pole := range l.Frame.Sheet.Poles {
			ok = ok && (pole.Id != p.Pole || loads[i] <= l.strength(pole, p.Section))
		}
		ok = ok && loads[i] <= holds[p.Joint-1]
	}
	return ok
}

// TestOpenStands draws truths while a scaffold is open, also with poles out when it is opened (P11.10).
func TestOpenStands(t *testing.T) {
	r := chance(8)
	met := tally{}
	for range 300 {
		live(t, r, 90, func(l *life, x step) {
			if x.e != api.OK || !l.Open || !l.honest {
				return
			}
			met[x.do.Word]++
			for range 3 {
				var puts []int
				for _, s := range l.Frame.Knots {
					puts = append(puts, one(r, s.Hi, among(r, s.Lo, s.Hi)))
				}
				var holds [3]int
				for i, s := range l.Frame.Holds {
					holds[i] = one(r, s.Lo, among(r, s.Lo, s.Hi))
				}
				if !l.stands(puts, holds) {
					t.Error(shown(x), "does not stand with", puts, holds, l.stress)
				}
				for _, p := range l.Frame.Sheet.Poles {
					if x.do.Word == "USE" && uses(l.Frame, p.Id) {
						if met["a pole out"]++; !l.stands(puts, holds, p.Id) {
							t.Error(shown(x), "does not stand without", p.Id, "with", puts, holds, l.stress)
						}
					}
				}
			}
		})
	}
	met.want(t, 20, "SEASON", "SOAK", "POLE", "TEST", "KNOT", "PROP", "TAKE", "USE", "a pole out")
}

// numbersOf are the numbers of what is said.
func numbersOf(said string) []int {
	var l []int
	for _, word := range strings.Fields(said)[1:] {
		n, e := strconv.Atoi(word)
		if e != nil {
			panic(e)
		}
		l = append(l, n)
	}
	return l
}

// TestReasonsAreTrue looks at what is said against commands in lives (P11.11).
func TestReasonsAreTrue(t *testing.T) {
	r := chance(9)
	met := tally{}
	for range 300 {
		live(t, r, 90, func(_ *life, x step) {
			if x.e != api.ErrDoubt {
				if x.said != "" {
					t.Error(shown(x))
				}
				return
			}
			reason, _, _ := strings.Cut(x.said, " ")
			met[reason]++
			so := map[string]func(x step, n []int) bool{"ripe": ripeIsTrue, "keep": keepIsTrue, "trace": manyIsTrue, "many": manyIsTrue, "clash": clashIsTrue, "weak": weakIsTrue, "unfit": weakIsTrue, "falls": fallsIsTrue}[reason]
			if so == nil || !so(x, numbersOf(x.said)) {
				t.Error(shown(x), "is not true")
			}
		})
	}
	met.want(t, 100, "ripe", "keep", "trace", "many", "clash", "weak", "unfit", "falls")
}

// ripeIsTrue cuts as many as are said to be ripe, and none of them are left.
func ripeIsTrue(x step, n []int) bool {
	if len(n) != 1 || n[0] >= x.do.Args[2] {
		return false
	}
	for _, g := range x.before.Groves {
		if g.Id == x.do.Args[0] {
			g.Seasons = append(slices.Clip(g.Seasons), api.Season{Shots: x.do.Args[1], Cut: n[0]})
			_, ripe := standing(g)
			return ripe == 0
		}
	}
	return false
}

func keepIsTrue(x step, n []int) bool {
	for _, g := range x.before.Groves {
		if g.Id == x.do.Args[0] {
			g.Seasons = append(slices.Clip(g.Seasons), api.Season{Shots: x.do.Args[1], Cut: x.do.Args[2]})
			all, _ := standing(g)
			return len(n) == 1 && n[0] == all && all < g.Habit.Keep
		}
	}
	return false
}

// manyIsTrue counts the culms that a pole may be, and those that are on the sheet.
func manyIsTrue(x step, n []int) bool {
	p := api.Pole{Clone: x.do.Args[1], Cut: x.do.Args[2], Shot: x.do.Args[3]}
	culms := felled(x.before.Groves, p)
	if culms == 0 {
		return x.said == "trace" && len(n) == 0
	}
	for _, other := range x.before.Frame.Sheet.Poles {
		if other.Clone == p.Clone && other.Cut == p.Cut && other.Shot == p.Shot {
			culms--
		}
	}
	return culms == 0 && len(n) == 1 && n[0] == felled(x.before.Groves, p)
}

// clashIsTrue looks whether the tests that are named contradict each other, and the first of them alone does not if there are two.
func clashIsTrue(x step, n []int) bool {
	s := x.before.Frame.Sheet
	a := x.do.Args
	tests := append(slices.Clip(s.Tests), api.Test{Id: a[0], Pole: a[1], Section: a[2], Force: a[3], Held: a[4] == 1})
	clashes := func(ids ...int) bool {
		s.Tests = nil
		for id := range 10000 {
			for _, x := range tests {
				if x.Id == id && slices.Contains(ids, id) {
					s.Tests = append(s.Tests, x)
				}
			}
		}
		_, e := grade.Strength(s, x.before.Frame.Grading, x.graded(), 0)
		return len(s.Tests) == len(ids) && e == api.ErrTests
	}
	one := slices.ContainsFunc(n, func(id int) bool { return clashes(id) })
	return slices.Contains(n, a[0]) && slices.IsSorted(n) && clashes(n...) && one == (len(n) == 1)
}

// graded is a pole with a grade. There is one if tests contradict each other.
func (x step) graded() int {
	f := x.before.Frame
	for _, p := range f.Sheet.Poles {
		if n, _ := grade.Grade(f.Sheet, f.Grading, p.Id); n > 0 {
			return p.Id
		}
	}
	return -1
}

// weakIsTrue looks at the pole of a prop.
func weakIsTrue(x step, n []int) bool {
	f := x.before.Frame
	for _, p := range f.Sheet.Poles {
		if p.Id == x.do.Args[0] {
			number, _ := grade.Grade(f.Sheet, f.Grading, p.Id)
			return len(n) == 0 && (number == 0) == (x.said == "weak") && (x.said == "weak" || !soaked(x.before.Soaks, p))
		}
	}
	return false
}

// fallsIsTrue takes the pole that is named out of the frame as it would be, or none.
func fallsIsTrue(x step, n []int) bool {
	f := x.before.Frame
	a := x.do.Args
	switch x.do.Word {
	case "KNOT":
		f.Knots = append(slices.Clip(f.Knots), span(a[0], a[1]))
	case "PROP":
		f.Props = append(slices.Clip(f.Props), api.Prop{Pole: a[0], Section: a[1], From: a[2], To: a[3], Share: a[4], Joint: uint8(a[5])})
	case "TAKE":
		known, e := frame.Stands(f, a)
		return x.before.Open && len(n) == 0 && e == api.OK && known != 2
	}
	known, e := frame.Stands(f, n)
	return x.before.Open != (x.do.Word == "USE") && len(n) <= 1 && e == api.OK && known != 2
}
