package book_test

import (
	"fmt"
	"math/big"
	"math/rand/v2"
	"regexp"
	"slices"
	"sort"
	"strconv"
	"strings"

	"canebrake/api"
	"canebrake/cure"
	"canebrake/frame"
	"canebrake/grade"
)

// The model of these tests keeps each culm by itself, reads texts by regular expressions, and asks poles, tests and frames of the packages that the chapter names: it shares nothing else with the package.

// culm is one that stands in a grove, or was cut, by the year in which it shot.
type culm struct{ shot, cut int }

// stub is a culm that stands.
const stub = -1

// modelCulms are all culms that stand at the end of a grove's book, or were cut by it. Those that died are gone.
func modelCulms(g api.Grove) []culm {
	var all []culm
	for age, n := range g.Start {
		for range n {
			all = append(all, culm{g.First - age, stub})
		}
	}
	for i, s := range g.Seasons {
		year := g.First + 1 + i
		all = slices.DeleteFunc(all, func(c culm) bool { return c.cut == stub && year-c.shot > g.Habit.Dies })
		for range s.Shots {
			all = append(all, culm{year, stub})
		}
		for range s.Cut {
			all[oldest(all)].cut = year
		}
	}
	return all
}

// oldest is the index of the first of the oldest culms that stand.
func oldest(all []culm) int {
	at := -1
	for i, c := range all {
		if c.cut == stub && (at < 0 || c.shot < all[at].shot) {
			at = i
		}
	}
	return at
}

// standing is how many culms stand at the end of a grove's book, and how many of these are ripe.
func standing(g api.Grove) (all, ripe int) {
	last := g.First + len(g.Seasons)
	for _, c := range modelCulms(g) {
		if c.cut == stub {
			all++
			if last-c.shot >= g.Habit.Ripe {
				ripe++
			}
		}
	}
	return all, ripe
}

// felled is how many culms of a pole's clone were cut in the year of its Cut that shot in that of its Shot.
func felled(groves []api.Grove, p api.Pole) int {
	number := 0
	for _, g := range groves {
		for _, c := range modelCulms(g) {
			if g.Id == p.Clone && c == (culm{p.Shot, p.Cut}) {
				number++
			}
		}
	}
	return number
}

// copied is a valley with lists of its own.
func copied(v api.Valley) api.Valley {
	v.Groves = slices.Clone(v.Groves)
	for i := range v.Groves {
		v.Groves[i].Start, v.Groves[i].Seasons = slices.Clone(v.Groves[i].Start), slices.Clone(v.Groves[i].Seasons)
	}
	v.Soaks = slices.Clone(v.Soaks)
	for i := range v.Soaks {
		b := &v.Soaks[i].Batch
		b.Poles = slices.Clone(b.Poles)
		for k := range b.Poles {
			b.Poles[k] = slices.Clone(b.Poles[k])
		}
	}
	v.Frame.Sheet = api.Sheet{Poles: slices.Clone(v.Frame.Sheet.Poles), Tests: slices.Clone(v.Frame.Sheet.Tests)}
	v.Frame.Grading.Grades = slices.Clone(v.Frame.Grading.Grades)
	v.Frame.Knots, v.Frame.Props = slices.Clone(v.Frame.Knots), slices.Clone(v.Frame.Props)
	v.Log = slices.Clone(v.Log)
	for i := range v.Log {
		v.Log[i].Args = slices.Clone(v.Log[i].Args)
	}
	return v
}

// modelDo is what a command does in a valid valley, as the chapter tells it.
func modelDo(v api.Valley, x api.Entry) (next api.Valley, said string, e api.Errno) {
	need, ok := needs()[x.Word]
	if !ok || len(x.Args) < need[0] || len(x.Args) > need[1] {
		return api.Valley{}, "", api.ErrWord
	}
	for _, n := range x.Args {
		if n > 1e12 || n < -1e12 {
			return api.Valley{}, "", api.ErrArg
		}
	}
	if len(v.Log) >= 150 {
		return api.Valley{}, "", api.ErrFull
	}
	next = copied(v)
	do := map[string]func(v *api.Valley, n []int) (string, api.Errno){
		"SEASON": modelSeason, "SOAK": modelSoak, "POLE": modelPole, "TEST": modelTest, "KNOT": modelKnot, "PROP": modelProp, "TAKE": modelTake,
		"USE":  func(v *api.Valley, _ []int) (string, api.Errno) { return modelUse(v, true) },
		"SHUT": func(v *api.Valley, _ []int) (string, api.Errno) { return modelUse(v, false) },
	}[x.Word]
	if said, e = do(&next, x.Args); e != api.OK {
		return api.Valley{}, said, e
	}
	next.Log = append(next.Log, x)
	return next, "", api.OK
}

func modelSeason(v *api.Valley, n []int) (string, api.Errno) {
	for i := range v.Groves {
		g := &v.Groves[i]
		if g.Id != n[0] {
			continue
		}
		if len(g.Seasons) >= 60 || g.First+len(g.Seasons) >= 3000 {
			return "", api.ErrFull
		}
		if min(n[1], n[2]) < 0 || max(n[1], n[2]) > 30 {
			return "", api.ErrBad
		}
		g.Seasons = append(g.Seasons, api.Season{Shots: n[1]})
		all, ripe := standing(*g)
		if ripe < n[2] {
			return fmt.Sprint("ripe ", ripe), api.ErrDoubt
		}
		if all-n[2] < g.Habit.Keep {
			return fmt.Sprint("keep ", all-n[2]), api.ErrDoubt
		}
		g.Seasons[len(g.Seasons)-1].Cut = n[2]
		return "", api.OK
	}
	return "", api.ErrNone
}

func modelSoak(v *api.Valley, n []int) (string, api.Errno) {
	if len(v.Soaks) >= 6 {
		return "", api.ErrFull
	}
	s := api.Soak{Batch: api.Batch{Water: n[0], Borax: n[1], Spread: span(n[2], n[3]), Need: n[4]}, Hours: n[5]}
	for _, cells := range n[6:] {
		if cells < 1 || cells > 6 {
			return "", api.ErrBad
		}
		s.Batch.Poles = append(s.Batch.Poles, []int{0, 0, 0, 0, 0, 0}[:cells])
	}
	if cure.Check(s.Batch) != api.OK || s.Hours < 0 || s.Hours > 300 {
		return "", api.ErrBad
	}
	v.Soaks = append(v.Soaks, s)
	return "", api.OK
}

func modelPole(v *api.Valley, n []int) (string, api.Errno) {
	s := &v.Frame.Sheet
	if len(s.Poles) >= 12 {
		return "", api.ErrFull
	}
	p := api.Pole{Id: n[0], Clone: n[1], Cut: n[2], Shot: n[3], Girths: [3]int(n[4:7]), Walls: [3]int(n[7:10]), Soak: n[10], Place: n[11]}
	s.Poles = append(s.Poles, p)
	sort.Slice(s.Poles, func(i, k int) bool { return s.Poles[i].Id < s.Poles[k].Id })
	if grade.Check(*s, v.Frame.Grading) != api.OK {
		return "", api.ErrBad
	}
	like := 0
	for _, other := range s.Poles {
		if other.Clone == p.Clone && other.Cut == p.Cut && other.Shot == p.Shot {
			like++
		}
	}
	culms := felled(v.Groves, p)
	if culms == 0 {
		return "trace", api.ErrDoubt
	}
	if culms < like {
		return fmt.Sprint("many ", culms), api.ErrDoubt
	}
	return "", api.OK
}

func modelTest(v *api.Valley, n []int) (string, api.Errno) {
	s := &v.Frame.Sheet
	if len(s.Tests) >= 20 {
		return "", api.ErrFull
	}
	s.Tests = append(s.Tests, api.Test{Id: n[0], Pole: n[1], Section: n[2], Force: n[3], Held: n[4] != 0})
	sort.Slice(s.Tests, func(i, k int) bool { return s.Tests[i].Id < s.Tests[k].Id })
	if n[4] != 0 && n[4] != 1 || grade.Check(*s, v.Frame.Grading) != api.OK {
		return "", api.ErrBad
	}
	ids, _ := grade.Clash(*s, v.Frame.Grading)
	if len(ids) > 0 {
		return "clash " + strings.Trim(fmt.Sprint(ids), "[]"), api.ErrDoubt
	}
	return "", api.OK
}

// modelFalls is what is said if a valley is open, and its frame not accepted.
func modelFalls(v *api.Valley) (string, api.Errno) {
	known, pole, _ := frame.Accept(v.Frame)
	switch {
	case !v.Open || known == 2:
		return "", api.OK
	case pole == -1:
		return "falls", api.ErrDoubt
	}
	return fmt.Sprint("falls ", pole), api.ErrDoubt
}

func modelKnot(v *api.Valley, n []int) (string, api.Errno) {
	if len(v.Frame.Knots) >= 10 {
		return "", api.ErrFull
	}
	v.Frame.Knots = append(v.Frame.Knots, span(n[0], n[1]))
	if frame.Check(v.Frame) != api.OK {
		return "", api.ErrBad
	}
	return modelFalls(v)
}

func modelProp(v *api.Valley, n []int) (string, api.Errno) {
	f := &v.Frame
	if len(f.Props) >= 20 {
		return "", api.ErrFull
	}
	if n[5] != 1 && n[5] != 2 && n[5] != 3 {
		return "", api.ErrBad
	}
	f.Props = append(f.Props, api.Prop{Pole: n[0], Section: n[1], From: n[2], To: n[3], Share: n[4], Joint: uint8(n[5])})
	if frame.Check(*f) != api.OK {
		return "", api.ErrBad
	}
	if _, e := grade.Strength(f.Sheet, f.Grading, n[0], n[1]); e != api.OK {
		return "weak", api.ErrDoubt
	}
	for _, p := range f.Sheet.Poles {
		if p.Id == n[0] && !soaked(v.Soaks, p) {
			return "unfit", api.ErrDoubt
		}
	}
	return modelFalls(v)
}

// soaked tells whether the core of a pole has been reached at each spread of its soak.
func soaked(soaks []api.Soak, p api.Pole) bool {
	if p.Soak >= len(soaks) || p.Place >= len(soaks[p.Soak].Batch.Poles) {
		return false
	}
	s := soaks[p.Soak]
	for spread := s.Batch.Spread.Lo; spread <= s.Batch.Spread.Hi; spread++ {
		reached := false
		for hour := range s.Hours + 1 {
			_, poles, _ := cure.Run(s.Batch, spread, hour)
			cells := poles[p.Place]
			reached = reached || cells[len(cells)-1] >= s.Batch.Need
		}
		if !reached {
			return false
		}
	}
	return true
}

func modelTake(v *api.Valley, n []int) (string, api.Errno) {
	isPole := false
	for _, p := range v.Frame.Sheet.Poles {
		isPole = isPole || p.Id == n[0]
	}
	if !isPole {
		return "", api.ErrNone
	}
	var left []api.Prop
	for _, p := range v.Frame.Props {
		if p.Pole != n[0] {
			left = append(left, p)
		}
	}
	if len(left) == len(v.Frame.Props) {
		return "", api.ErrBad
	}
	v.Frame.Props = left
	if known, _ := frame.Stands(v.Frame, nil); v.Open && known != 2 {
		return "falls", api.ErrDoubt
	}
	return "", api.OK
}

func modelUse(v *api.Valley, open bool) (string, api.Errno) {
	if v.Open == open {
		return "", api.ErrBad
	}
	v.Open = open
	return modelFalls(v)
}

// modelTold is what is told of a pole, by its own culms, hours and sections.
func modelTold(v api.Valley, p api.Pole) api.Told {
	told := api.Told{Trace: 2}
	told.Grade, _ = grade.Grade(v.Frame.Sheet, v.Frame.Grading, p.Id)
	fits, _ := grade.Fit(v.Frame.Sheet, v.Frame.Grading, v.Soaks)
	for i, other := range v.Frame.Sheet.Poles {
		if other == p {
			told.Fit = fits[i]
		}
	}
	for section := range 3 {
		if told.Grade > 0 {
			told.Strong[section], _ = grade.Strength(v.Frame.Sheet, v.Frame.Grading, p.Id, section)
		}
	}
	for _, x := range v.Frame.Props {
		told.Used = told.Used || x.Pole == p.Id
	}
	return told
}

// modelCheck is the check of a text as one sum.
func modelCheck(text string) int {
	all, times := new(big.Int), big.NewInt(1)
	for i := len(text) - 1; i >= 0; i-- {
		all.Add(all, new(big.Int).Mul(times, big.NewInt(int64(text[i]))))
		times.Mul(times, big.NewInt(7))
	}
	return int(all.Mod(all, big.NewInt(9973)).Int64())
}

var (
	entryLine = regexp.MustCompile(`^[A-Z]+( (0|-?[1-9][0-9]{0,12}))*\n$`)
	endLine   = regexp.MustCompile(`^END (0|[1-9][0-9]{0,11}|1000000000000) (0|[1-9][0-9]{0,11}|1000000000000)\n$`)
)

// modelRead is what a text is read as.
func modelRead(text string) (log []api.Entry, line int, e api.Errno) {
	if len(text) > 9000 {
		return nil, 0, api.ErrFull
	}
	lines := strings.SplitAfter(text, "\n")
	if lines[len(lines)-1] == "" {
		lines = lines[:len(lines)-1]
	}
	for i, x := range lines {
		if i == len(lines)-1 && endLine.MatchString(x) {
			if x != fmt.Sprintf("END %d %d\n", i, modelCheck(strings.Join(lines[:i], ""))) {
				return nil, i + 1, api.ErrEnd
			}
			return log, 0, api.OK
		}
		if i >= 150 || !modelLine(x) {
			return nil, i + 1, api.ErrRow
		}
		log = append(log, entry(strings.TrimSuffix(x, "\n")))
	}
	return nil, len(lines) + 1, api.ErrRow
}

// modelLine tells whether a line is that of an entry.
func modelLine(line string) bool {
	words := strings.Fields(line)
	if !entryLine.MatchString(line) {
		return false
	}
	need, ok := needs()[words[0]]
	for _, word := range words[1:] {
		n, _ := strconv.Atoi(word)
		ok = ok && n >= -1e12 && n <= 1e12
	}
	return ok && len(words)-1 >= need[0] && len(words)-1 <= need[1]
}

func chance(seed uint64) *rand.Rand { return rand.New(rand.NewPCG(seed, 11)) }

// among is a number of a span.
func among(r *rand.Rand, lo, hi int) int { return lo + r.IntN(hi-lo+1) }

// one is one of several things.
func one[T any](r *rand.Rand, things ...T) T { return things[r.IntN(len(things))] }

// life is a valley in which commands are drawn, and what is true in it: between which stresses each grade's sections are, and which ones each pole's are.
type life struct {
	api.Valley
	least  [][3]int
	stress map[int][3]int
	honest bool // tests tell what is true
}

// anyLife is a valley without poles, whose scaffold may bear what is on its knots.
func anyLife(r *rand.Rand) *life {
	l := &life{stress: map[int][3]int{}, honest: r.IntN(2) == 0}
	id := r.IntN(3)
	for range among(r, 1, 3) {
		l.Groves = append(l.Groves, anyGrove(r, id))
		id += among(r, 1, 4)
	}
	g := &l.Frame.Grading
	g.Vary = one(r, 0, 3000, 40000)
	for n := range among(r, 1, 2) {
		x := api.Grade{Age: 1 + n, Wall: 4 * (1 + n)}
		var least [3]int
		for section := range x.Stress {
			lo := among(r, 8000, 30000)
			x.Stress[section] = span(lo, lo+one(r, 0, 4000, 40000))
			least[section] = among(r, lo, x.Stress[section].Hi)
		}
		g.Grades, l.least = append(g.Grades, x), append(l.least, least)
	}
	for range among(r, 1, 2) {
		l.Frame.Knots = append(l.Frame.Knots, anyPut(r))
	}
	for i, hi := range []int{2000, 7000, 40000} {
		lo := among(r, hi/2, hi)
		l.Frame.Holds[i] = span(lo, hi)
	}
	// Those of the first one are fit, and that of the second one may be.
	l.Soaks = []api.Soak{soak(10, 1000, span(249, 250), 20, 5, 1, 2, 1), soak(10, 1000, span(249, 250), 20, 4, 2)}
	return l
}

func anyPut(r *rand.Rand) api.Span {
	hi := one(r, 0, r.IntN(3000), r.IntN(12000))
	return span(among(r, hi/2, hi), hi)
}

// anyGrove is a grove with a few seasons, in which no more are cut than are ripe.
func anyGrove(r *rand.Rand, id int) api.Grove {
	g := api.Grove{Id: id, Habit: api.Habit{Rate: span(0, 1000), Dies: among(r, 3, 6), Ripe: among(r, 1, 2), Keep: r.IntN(9)}, First: among(r, 10, 20)}
	for range g.Habit.Dies + 1 {
		g.Start = append(g.Start, r.IntN(4))
	}
	for range r.IntN(4) {
		g.Seasons = append(g.Seasons, api.Season{Shots: r.IntN(6)})
		_, ripe := standing(g)
		g.Seasons[len(g.Seasons)-1].Cut = r.IntN(ripe + 1)
	}
	return g
}

// anyCommand is one that may be done, mostly.
func (l *life) anyCommand(r *rand.Rand) api.Entry {
	draw := []func(*rand.Rand) api.Entry{
		l.anySeason, l.anySeason, l.anySoak, l.anyPole, l.anyPole, l.anyPole, l.anyTest, l.anyTest, l.anyKnot, l.anyProp, l.anyProp, l.anyProp, l.anyProp, l.anyProp, l.anyProp, l.anyTake, l.anyTake, l.anyUse, l.anyUse, l.wildCommand,
	}
	return draw[r.IntN(len(draw))](r)
}

// anyUse opens a scaffold if it is accepted, and shuts it later.
func (l *life) anyUse(r *rand.Rand) api.Entry {
	if l.Open && r.IntN(6) > 0 {
		return l.anyTake(r)
	}
	known, _, _ := frame.Accept(l.Frame)
	if known == api.KnownYes || r.IntN(4) == 0 {
		return entry(one(r, "USE", "USE", "USE", "SHUT"))
	}
	return l.anyProp(r)
}

func command(word string, args ...int) api.Entry { return api.Entry{Word: word, Args: args} }

// wildCommand has a word that may be none, or numbers that may be too many, too few, or too great.
func (l *life) wildCommand(r *rand.Rand) api.Entry {
	words := []string{"SEASON", "SOAK", "POLE", "TEST", "KNOT", "PROP", "TAKE", "USE", "SHUT", "END", "use"}
	word := words[r.IntN(len(words))]
	x := command(word)
	number := needs()[word][0]
	if r.IntN(4) == 0 {
		number = r.IntN(14)
	}
	for range number {
		n := one(r, odd()...)
		if r.IntN(3) > 0 {
			n = min(api.MaxSaid, max(-api.MaxSaid, n))
		}
		x.Args = append(x.Args, n)
	}
	return x
}

func (l *life) anySeason(r *rand.Rand) api.Entry {
	g := l.Groves[r.IntN(len(l.Groves))]
	shots := one(r, 0, r.IntN(7), r.IntN(7), r.IntN(32))
	next := g
	next.Seasons = append(slices.Clip(g.Seasons), api.Season{})
	_, ripe := standing(next)
	return command("SEASON", g.Id-r.IntN(10)/9, shots, min(r.IntN(ripe+2), 31))
}

func (l *life) anySoak(r *rand.Rand) api.Entry {
	lo := among(r, 120, 240)
	hi := lo + one(r, 0, 2, min(60, 250-lo), 20)
	x := command("SOAK", among(r, 10, 20), among(r, 1000, 4000), lo, hi, among(r, 5, 60), one(r, among(r, 1, 4), among(r, 2, 14)))
	for range among(r, 1, 4) {
		x.Args = append(x.Args, one(r, 1, 1, 1, 2, 2, 3, r.IntN(8)))
	}
	return x
}

// poleId is the Id of a pole that is there, mostly, of which something is so, if possible.
func (l *life) poleId(r *rand.Rand, so func(p api.Pole) bool) int {
	poles := l.Frame.Sheet.Poles
	for range 20 {
		if len(poles) > 0 && r.IntN(30) > 0 {
			if p := poles[r.IntN(len(poles))]; so(p) {
				return p.Id
			}
		}
	}
	return r.IntN(40)
}

func whichever(api.Pole) bool { return true }

func (l *life) anyPole(r *rand.Rand) api.Entry {
	var cut []api.Pole
	for _, g := range l.Groves {
		for _, c := range modelCulms(g) {
			if c.cut != stub {
				cut = append(cut, api.Pole{Clone: g.Id, Cut: c.cut, Shot: c.shot})
			}
		}
	}
	p := api.Pole{Clone: r.IntN(9), Cut: among(r, 8, 25), Shot: among(r, 7, 20)}
	if len(cut) > 0 && r.IntN(8) > 0 {
		p = cut[r.IntN(len(cut))]
	}
	x := command("POLE", r.IntN(40), p.Clone, p.Cut, p.Shot)
	for range 3 {
		x.Args = append(x.Args, among(r, 24, 120))
	}
	for range 3 {
		x.Args = append(x.Args, one(r, r.IntN(14), among(r, 4, 12), among(r, 8, 12), among(r, 8, 12)))
	}
	soak, place := r.IntN(6), r.IntN(4)
	if len(l.Soaks) > 0 && r.IntN(8) > 0 {
		soak = r.IntN(len(l.Soaks))
		place = r.IntN(len(l.Soaks[soak].Batch.Poles))
	}
	return command("POLE", append(x.Args, soak, place)...)
}

// strength is how strong a section of a pole is in truth.
func (l *life) strength(p api.Pole, section int) int {
	return min(1000000, 3*p.Walls[section]*(p.Girths[section]-p.Walls[section])*l.stress[p.Id][section]/1000)
}

// anyTest tells what is true, or something else.
func (l *life) anyTest(r *rand.Rand) api.Entry {
	x := command("TEST", r.IntN(50), l.poleId(r, whichever), r.IntN(3), among(r, 1, 90000), r.IntN(2))
	for _, p := range l.Frame.Sheet.Poles {
		if p.Id == x.Args[1] && (l.honest || r.IntN(2) == 0) {
			force := max(1, l.strength(p, x.Args[2])*among(r, 80, 120)/100)
			x.Args[3], x.Args[4] = force, 0
			if force <= l.strength(p, x.Args[2]) {
				x.Args[4] = 1
			}
		}
	}
	return x
}

func (l *life) anyKnot(r *rand.Rand) api.Entry {
	put := anyPut(r)
	switch r.IntN(4) {
	case 0:
		return command("KNOT", put.Lo, put.Lo-1)
	case 1:
		return command("KNOT", put.Lo, put.Hi)
	}
	return command("KNOT", 0, 0)
}

func (l *life) anyProp(r *rand.Rand) api.Entry {
	knots := len(l.Frame.Knots)
	from := r.IntN(knots)
	to := from + 1 + r.IntN(knots-from)
	if to == knots {
		to = api.Ground
	}
	pole := l.poleId(r, func(p api.Pole) bool { return r.IntN(20) == 0 || soaked(l.Soaks, p) })
	section := r.IntN(3)
	if slices.ContainsFunc(l.Frame.Props, func(p api.Prop) bool { return p.Pole == pole && p.Section == section }) {
		section = r.IntN(3)
	}
	joint := one(r, 2, 3, 3, 3, 3, 3, 3, 3, 3, r.IntN(260))
	if l.Open {
		joint = one(r, 1, 1, 2, 3)
	}
	return command("PROP", pole, section, from, to, among(r, 1, 9), joint)
}

func (l *life) anyTake(r *rand.Rand) api.Entry {
	return command("TAKE", l.poleId(r, func(p api.Pole) bool { return r.IntN(9) == 0 || uses(l.Frame, p.Id) }))
}

func uses(f api.Frame, pole int) bool {
	return slices.ContainsFunc(f.Props, func(p api.Prop) bool { return p.Pole == pole })
}

// goOn is the life with its valley after a command that was done. What is true of a pole more is drawn.
func (l *life) goOn(r *rand.Rand, next api.Valley) {
	l.Valley = next
	for _, p := range next.Frame.Sheet.Poles {
		if _, ok := l.stress[p.Id]; ok {
			continue
		}
		n, _ := grade.Grade(next.Frame.Sheet, next.Frame.Grading, p.Id)
		if n == 0 {
			l.stress[p.Id] = [3]int{}
			continue
		}
		var stress [3]int
		for section, lo := range l.least[n-1] {
			hi := min(lo+next.Frame.Grading.Vary, next.Frame.Grading.Grades[n-1].Stress[section].Hi)
			stress[section] = among(r, lo, hi)
		}
		l.stress[p.Id] = stress
	}
}
