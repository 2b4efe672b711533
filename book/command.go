package book

import (
	"slices"

	"canebrake/api"
	"canebrake/clump"
	"canebrake/frame"
	"canebrake/grade"
)

// command is how many numbers a word needs, and what it does.
type command struct {
	needs api.Span
	do    func(*work)
}

func commands() map[string]command {
	exactly := func(number int) api.Span { return api.Span{Lo: number, Hi: number} }
	return map[string]command{
		"SEASON": {exactly(3), (*work).season},
		"SOAK":   {api.Span{Lo: soakNumbers + 1, Hi: soakNumbers + api.MaxBatch}, (*work).soak},
		"POLE":   {exactly(6 + 2*api.Sections), (*work).pole},
		"TEST":   {exactly(5), (*work).test},
		"KNOT":   {exactly(2), (*work).knot},
		"PROP":   {exactly(6), (*work).prop},
		"TAKE":   {exactly(1), (*work).take},
		"USE":    {exactly(0), (*work).use},
		"SHUT":   {exactly(0), (*work).shut},
	}
}

// soakNumbers is how many numbers a SOAK has before those of its poles.
const soakNumbers = 6

// commandOf is the command with the word of an entry, and whether there is one that needs as many numbers.
func commandOf(x api.Entry) (command, bool) {
	c, ok := commands()[x.Word]
	return c, ok && within(c.needs, len(x.Args))
}

func (w *work) season() {
	shots, cut := w.args[1], w.args[2]
	at := groveAt(w.Groves, w.args[0])
	refuseIf(at < 0, api.ErrNone)
	g := &w.Groves[at]
	last := g.First + len(g.Seasons)
	refuseIf(len(g.Seasons) == api.MaxBook || last == api.MaxYear, api.ErrFull)
	refuseIf(!within(upTo(api.MaxShots), shots, cut), api.ErrBad)
	// As long as nothing is cut in it, the year tells what is ripe.
	g.Seasons = append(g.Seasons, api.Season{Shots: shots})
	stand, _ := clump.Stand(*g, last+1)
	ripe, left := sum(stand[g.Habit.Ripe:]), sum(stand)-cut
	doubtIf(cut > ripe, "ripe", ripe)
	doubtIf(left < g.Habit.Keep, "keep", left)
	g.Seasons[len(g.Seasons)-1].Cut = cut
}

func (w *work) soak() {
	refuseIf(len(w.Soaks) == api.MaxSoaks, api.ErrFull)
	a, cells := w.args, w.args[soakNumbers:]
	refuseIf(!within(fromOne(api.MaxWall), cells...), api.ErrBad)
	b := api.Batch{Water: a[0], Borax: a[1], Spread: api.Span{Lo: a[2], Hi: a[3]}, Need: a[4]}
	for _, number := range cells {
		b.Poles = append(b.Poles, make([]int, number))
	}
	w.Soaks = append(w.Soaks, api.Soak{Batch: b, Hours: a[5]})
	// Without a pole nothing is asked of soaks but whether they are valid.
	_, e := fit(w.Valley)
	refuseIf(e != api.OK, api.ErrBad)
}

func (w *work) pole() {
	s := &w.Frame.Sheet
	refuseIf(len(s.Poles) == api.MaxPoles, api.ErrFull)
	p := poleOf(w.args)
	s.Poles = inPlace(s.Poles, p, func(p api.Pole) int { return p.Id })
	refuseIf(grade.Check(*s, w.Frame.Grading) != api.OK, api.ErrBad)
	traces, _ := grade.Trace(*s, w.Frame.Grading, w.Groves)
	trace := traces[poleAt(w.Valley, p.Id)]
	doubtIf(trace == api.KnownNo, "trace")
	doubtIf(trace == api.KnownOpen, "many", culms(w.Groves, p))
}

func (w *work) test() {
	s := &w.Frame.Sheet
	refuseIf(len(s.Tests) == api.MaxTests, api.ErrFull)
	a := w.args
	refuseIf(!within(upTo(1), a[4]), api.ErrBad)
	t := api.Test{Id: a[0], Pole: a[1], Section: a[2], Force: a[3], Held: a[4] == 1}
	s.Tests = inPlace(s.Tests, t, func(t api.Test) int { return t.Id })
	refuseIf(grade.Check(*s, w.Frame.Grading) != api.OK, api.ErrBad)
	clash, _ := grade.Clash(*s, w.Frame.Grading)
	doubtIf(len(clash) > 0, "clash", clash...)
}

func (w *work) knot() {
	f := &w.Frame
	refuseIf(len(f.Knots) == api.MaxKnots, api.ErrFull)
	f.Knots = append(f.Knots, api.Span{Lo: w.args[0], Hi: w.args[1]})
	refuseIf(frame.Check(*f) != api.OK, api.ErrBad)
	w.doubtIfItFalls()
}

func (w *work) prop() {
	f := &w.Frame
	refuseIf(len(f.Props) == api.MaxProps, api.ErrFull)
	a := w.args
	// Beyond these a number of a kind would be taken for another one.
	refuseIf(!within(upTo(255), a[5]), api.ErrBad)
	p := api.Prop{Pole: a[0], Section: a[1], From: a[2], To: a[3], Share: a[4], Joint: uint8(a[5])}
	f.Props = append(f.Props, p)
	refuseIf(frame.Check(*f) != api.OK, api.ErrBad)
	_, e := grade.Strength(f.Sheet, f.Grading, p.Pole, p.Section)
	doubtIf(e != api.OK, "weak")
	fits, _ := fit(w.Valley, f.Sheet.Poles[poleAt(w.Valley, p.Pole)])
	doubtIf(!sure(fits), "unfit")
	w.doubtIfItFalls()
}

func (w *work) take() {
	pole := w.args[0]
	refuseIf(poleAt(w.Valley, pole) < 0, api.ErrNone)
	refuseIf(!used(w.Valley, pole), api.ErrBad)
	stands, _ := frame.Stands(w.Frame, []int{pole})
	doubtIf(w.Open && stands != api.KnownYes, "falls")
	w.Frame.Props = slices.DeleteFunc(w.Frame.Props, func(p api.Prop) bool { return p.Pole == pole })
}

func (w *work) use() {
	refuseIf(w.Open, api.ErrBad)
	w.Open = true
	w.doubtIfItFalls()
}

func (w *work) shut() {
	refuseIf(!w.Open, api.ErrBad)
	w.Open = false
}

// doubtIfItFalls passes on a doubt if the scaffold is open, and not accepted. If it is so already with no pole taken out, there is none to be named.
func (w *work) doubtIfItFalls() {
	if !w.Open {
		return
	}
	known, pole, _ := frame.Accept(w.Frame)
	falls := known != api.KnownYes
	doubtIf(falls && pole < 0, "falls")
	doubtIf(falls, "falls", pole)
}
