package pool_test

import (
	"slices"
	"testing"

	"canebrake/api"
	"canebrake/pool"
)

// library is all arguments of Judge but the papers.
type library struct {
	s      api.Sheet
	g      api.Grading
	groves []api.Grove
	soaks  []api.Soak
}

func (b library) judge(l []api.Paper) ([]uint8, api.Errno) {
	return pool.Judge(b.s, b.g, b.groves, b.soaks, l)
}

func (b library) abroad(l []api.Paper) ([]int, api.Errno) {
	return pool.Abroad(b.s, b.g, b.groves, b.soaks, l)
}

// grove is that of layer 5's examples: in 105 one culm of 102 is cut, and two of 103.
func grove() api.Grove {
	return api.Grove{Id: 7, Habit: api.Habit{Ripe: 2, Dies: 4}, First: 104, Start: []int{0, 2, 1, 0, 0}, Seasons: []api.Season{{Cut: 3}}}
}

// soak has a core that is reached in 4 or 5 hours, one that is from the beginning, and one that never is.
func soak(hours int) api.Soak {
	return api.Soak{Batch: api.Batch{Water: 10, Borax: 1000, Poles: [][]int{{0, 0}, {0, 20}, {0, 0, 0, 0, 0, 0}}, Spread: span(249, 250), Need: 20}, Hours: hours}
}

// shelf has the sheet of the examples with one pole more. What is known of its poles:
//   - 1: fit, of the grade 2, perhaps of the clone 7, bears 135,000 to 175,497;
//   - 2: perhaps fit, of the grade 2, perhaps of the clone 7, bears 121,500 to 161,997;
//   - 3: fit, of the grade 1, of the clone 7, bears 54,000 to 162,000;
//   - 9: not fit, of no grade, not of the clone 8, and of no known strength.
func shelf() library {
	s := sheet()
	s.Poles = append(s.Poles, pole(9, 8, 104))
	for i, place := range []int{1, 0, 1, 2} {
		s.Poles[i].Place = place
	}
	return library{s, grading(), []api.Grove{grove()}, []api.Soak{soak(4)}}
}

func paper(pole int, kind uint8, n int) api.Paper { return api.Paper{Pole: pole, Kind: kind, N: n} }

// papers gives papers the Ids from 0 on.
func papers(l ...api.Paper) []api.Paper {
	for i := range l {
		l[i].Id = i
	}
	return l
}

func treated(pole int) api.Paper { return paper(pole, api.PaperTreated, 0) }

func wantJudged(t *testing.T, b library, l []api.Paper, want ...uint8) {
	t.Helper()
	if known, e := b.judge(l); !slices.Equal(known, want) || e != api.OK {
		t.Error(b, l, "is", known, e, "not", want)
	}
}

func wantAbroad(t *testing.T, b library, l []api.Paper, want ...int) {
	t.Helper()
	if ids, e := b.abroad(l); !slices.Equal(ids, want) || e != api.OK {
		t.Error(b, l, "is", ids, e, "not", want)
	}
}

// every is one paper of each kind, or several, with what is known of it by the shelf.
func every() (l []api.Paper, known []uint8) {
	for _, x := range []struct {
		pole  int
		kind  uint8
		n     int
		known uint8
	}{
		{1, api.PaperTreated, 0, 2}, {2, api.PaperTreated, 0, 1}, {3, api.PaperTreated, 0, 2}, {9, api.PaperTreated, 0, 0},
		{1, api.PaperGrade, 0, 2}, {1, api.PaperGrade, 1, 2}, {1, api.PaperGrade, 2, 2}, {1, api.PaperGrade, 3, 0},
		{3, api.PaperGrade, 0, 2}, {3, api.PaperGrade, 1, 2}, {3, api.PaperGrade, 2, 0}, {3, api.PaperGrade, 3, 0},
		{9, api.PaperGrade, 0, 2}, {9, api.PaperGrade, 1, 0}, {9, api.PaperGrade, 3, 0},
		{1, api.PaperOrigin, 7, 1}, {2, api.PaperOrigin, 7, 1}, {3, api.PaperOrigin, 7, 2}, {9, api.PaperOrigin, 8, 0},
		{1, api.PaperOrigin, 8, 0}, {3, api.PaperOrigin, 0, 0}, {3, api.PaperOrigin, 6, 0}, {3, api.PaperOrigin, 8, 0}, {3, api.PaperOrigin, 9999, 0}, {9, api.PaperOrigin, 7, 0},
		{1, api.PaperBears, 1, 2}, {1, api.PaperBears, 134999, 2}, {1, api.PaperBears, 135000, 2}, {1, api.PaperBears, 135001, 1}, {1, api.PaperBears, 175497, 1}, {1, api.PaperBears, 175498, 0}, {1, api.PaperBears, 1000000, 0},
		{2, api.PaperBears, 121500, 2}, {2, api.PaperBears, 121501, 1}, {2, api.PaperBears, 161998, 0}, {3, api.PaperBears, 54000, 2}, {3, api.PaperBears, 162001, 0},
		{9, api.PaperBears, 1, 0}, {9, api.PaperBears, 1000000, 0},
	} {
		l, known = append(l, paper(x.pole, x.kind, x.n)), append(known, x.known)
	}
	return papers(l...), known
}

// TestJudge has papers of each kind, each one alone, and all together in both orders (P10.3).
func TestJudge(t *testing.T) {
	l, known := every()
	for i, p := range l {
		wantJudged(t, shelf(), []api.Paper{p}, known[i])
	}
	wantJudged(t, shelf(), l, known...)
	slices.Reverse(l)
	slices.Reverse(known)
	wantJudged(t, shelf(), papers(l...), known...)
	wantJudged(t, shelf(), nil)
	wantJudged(t, library{g: grading()}, nil)
	// Numbers of papers do not need to be next to each other, and the same may be written again and again.
	same := slices.Repeat([]api.Paper{paper(1, api.PaperBears, 135001)}, 40)
	for i := range same {
		same[i].Id = 9999 - 200*(39-i)
	}
	wantJudged(t, shelf(), same, slices.Repeat([]uint8{1}, 40)...)
}

// TestJudgeByOtherBooks has the same papers, and books that tell more, less, or nothing (P10.3).
func TestJudgeByOtherBooks(t *testing.T) {
	told := papers(treated(1), treated(2), paper(1, api.PaperOrigin, 7), paper(3, api.PaperOrigin, 7), paper(9, api.PaperOrigin, 8), paper(2, api.PaperBears, 121500), paper(9, api.PaperBears, 1))
	wantJudged(t, shelf(), told, 2, 1, 1, 2, 0, 2, 0)
	bare := shelf()
	bare.groves, bare.soaks = nil, nil
	wantJudged(t, bare, told, 0, 0, 0, 0, 0, 2, 0)
	// One hour more reaches the core of 2, one less does not.
	for hours, known := range map[int]uint8{3: api.KnownNo, 4: api.KnownOpen, 5: api.KnownYes} {
		later := shelf()
		later.soaks[0].Hours = hours
		wantJudged(t, later, told, 2, known, 1, 2, 0, 2, 0)
	}
	// Another soak, and another place, is that of another pole.
	moved := shelf()
	moved.soaks = append(moved.soaks, soak(5))
	moved.s.Poles[1].Soak, moved.s.Poles[0].Soak = 1, 2
	wantJudged(t, moved, told, 0, 2, 1, 2, 0, 2, 0)
	// The pole 2 was shot in another year: now both are traced.
	alone := shelf()
	alone.s.Poles[1].Shot = 101
	wantJudged(t, alone, told, 2, 1, 2, 2, 0, 2, 0)
	// The clone 8 has a grove by which a culm of 104 was cut in 105.
	grown := shelf()
	grown.groves = append(grown.groves, api.Grove{Id: 8, Habit: api.Habit{Ripe: 1, Dies: 1}, First: 104, Start: []int{1, 0}, Seasons: []api.Season{{Cut: 1}}})
	wantJudged(t, grown, told, 2, 1, 1, 2, 2, 2, 0)
	// Without tests, a foot may be as weak as its grade.
	loose := shelf()
	loose.s.Tests = nil
	wantJudged(t, loose, told, 2, 1, 1, 2, 0, 1, 0)
	// A test of 1 tells of 2.
	sure := shelf()
	sure.s.Tests = []api.Test{{Id: 1, Pole: 1, Force: 175500, Held: true}}
	wantJudged(t, sure, told, 2, 1, 1, 2, 0, 2, 0)
}

// TestOnlyTheFootBears has poles whose feet are weaker, or stronger, than other sections (P10.3).
func TestOnlyTheFootBears(t *testing.T) {
	b := library{g: grading()}
	b.g.Grades[1].Stress = [3]api.Span{span(1000, 1000), span(50000, 50000), span(200000, 200000)}
	b.s.Poles = []api.Pole{pole(5, 1, 100)}
	// 2,700 times 1,000, 1,728 times 50,000, and 1,248 times 200,000.
	for n, known := range map[int]uint8{1: 2, 2700: 2, 2701: 0, 86400: 0, 249600: 0} {
		wantJudged(t, b, papers(paper(5, api.PaperBears, n)), known)
	}
	b.g.Grades[1].Stress = [3]api.Span{span(100000, 200000), span(1, 1), span(2, 2)}
	for n, known := range map[int]uint8{1: 2, 270000: 2, 270001: 1, 540000: 1, 540001: 0} {
		wantJudged(t, b, papers(paper(5, api.PaperBears, n)), known)
	}
	// The greatest force is told as such, even if a foot bears more.
	b.s.Poles[0].Girths, b.s.Poles[0].Walls = [3]int{300, 80, 60}, [3]int{60, 8, 8}
	wantJudged(t, b, papers(paper(5, api.PaperBears, 1000000)), 2)
	b.g.Grades[1].Stress[0] = span(23148, 200000)
	// 43,200 times 23,148, divided by 1,000, is 999,993.
	wantJudged(t, b, papers(paper(5, api.PaperBears, 999993), paper(5, api.PaperBears, 999994), paper(5, api.PaperBears, 1000000)), 2, 1, 1)
	b.g.Grades[1].Stress[0] = span(23149, 200000)
	wantJudged(t, b, papers(paper(5, api.PaperBears, 1000000)), 2)
	// A foot that bears nothing at all for sure, by a stress of 1.
	b.s.Poles[0].Girths, b.s.Poles[0].Walls = [3]int{20, 80, 60}, [3]int{8, 8, 8}
	b.g.Grades[1].Stress[0] = span(1, 1)
	wantJudged(t, b, papers(paper(5, api.PaperBears, 1)), 0)
	b.g.Grades[1].Stress[0] = span(1, 4)
	wantJudged(t, b, papers(paper(5, api.PaperBears, 1)), 1)
}

// TestTestsThatClash has tests that contradict each other: then no pole bears anything by the books, but all else is told as it was (P10.3).
func TestTestsThatClash(t *testing.T) {
	b := shelf()
	b.s.Tests = append(b.s.Tests, api.Test{Id: 6, Pole: 2, Force: 118800})
	l, known := every()
	for i, p := range l {
		if p.Kind == api.PaperBears {
			known[i] = api.KnownNo
		}
	}
	wantJudged(t, b, l, known...)
	wantAbroad(t, b, papers(treated(1), treated(3), paper(3, api.PaperBears, 1)), 1)
}

// TestAbroad has poles with papers of which all are known, some are not, none are, and of which none is PaperTreated (P10.4).
func TestAbroad(t *testing.T) {
	for _, x := range []struct {
		l    []api.Paper
		want []int
	}{
		{nil, nil},
		{papers(treated(1)), []int{1}}, {papers(treated(2)), nil}, {papers(treated(3)), []int{3}}, {papers(treated(9)), nil},
		{papers(treated(9), treated(3), treated(2), treated(1)), []int{1, 3}},
		{papers(treated(3), treated(1), treated(3), treated(1)), []int{1, 3}},
		// None is PaperTreated.
		{papers(paper(1, api.PaperGrade, 2)), nil}, {papers(paper(3, api.PaperOrigin, 7)), nil}, {papers(paper(1, api.PaperBears, 1)), nil},
		{papers(paper(1, api.PaperGrade, 2), paper(1, api.PaperBears, 135000)), nil},
		{papers(treated(3), paper(1, api.PaperGrade, 2), paper(1, api.PaperBears, 135000)), []int{3}},
		// All others are so.
		{papers(treated(1), paper(1, api.PaperGrade, 2), paper(1, api.PaperBears, 135000)), []int{1}},
		{papers(paper(1, api.PaperBears, 135000), paper(1, api.PaperGrade, 0), treated(1)), []int{1}},
		{papers(treated(3), paper(3, api.PaperGrade, 1), paper(3, api.PaperOrigin, 7), paper(3, api.PaperBears, 54000)), []int{3}},
		// One of them is not, or not for sure, before or after the others.
		{papers(treated(1), paper(1, api.PaperGrade, 3)), nil}, {papers(paper(1, api.PaperGrade, 3), treated(1)), nil},
		{papers(treated(1), paper(1, api.PaperOrigin, 7)), nil}, {papers(paper(1, api.PaperOrigin, 7), treated(1)), nil},
		{papers(treated(3), paper(3, api.PaperOrigin, 8)), nil}, {papers(treated(3), paper(3, api.PaperOrigin, 7), paper(3, api.PaperOrigin, 8)), nil},
		{papers(treated(1), paper(1, api.PaperBears, 135001)), nil}, {papers(treated(1), paper(1, api.PaperBears, 135000), paper(1, api.PaperBears, 175498), treated(1)), nil},
		// What is written of one pole is nothing to others.
		{papers(treated(1), paper(3, api.PaperGrade, 2), treated(3)), []int{1}},
		{papers(treated(1), paper(9, api.PaperGrade, 2), treated(3), paper(2, api.PaperOrigin, 1)), []int{1, 3}},
		{papers(treated(2), treated(2), paper(2, api.PaperGrade, 2), treated(1)), []int{1}},
	} {
		wantAbroad(t, shelf(), x.l, x.want...)
	}
}

// TestAllAbroad has the most papers, and sheets of all sizes (P10.4).
func TestAllAbroad(t *testing.T) {
	for number := range 13 {
		b := library{g: grading(), soaks: []api.Soak{soak(0)}}
		var l []api.Paper
		var ids []int
		for i := range number {
			p := pole(800*i+7, 3, 104)
			p.Place = 1
			b.s.Poles, ids = append(b.s.Poles, p), append(ids, p.Id)
		}
		for i := range 40 {
			if number > 0 {
				l = append(l, api.Paper{Id: 9960 + i, Pole: ids[len(ids)-1-i%number], Kind: api.PaperTreated})
			}
		}
		wantAbroad(t, b, l, ids...)
		wantJudged(t, b, l, slices.Repeat([]uint8{2}, len(l))...)
		if number > 1 {
			l[39].Kind, l[39].N = api.PaperGrade, 1
			lost := slices.Index(ids, l[39].Pole)
			wantAbroad(t, b, l, slices.Delete(ids, lost, lost+1)...)
		}
	}
}
