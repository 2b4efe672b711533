package bloom_test

import (
	"math"
	"slices"
	"testing"

	"canebrake/api"
	"canebrake/bloom"
)

func span(lo, hi int) api.Span { return api.Span{Lo: lo, Hi: hi} }

// example is the genets of the chapter's examples.
func example() []api.Genet {
	return []api.Genet{
		{Id: 1, Kind: 4, Mother: api.NoMother, Born: span(1800, 1805), Seed: 30},
		{Id: 2, Kind: 4, Mother: 1, Born: span(1800, 2000), Seed: 20},
		{Id: 3, Kind: 4, Mother: api.NoMother, Born: span(1840, 1860), Seed: 5},
	}
}

// told is the tales of the chapter's examples, and more.
func told(more ...api.Tale) []api.Tale {
	return append([]api.Tale{
		{Id: 10, Of: 1, Kind: api.TaleBloomed, From: 1850, To: 1852},
		{Id: 11, Of: 3, Kind: api.TaleLived, From: 1900},
		{Id: 12, Of: 2, Kind: api.TaleLived, From: 1895},
	}, more...)
}

func numbers(from, to int) []int {
	var l []int
	for n := from; n <= to; n++ {
		l = append(l, n)
	}
	return l
}

// line is so many genets of one kind from the Id 0 on, each but the first one of the seed of the one before.
func line(length, kind int, born api.Span) []api.Genet {
	l := []api.Genet{{Kind: kind, Mother: api.NoMother, Born: born}}
	for id := 1; id < length; id++ {
		l = append(l, api.Genet{Id: id, Kind: kind, Mother: id - 1, Born: span(0, api.MaxYear)})
	}
	return l
}

func aged(id, kind, from, to int) api.Tale {
	return api.Tale{Id: id, Of: kind, Kind: api.TaleAged, From: from, To: to}
}

func bloomed(id, of, from, to int) api.Tale {
	return api.Tale{Id: id, Of: of, Kind: api.TaleBloomed, From: from, To: to}
}

func lived(id, of, from int) api.Tale {
	return api.Tale{Id: id, Of: of, Kind: api.TaleLived, From: from}
}

func gone(id, of, from int) api.Tale {
	return api.Tale{Id: id, Of: of, Kind: api.TaleGone, From: from}
}

func TestExamples(t *testing.T) {
	for kind, want := range map[int][]int{4: numbers(45, 52), 0: numbers(10, 150)} {
		if l, e := bloom.Ages(example(), told(), kind); e != api.OK || !slices.Equal(l, want) {
			t.Error(kind, l, e)
		}
	}
	for id, want := range map[int]api.Span{1: span(1850, 1852), 2: span(1896, 1905), 3: span(1901, 1912)} {
		if l, e := bloom.Years(example(), told(), id); e != api.OK || !slices.Equal(l, []api.Span{want}) {
			t.Error(id, l, e)
		}
	}
	lives := []api.Life{{Genet: 1, Born: 1805, Bloom: 1850}, {Genet: 2, Born: 1851, Bloom: 1896}, {Genet: 3, Born: 1856, Bloom: 1901}}
	if l, e := bloom.Truth(example(), told(), 2, 1896); e != api.OK || !slices.Equal(l, lives) {
		t.Error(l, e)
	}
	for year, want := range map[int]int{1902: 25, 1851: 30, 1896: 20} {
		if n, e := bloom.Store(example(), told(), year); e != api.OK || n != want {
			t.Error(year, n, e)
		}
	}
	if l, e := bloom.Liars(example(), told(gone(13, 3, 1890))); e != api.OK || !slices.Equal(l, []int{11}) {
		t.Error(l, e)
	}
}

// TestCheckNumbers sets each number to the ends of its range, and one beyond (P2.1, R5).
func TestCheckNumbers(t *testing.T) {
	for name, x := range map[string]struct {
		lo, hi int
		e      api.Errno
		set    func(l []api.Genet, s []api.Tale, n int)
	}{
		"first id":            {0, 1, api.ErrGenets, func(l []api.Genet, _ []api.Tale, n int) { l[0].Id = n; l[1].Mother = api.NoMother }},
		"last id":             {3, 9999, api.ErrGenets, func(l []api.Genet, _ []api.Tale, n int) { l[2].Id = n }},
		"kind":                {0, 9, api.ErrGenets, func(l []api.Genet, _ []api.Tale, n int) { l[2].Kind = n }},
		"kind of a daughter":  {4, 4, api.ErrGenets, func(l []api.Genet, _ []api.Tale, n int) { l[1].Kind = n }},
		"mother":              {1, 2, api.ErrGenets, func(l []api.Genet, _ []api.Tale, n int) { l[2].Mother = n }},
		"no mother":           {-1, -1, api.ErrGenets, func(l []api.Genet, _ []api.Tale, n int) { l[0].Mother = n }},
		"born lo":             {0, 1860, api.ErrGenets, func(l []api.Genet, _ []api.Tale, n int) { l[2].Born.Lo = n }},
		"born hi":             {1840, 3000, api.ErrGenets, func(l []api.Genet, _ []api.Tale, n int) { l[2].Born.Hi = n }},
		"seed":                {0, 1000000, api.ErrGenets, func(l []api.Genet, _ []api.Tale, n int) { l[2].Seed = n }},
		"first tale":          {0, 10, api.ErrTales, func(_ []api.Genet, s []api.Tale, n int) { s[0].Id = n }},
		"last tale":           {14, 9999, api.ErrTales, func(_ []api.Genet, s []api.Tale, n int) { s[4].Id = n }},
		"of, flowered":        {1, 3, api.ErrTales, func(_ []api.Genet, s []api.Tale, n int) { s[0].Of = n }},
		"of, had not":         {1, 3, api.ErrTales, func(_ []api.Genet, s []api.Tale, n int) { s[1].Of = n }},
		"of, had":             {1, 3, api.ErrTales, func(_ []api.Genet, s []api.Tale, n int) { s[3].Of = n }},
		"of, a kind":          {0, 9, api.ErrTales, func(_ []api.Genet, s []api.Tale, n int) { s[4].Of = n }},
		"from, flowered":      {0, 1852, api.ErrTales, func(_ []api.Genet, s []api.Tale, n int) { s[0].From = n }},
		"to, flowered":        {1850, 3000, api.ErrTales, func(_ []api.Genet, s []api.Tale, n int) { s[0].To = n }},
		"from, had not":       {0, 3000, api.ErrTales, func(_ []api.Genet, s []api.Tale, n int) { s[1].From = n }},
		"to, had not":         {0, 0, api.ErrTales, func(_ []api.Genet, s []api.Tale, n int) { s[1].To = n }},
		"from, had":           {0, 3000, api.ErrTales, func(_ []api.Genet, s []api.Tale, n int) { s[3].From = n }},
		"to, had":             {0, 0, api.ErrTales, func(_ []api.Genet, s []api.Tale, n int) { s[3].To = n }},
		"from, ages":          {0, 60, api.ErrTales, func(_ []api.Genet, s []api.Tale, n int) { s[4].From = n }},
		"to, ages":            {40, 3000, api.ErrTales, func(_ []api.Genet, s []api.Tale, n int) { s[4].To = n }},
		"kind of a tale of 3": {1, 4, api.ErrTales, func(_ []api.Genet, s []api.Tale, n int) { s[1] = api.Tale{Id: 11, Of: 3, Kind: uint8(n)} }},
	} {
		for _, n := range []int{x.lo, x.hi, x.lo - 1, x.hi + 1, math.MinInt, math.MaxInt} {
			if name == "kind of a tale of 3" {
				n &= math.MaxUint8
			}
			want := x.e
			if n >= x.lo && n <= x.hi {
				want = api.OK
			}
			l, s := example(), told(gone(13, 1, 1900), aged(14, 4, 40, 60))
			if name == "mother" || name == "first id" || name == "last id" {
				s = nil // no tale is to be of a genet that is gone
			}
			x.set(l, s, n)
			if e := bloom.Check(l, s); e != want {
				t.Error(name, n, e)
			}
		}
	}
}

func TestCheckLists(t *testing.T) {
	ids := func(ids ...int) []api.Genet {
		var l []api.Genet
		for _, id := range ids {
			l = append(l, api.Genet{Id: id, Mother: api.NoMother})
		}
		return l
	}
	tales := func(ids ...int) []api.Tale {
		var l []api.Tale
		for _, id := range ids {
			l = append(l, aged(id, 0, 0, 0))
		}
		return l
	}
	daughter := func(kind, mother int) []api.Genet {
		return append(ids(1, 2, 5), api.Genet{Id: 7, Kind: kind, Mother: mother})
	}
	for i, x := range []struct {
		l []api.Genet
		s []api.Tale
		e api.Errno
	}{
		{nil, nil, api.OK},
		{ids(numbers(0, 11)...), tales(numbers(0, 9)...), api.OK},
		{ids(numbers(9988, 9999)...), tales(numbers(9990, 9999)...), api.OK},
		{ids(numbers(0, 12)...), nil, api.ErrGenets},
		{nil, tales(numbers(0, 10)...), api.ErrTales},
		// Lists are by Id, and no two are the same.
		{ids(3, 3), nil, api.ErrGenets},
		{ids(3, 4, 3), nil, api.ErrGenets},
		{ids(4, 3), nil, api.ErrGenets},
		{ids(1, 2, 4, 3), nil, api.ErrGenets},
		{nil, tales(3, 3), api.ErrTales},
		{nil, tales(3, 4, 3), api.ErrTales},
		{nil, tales(4, 3), api.ErrTales},
		{nil, tales(1, 2, 4, 3), api.ErrTales},
		// Genets and tales may have the same Ids.
		{ids(3), tales(3), api.OK},
		// A mother is one of the list, of the same kind, and has a lesser Id.
		{daughter(0, 5), nil, api.OK},
		{daughter(0, 1), nil, api.OK},
		{daughter(0, 3), nil, api.ErrGenets},
		{daughter(0, 7), nil, api.ErrGenets},
		{daughter(0, -2), nil, api.ErrGenets},
		{daughter(1, 5), nil, api.ErrGenets},
		{append([]api.Genet{{Id: 0, Mother: 1}}, ids(1)...), nil, api.ErrGenets},
		// A tale of a genet needs one, a tale of a kind none.
		{nil, []api.Tale{bloomed(1, 0, 5, 5)}, api.ErrTales},
		{nil, []api.Tale{lived(1, 0, 5)}, api.ErrTales},
		{nil, []api.Tale{gone(1, 0, 5)}, api.ErrTales},
		{nil, []api.Tale{aged(1, 9, 5, 5)}, api.OK},
		{ids(10), []api.Tale{aged(1, 10, 5, 5)}, api.ErrTales},
		{ids(10), []api.Tale{gone(1, 10, 5)}, api.OK},
		{nil, []api.Tale{{Id: 1, Kind: 255}}, api.ErrTales},
		// What cannot be so may be told.
		{ids(1), []api.Tale{bloomed(1, 1, 0, 0), gone(2, 1, 0), lived(3, 1, 3000), aged(4, 0, 0, 9), aged(5, 0, 151, 3000)}, api.OK},
		{[]api.Genet{{Id: 1, Mother: -1}, {Id: 2, Mother: 1}}, nil, api.OK},
	} {
		if e := bloom.Check(x.l, x.s); e != x.e {
			t.Error(i, e)
		}
	}
}

// TestNothingTold asks where there are no genets, or no tales.
func TestNothingTold(t *testing.T) {
	for kind := range api.MaxKind + 1 {
		if l, e := bloom.Ages(nil, nil, kind); e != api.OK || !slices.Equal(l, numbers(10, 150)) {
			t.Error(kind, l, e)
		}
	}
	if l, e := bloom.Years(nil, nil, 0); e != api.ErrNone || len(l) != 0 {
		t.Error(l, e)
	}
	if l, e := bloom.Truth(nil, nil, 0, 100); e != api.ErrNone || len(l) != 0 {
		t.Error(l, e)
	}
	if l, e := bloom.Liars(nil, nil); e != api.OK || len(l) != 0 {
		t.Error(l, e)
	}
	for _, year := range []int{0, 1000, 3150} {
		if n, e := bloom.Store(nil, nil, year); e != api.OK || n != 0 {
			t.Error(year, n, e)
		}
	}
	if l, e := bloom.Liars(example(), nil); e != api.OK || len(l) != 0 {
		t.Error(l, e)
	}
	// Without tales, 2 grew from 1,811 on, and 3 is bound by nothing but the ages.
	for id, want := range map[int]api.Span{1: span(1810, 1955), 2: span(1821, 2106), 3: span(1850, 2010)} {
		if l, e := bloom.Years(example(), nil, id); e != api.OK || !slices.Equal(l, []api.Span{want}) {
			t.Error(id, l, e)
		}
	}
}

// TestAges has tales of each kind at the ends of what they leave (P2.1).
func TestAges(t *testing.T) {
	one := []api.Genet{{Id: 6, Kind: 2, Mother: api.NoMother, Born: span(100, 101)}}
	for i, x := range []struct {
		l    []api.Genet
		s    []api.Tale
		want []int
	}{
		{one, []api.Tale{bloomed(1, 6, 120, 121)}, numbers(19, 21)},
		{one, []api.Tale{bloomed(1, 6, 120, 120)}, numbers(19, 20)},
		{one, []api.Tale{bloomed(1, 6, 0, 110)}, numbers(10, 10)},
		{one, []api.Tale{bloomed(1, 6, 251, 3000)}, numbers(150, 150)},
		{one, []api.Tale{bloomed(1, 6, 252, 3000)}, nil},
		{one, []api.Tale{bloomed(1, 6, 0, 109)}, nil},
		{one, []api.Tale{lived(1, 6, 120)}, numbers(20, 150)},
		{one, []api.Tale{lived(1, 6, 250)}, numbers(150, 150)},
		{one, []api.Tale{lived(1, 6, 251)}, nil},
		{one, []api.Tale{lived(1, 6, 0)}, numbers(10, 150)},
		{one, []api.Tale{gone(1, 6, 120)}, numbers(10, 20)},
		{one, []api.Tale{gone(1, 6, 110)}, numbers(10, 10)},
		{one, []api.Tale{gone(1, 6, 109)}, nil},
		{one, []api.Tale{gone(1, 6, 3000)}, numbers(10, 150)},
		{one, []api.Tale{aged(1, 2, 20, 30)}, numbers(20, 30)},
		{one, []api.Tale{aged(1, 2, 0, 10)}, numbers(10, 10)},
		{one, []api.Tale{aged(1, 2, 150, 3000)}, numbers(150, 150)},
		{one, []api.Tale{aged(1, 2, 0, 9)}, nil},
		{one, []api.Tale{aged(1, 2, 151, 151)}, nil},
		{one, []api.Tale{aged(1, 3, 20, 30)}, numbers(10, 150)},
		{one, []api.Tale{aged(1, 2, 20, 30), aged(2, 2, 28, 40)}, numbers(28, 30)},
		{one, []api.Tale{aged(1, 2, 20, 30), aged(2, 2, 31, 40)}, nil},
		{one, []api.Tale{lived(1, 6, 119), gone(2, 6, 120)}, numbers(19, 20)},
		{one, []api.Tale{lived(1, 6, 120), gone(2, 6, 120)}, nil},
		// What cannot be so of another kind leaves no truth.
		{one, []api.Tale{aged(1, 9, 5, 9)}, nil},
		{append(one, api.Genet{Id: 7, Kind: 2, Mother: 6, Born: span(110, 112)}), nil, numbers(10, 11)},
		{append(one, api.Genet{Id: 7, Kind: 2, Mother: 6, Born: span(0, 110)}), nil, nil},
		{append(one, api.Genet{Id: 7, Kind: 2, Mother: 6, Born: span(252, 252)}), nil, numbers(150, 150)},
		// A daughter's flowering tells of her mother's kind twice: she grew in 100 or 101, and the daughter flowers two ages and a year later.
		{append(one, api.Genet{Id: 7, Kind: 2, Mother: 6, Born: span(0, 3000)}), []api.Tale{bloomed(1, 7, 142, 142)}, numbers(20, 20)},
		// Two of one kind, far apart.
		{append(one, api.Genet{Id: 7, Kind: 2, Mother: api.NoMother, Born: span(2900, 2900)}), []api.Tale{bloomed(1, 6, 120, 121), gone(2, 7, 2920)}, numbers(19, 20)},
		// Long lines, from the first year on, and near the last one.
		{line(12, 2, span(0, 0)), nil, numbers(10, 150)},
		{line(12, 2, span(3000, 3000)), nil, nil},
		{line(3, 2, span(2970, 3000)), nil, numbers(10, 14)},
	} {
		want := api.OK
		if x.want == nil {
			want = api.ErrFalse
		}
		if l, e := bloom.Ages(x.l, x.s, 2); e != want || !slices.Equal(l, x.want) {
			t.Error(i, l, e)
		}
	}
}

// TestGaps has years that are apart, that touch, and that come in another order than the ages (P2.2).
func TestGaps(t *testing.T) {
	// 0 grew in 0, so 1 flowers two ages and a year later, and 2 three ages and two years.
	l := line(3, 0, span(0, 0))
	for i, x := range []struct {
		s    []api.Tale
		id   int
		want []api.Span
	}{
		{[]api.Tale{aged(1, 0, 20, 22)}, 0, []api.Span{span(20, 22)}},
		{[]api.Tale{aged(1, 0, 20, 22)}, 1, []api.Span{span(41, 41), span(43, 43), span(45, 45)}},
		{[]api.Tale{aged(1, 0, 20, 22)}, 2, []api.Span{span(62, 62), span(65, 65), span(68, 68)}},
		{[]api.Tale{aged(1, 0, 20, 22), bloomed(2, 2, 63, 67)}, 0, []api.Span{span(21, 21)}},
		{[]api.Tale{aged(1, 0, 20, 22), bloomed(2, 2, 63, 64)}, 0, nil},
	} {
		want := api.OK
		if x.want == nil {
			want = api.ErrFalse
		}
		if years, e := bloom.Years(l, x.s, x.id); e != want || !slices.Equal(years, x.want) {
			t.Error(i, years, e)
		}
	}
	// With one year more to grow in, years are in pairs, which touch for the daughter.
	wide := line(3, 0, span(0, 1))
	for id, want := range map[int][]api.Span{0: {span(20, 23)}, 1: {span(41, 46)}, 2: {span(62, 63), span(65, 66), span(68, 69)}} {
		if years, e := bloom.Years(wide, []api.Tale{aged(1, 0, 20, 22)}, id); e != api.OK || !slices.Equal(years, want) {
			t.Error(id, years, e)
		}
	}
	// If it is told when the youngest one flowers, the first one flowers the earlier the greater the age is.
	for id, want := range map[int][]api.Span{0: {span(454, 454), span(456, 456), span(458, 458)}, 1: {span(477, 479)}, 2: {span(500, 500)}} {
		if years, e := bloom.Years(line(3, 0, span(0, 3000)), []api.Tale{bloomed(1, 2, 500, 500), aged(2, 0, 20, 22)}, id); e != api.OK || !slices.Equal(years, want) {
			t.Error(id, years, e)
		}
	}
}

// TestGreatest has genets of the greatest age, in the last years that there are (P2.2, P2.3, P2.5).
func TestGreatest(t *testing.T) {
	l := []api.Genet{
		{Id: 9998, Kind: 9, Mother: api.NoMother, Born: span(0, 3000), Seed: 1000000},
		{Id: 9999, Kind: 9, Mother: 9998, Born: span(3000, 3000), Seed: 1000000},
	}
	s := []api.Tale{aged(9999, 9, 150, 3000)}
	for id, want := range map[int]int{9998: 2999, 9999: 3150} {
		if years, e := bloom.Years(l, s, id); e != api.OK || !slices.Equal(years, []api.Span{span(want, want)}) {
			t.Error(id, years, e)
		}
		if n, e := bloom.Store(l, s, want); e != api.OK || n != 1000000 {
			t.Error(want, n, e)
		}
	}
	want := []api.Life{{Genet: 9998, Born: 2849, Bloom: 2999}, {Genet: 9999, Born: 3000, Bloom: 3150}}
	if lives, e := bloom.Truth(l, s, 9999, 3150); e != api.OK || !slices.Equal(lives, want) {
		t.Error(lives, e)
	}
	var all []api.Genet
	for id := range api.MaxGenets {
		all = append(all, api.Genet{Id: id, Kind: id % 10, Mother: api.NoMother, Born: span(0, 3000), Seed: api.MaxSeed})
	}
	for year, want := range map[int]int{9: 0, 10: 12000000, 1000: 12000000, 3150: 12000000} {
		if n, e := bloom.Store(all, nil, year); e != api.OK || n != want {
			t.Error(year, n, e)
		}
	}
	if years, e := bloom.Years(all, nil, 11); e != api.OK || !slices.Equal(years, []api.Span{span(10, 3150)}) {
		t.Error(years, e)
	}
}

// TestLongLine has twelve genets, each the daughter of the one before (P2.2, P2.3).
func TestLongLine(t *testing.T) {
	l := line(12, 3, span(5, 6))
	for _, age := range []int{10, 77, 150} {
		s := []api.Tale{aged(0, 3, age, age)}
		var lives []api.Life
		for id := range 12 {
			born := 6 + id*(age+1)
			lives = append(lives, api.Life{Genet: id, Born: born, Bloom: born + age})
		}
		for id := range 12 {
			bloomAt := lives[id].Bloom
			if years, e := bloom.Years(l, s, id); e != api.OK || !slices.Equal(years, []api.Span{span(bloomAt-1, bloomAt)}) {
				t.Error(age, id, years, e)
			}
			if got, e := bloom.Truth(l, s, id, bloomAt); e != api.OK || !slices.Equal(got, lives) {
				t.Error(age, id, got, e)
			}
			if got, e := bloom.Truth(l, s, id, bloomAt+1); e != api.ErrFalse || len(got) != 0 {
				t.Error(age, id, got, e)
			}
		}
	}
	// What is told of the last one tells of the first one.
	if years, e := bloom.Years(l, []api.Tale{bloomed(0, 11, 1000, 1000)}, 0); e != api.OK || !slices.Equal(years, []api.Span{span(87, 87)}) {
		t.Error(years, e)
	}
	if _, e := bloom.Years(l, []api.Tale{bloomed(0, 11, 1002, 1011)}, 0); e != api.ErrFalse {
		t.Error(e)
	}
}

// TestTruths has truths that are not the first one that comes to mind (P2.3).
func TestTruths(t *testing.T) {
	// 2 and 5 are of the kind 1, 3 and 4 of the kind 0: a daughter that stands behind another line, and two lines that are free.
	l := []api.Genet{
		{Id: 2, Kind: 1, Mother: api.NoMother, Born: span(0, 10)},
		{Id: 3, Kind: 0, Mother: api.NoMother, Born: span(7, 9)},
		{Id: 4, Kind: 0, Mother: api.NoMother, Born: span(3, 20)},
		{Id: 5, Kind: 1, Mother: 2, Born: span(25, 40)},
	}
	for i, x := range []struct {
		s        []api.Tale
		id, year int
		want     []api.Life
	}{
		// The daughter binds her mother, who can not grow before 14 if the age is 10; so the least age with the mother in 24 is 14.
		{nil, 2, 24, []api.Life{{Genet: 2, Born: 10, Bloom: 24}, {Genet: 3, Born: 7, Bloom: 17}, {Genet: 4, Born: 3, Bloom: 13}, {Genet: 5, Born: 25, Bloom: 39}}},
		{nil, 2, 30, []api.Life{{Genet: 2, Born: 10, Bloom: 30}, {Genet: 3, Born: 7, Bloom: 17}, {Genet: 4, Born: 3, Bloom: 13}, {Genet: 5, Born: 31, Bloom: 51}}},
		{nil, 2, 23, nil},
		// Others of the kind flower as early as they can at the age that this one needs, not at the least one of their own.
		{nil, 4, 100, []api.Life{{Genet: 2, Born: 10, Bloom: 24}, {Genet: 3, Born: 7, Bloom: 87}, {Genet: 4, Born: 20, Bloom: 100}, {Genet: 5, Born: 25, Bloom: 39}}},
		{nil, 3, 19, []api.Life{{Genet: 2, Born: 10, Bloom: 24}, {Genet: 3, Born: 9, Bloom: 19}, {Genet: 4, Born: 3, Bloom: 13}, {Genet: 5, Born: 25, Bloom: 39}}},
		// A tale of another one of the kind is heeded, too.
		{[]api.Tale{lived(1, 3, 29)}, 4, 40, []api.Life{{Genet: 2, Born: 10, Bloom: 24}, {Genet: 3, Born: 9, Bloom: 30}, {Genet: 4, Born: 19, Bloom: 40}, {Genet: 5, Born: 25, Bloom: 39}}},
		{[]api.Tale{lived(1, 3, 29), gone(2, 4, 39)}, 4, 40, nil},
		{[]api.Tale{aged(1, 1, 17, 18)}, 4, 13, []api.Life{{Genet: 2, Born: 7, Bloom: 24}, {Genet: 3, Born: 7, Bloom: 17}, {Genet: 4, Born: 3, Bloom: 13}, {Genet: 5, Born: 25, Bloom: 42}}},
		{[]api.Tale{aged(1, 8, 0, 9)}, 4, 13, nil},
		{nil, 4, 12, nil}, {nil, 4, 170, []api.Life{{Genet: 2, Born: 10, Bloom: 24}, {Genet: 3, Born: 7, Bloom: 157}, {Genet: 4, Born: 20, Bloom: 170}, {Genet: 5, Born: 25, Bloom: 39}}},
		{nil, 4, 171, nil}, {nil, 4, -1, nil}, {nil, 4, 3151, nil}, {nil, 4, math.MinInt, nil}, {nil, 4, math.MaxInt, nil}, {nil, 5, math.MinInt, nil}, {nil, 5, math.MaxInt, nil},
	} {
		want := api.OK
		if x.want == nil {
			want = api.ErrFalse
		}
		if lives, e := bloom.Truth(l, x.s, x.id, x.year); e != want || !slices.Equal(lives, x.want) {
			t.Error(i, lives, e)
		}
	}
	for _, id := range []int{math.MinInt, -1, 0, 1, 6, 10000, math.MaxInt} {
		if lives, e := bloom.Truth(l, nil, id, 13); e != api.ErrNone || len(lives) != 0 {
			t.Error(id, lives, e)
		}
		if years, e := bloom.Years(l, nil, id); e != api.ErrNone || len(years) != 0 {
			t.Error(id, years, e)
		}
	}
}

// TestLiars has tales that contradict each other (P2.4).
func TestLiars(t *testing.T) {
	one := []api.Genet{{Id: 6, Kind: 2, Mother: api.NoMother, Born: span(100, 100)}}
	never := []api.Genet{{Id: 1, Mother: api.NoMother}, {Id: 2, Mother: 1, Born: span(5, 9)}}
	for i, x := range []struct {
		l    []api.Genet
		s    []api.Tale
		want []int
	}{
		{one, []api.Tale{lived(1, 6, 119), gone(2, 6, 120)}, nil},
		// Of two that are as likely the first one.
		{one, []api.Tale{lived(1, 6, 120), gone(2, 6, 120)}, []int{1}},
		{one, []api.Tale{gone(1, 6, 120), lived(2, 6, 120)}, []int{1}},
		{one, []api.Tale{lived(3, 6, 120), lived(4, 6, 130), gone(5, 6, 120)}, []int{5}},
		// Two against two: 1 3, 1 4, 2 3 and 2 4 would not do, 1 2 and 3 4 do.
		{one, []api.Tale{bloomed(1, 6, 120, 125), aged(2, 2, 20, 25), bloomed(3, 6, 130, 135), aged(4, 2, 30, 35)}, []int{1, 2}},
		{one, []api.Tale{bloomed(1, 6, 120, 125), bloomed(2, 6, 130, 135), aged(3, 2, 30, 35), aged(4, 2, 20, 25)}, []int{1, 4}},
		// Two pairs, each with one that lies; and what lies alone goes with them.
		{one, []api.Tale{aged(1, 5, 20, 20), aged(2, 5, 21, 21), aged(3, 6, 21, 21), aged(4, 6, 20, 20)}, []int{1, 3}},
		{one, []api.Tale{aged(1, 5, 20, 20), aged(2, 5, 21, 21), aged(8, 7, 0, 9)}, []int{1, 8}},
		// Fewer ones come before those with lesser Ids.
		{one, []api.Tale{aged(1, 2, 20, 20), aged(2, 2, 20, 21), aged(9, 2, 22, 23)}, []int{9}},
		// Each of ten lies.
		{one, []api.Tale{aged(0, 0, 0, 9), aged(1, 1, 0, 9), aged(2, 2, 0, 9), aged(3, 3, 0, 9), aged(4, 4, 0, 9), aged(5, 5, 151, 3000), aged(6, 6, 0, 9), aged(7, 7, 0, 9), gone(8, 6, 0), lived(9, 6, 3000)}, numbers(0, 9)},
		// One of ten does not.
		{one, []api.Tale{aged(0, 2, 10, 10), aged(1, 2, 11, 11), aged(2, 2, 12, 12), aged(3, 2, 13, 13), aged(4, 2, 14, 14), aged(5, 2, 15, 15), aged(6, 2, 16, 16), aged(7, 2, 17, 17), aged(8, 2, 18, 18), aged(9, 2, 19, 19)}, numbers(0, 8)},
		// Where a genet cannot have grown, nobody lies.
		{never, nil, []int{-1}},
		{never, []api.Tale{gone(1, 1, 9), aged(2, 0, 20, 30)}, []int{-1}},
	} {
		want := api.OK
		if slices.Equal(x.want, []int{-1}) {
			x.want, want = nil, api.ErrFalse
		}
		if liars, e := bloom.Liars(x.l, x.s); e != want || !slices.Equal(liars, x.want) {
			t.Error(i, liars, e)
		}
	}
}

// TestStore has years in which some of a line flower, some of a kind, and some of several kinds (P2.5).
func TestStore(t *testing.T) {
	// 1 has the daughters 2 and 3, and the granddaughter 4 by 2; 5 is another line of the kind, 6 another kind.
	l := []api.Genet{
		{Id: 1, Kind: 1, Mother: api.NoMother, Born: span(0, 40), Seed: 100},
		{Id: 2, Kind: 1, Mother: 1, Born: span(0, 3000), Seed: 30},
		{Id: 3, Kind: 1, Mother: 1, Born: span(0, 3000), Seed: 25},
		{Id: 4, Kind: 1, Mother: 2, Born: span(0, 3000), Seed: 7},
		{Id: 5, Kind: 1, Mother: api.NoMother, Born: span(30, 31), Seed: 1000},
		{Id: 6, Kind: 2, Mother: api.NoMother, Born: span(0, 0), Seed: 1000000},
	}
	ten := aged(1, 1, 10, 10)
	for i, x := range []struct {
		s          []api.Tale
		year, want int
	}{
		{[]api.Tale{ten, gone(2, 6, 20)}, 9, 0},
		{[]api.Tale{ten, gone(2, 6, 20)}, 10, 1000100},
		{[]api.Tale{ten, gone(2, 6, 20)}, 20, 1000100},
		// In 21 it may be the mother, or both daughters; not all of them.
		{[]api.Tale{ten, gone(2, 6, 20)}, 21, 100},
		{[]api.Tale{ten, gone(2, 6, 20), gone(3, 1, 20)}, 21, 55},
		{[]api.Tale{ten, gone(2, 6, 20)}, 40, 1100},
		{[]api.Tale{ten, gone(2, 6, 20)}, 41, 1100},
		{[]api.Tale{ten, gone(2, 6, 20)}, 42, 100},
		{[]api.Tale{ten, gone(2, 6, 20)}, 51, 55},
		{[]api.Tale{ten, gone(2, 6, 20)}, 61, 55},
		{[]api.Tale{ten, gone(2, 6, 20)}, 62, 7},
		{[]api.Tale{ten, gone(2, 6, 20)}, 72, 7},
		{[]api.Tale{ten, gone(2, 6, 20)}, 73, 0},
		// The age is the same one for both lines: 40 or 41 if 5 flowers in 71, and so may 1, but not its daughters; 6 goes its own way.
		{nil, 71, 1001100},
		{[]api.Tale{gone(1, 1, 70)}, 71, 1001000},
		{[]api.Tale{gone(1, 1, 70), aged(2, 1, 0, 35)}, 71, 1000055},
		{[]api.Tale{lived(1, 5, 101), lived(2, 1, 71)}, 71, 1000000},
		{nil, 0, 0}, {nil, 9, 0}, {nil, 10, 1000100}, {nil, 3150, 0},
		{nil, 492, 7}, {nil, 493, 0},
	} {
		if n, e := bloom.Store(l, x.s, x.year); e != api.OK || n != x.want {
			t.Error(i, n, e)
		}
	}
	for _, year := range []int{math.MinInt, -1, 3151, math.MaxInt} {
		if n, e := bloom.Store(l, nil, year); e != api.ErrArg || n != 0 {
			t.Error(year, n, e)
		}
	}
	for _, kind := range []int{math.MinInt, -1, 10, math.MaxInt} {
		if ages, e := bloom.Ages(l, nil, kind); e != api.ErrArg || len(ages) != 0 {
			t.Error(kind, ages, e)
		}
	}
}
