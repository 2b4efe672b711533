package book

import (
	"slices"

	"canebrake/api"
	"canebrake/grade"
)

// poleAt is the index of the pole with an Id, -1 if there is none.
func poleAt(v api.Valley, id int) int {
	return slices.IndexFunc(v.Frame.Sheet.Poles, func(p api.Pole) bool { return p.Id == id })
}

// used tells whether the pole with an Id has props.
func used(v api.Valley, id int) bool {
	return slices.ContainsFunc(v.Frame.Props, func(p api.Prop) bool { return p.Pole == id })
}

// fit is what the books of vats tell of some poles. These are asked without the others of the sheet, as the hours of a soak take long to go through.
func fit(v api.Valley, poles ...api.Pole) ([]uint8, api.Errno) {
	return grade.Fit(api.Sheet{Poles: poles}, v.Frame.Grading, v.Soaks)
}

// poleOf is the pole that the numbers of a POLE tell of.
func poleOf(args []int) api.Pole {
	p := api.Pole{Id: args[0], Clone: args[1], Cut: args[2], Shot: args[3]}
	girths, walls, rest := args[4:], args[4+api.Sections:], args[4+2*api.Sections:]
	for section := range api.Sections {
		p.Girths[section], p.Walls[section] = girths[section], walls[section]
	}
	p.Soak, p.Place = rest[0], rest[1]
	return p
}

// inPlace is a list with one thing more, before the first one whose number is not less.
func inPlace[T any](list []T, x T, number func(T) int) []T {
	at := slices.IndexFunc(list, func(other T) bool { return number(other) >= number(x) })
	if at < 0 {
		at = len(list)
	}
	return slices.Insert(list, at, x)
}

// toldOf is what is told of the pole with an index, of a valid valley.
func toldOf(v api.Valley, at int) api.Told {
	s, g := v.Frame.Sheet, v.Frame.Grading
	id := s.Poles[at].Id
	traces, _ := grade.Trace(s, g, v.Groves)
	fits, _ := fit(v, s.Poles[at])
	told := api.Told{Trace: traces[at], Fit: fits[0], Used: used(v, id)}
	told.Grade, _ = grade.Grade(s, g, id)
	for section := range told.Strong {
		// Beside an error the strength is 0 to 0.
		told.Strong[section], _ = grade.Strength(s, g, id, section)
	}
	return told
}
