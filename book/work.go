package book

import (
	"slices"
	"strings"

	"canebrake/api"
)

// work is a valley at work, in which a command with some numbers is done. It is a copy of the caller's valley: what a refused command has changed in it is dropped with it.
type work struct {
	api.Valley
	args []int
}

func atWork(v api.Valley) *work {
	v.Groves = copies(v.Groves, func(g api.Grove) api.Grove {
		g.Start, g.Seasons = slices.Clone(g.Start), slices.Clone(g.Seasons)
		return g
	})
	v.Soaks = copies(v.Soaks, func(s api.Soak) api.Soak {
		s.Batch.Poles = copies(s.Batch.Poles, slices.Clone[[]int])
		return s
	})
	f := &v.Frame
	f.Sheet.Poles, f.Sheet.Tests = slices.Clone(f.Sheet.Poles), slices.Clone(f.Sheet.Tests)
	f.Grading.Grades = slices.Clone(f.Grading.Grades)
	f.Knots, f.Props = slices.Clone(f.Knots), slices.Clone(f.Props)
	v.Log = copies(v.Log, entryLike)
	return &work{Valley: v}
}

// copies is a list of copies of all things of a list.
func copies[T any](list []T, copyOf func(T) T) []T {
	list = slices.Clone(list)
	for i, x := range list {
		list[i] = copyOf(x)
	}
	return list
}

// entryLike is a copy of an entry. Its word is one as well: a word that was cut out of a text would keep all of it.
func entryLike(x api.Entry) api.Entry {
	return api.Entry{Word: strings.Clone(x.Word), Args: slices.Clone(x.Args)}
}

// doubt is what is said against a command that could be done.
type doubt struct{ said string }

// refuseIf passes on an error if something is so.
func refuseIf(so bool, e api.Errno) {
	if so {
		panic(e)
	}
}

// doubtIf passes on a doubt if something is so.
func doubtIf(so bool, reason string, numbers ...int) {
	if so {
		panic(doubt{words(reason, numbers...)})
	}
}

// do does a command and puts it at the end of the log, or returns why it is refused.
func (w *work) do(x api.Entry) (said string, e api.Errno) {
	defer func() {
		switch why := recover().(type) {
		case nil:
		case api.Errno:
			e = why
		case doubt:
			said, e = why.said, api.ErrDoubt
		default:
			// The program is at fault: nothing is done.
			e = api.ErrBad
		}
	}()
	c, ok := commandOf(x)
	refuseIf(!ok, api.ErrWord)
	refuseIf(!sayable(x.Args...), api.ErrArg)
	refuseIf(len(w.Log) == api.MaxEntries, api.ErrFull)
	w.args = x.Args
	c.do(w)
	w.Log = append(w.Log, entryLike(x))
	return "", api.OK
}
