package stock

import (
	"iter"

	"canebrake/api"
)

// pieces yields how long the pieces of a trunk are, from its foot on. One of which the saw takes more than there is counts as less than nothing: it is dropped like all that are too short.
func pieces(t api.Trunk, saw int) iter.Seq[int] {
	return func(yield func(int) bool) {
		from := 0
		for _, bend := range t.Bends {
			if !yield(bend - from) {
				return
			}
			from = bend + saw
		}
		yield(t.Length - from)
	}
}

// sawn are the sticks of trunks.
func sawn(l []api.Trunk, saw int) []api.Stick {
	var sticks []api.Stick
	for i, t := range l {
		for length := range pieces(t, saw) {
			if length >= api.MinStick {
				sticks = append(sticks, api.Stick{Trunk: i, Length: length, Grade: t.Grade})
			}
		}
	}
	return sticks
}
