package text

import (
	"slices"
	"strings"

	"jalousie/api"
	"jalousie/machine"
)

// project answers the project of the parts. It goes through them as they stand in
// the text, so that the first fault is told.
func (p parts) project() api.Project {
	var out api.Project
	out.States = list(p.states, api.MaxPlant)
	out.Events = list(p.events, api.MaxEvents)
	state, event := finder(out.States), finder(out.Events)
	out.Seen = rowOf(p.seen, event)
	out.Free = rowOf(p.free, event)
	out.Faults = rowOf(p.faults, event)
	out.Secret = rowOf(p.secret, state)
	out.Machine.States, out.Machine.Events = len(out.States), len(out.Events)
	out.Machine.Starts = rowOf(p.starts, state)
	out.Machine.Ends = rowOf(p.ends, state)
	out.Machine.Arrows = arrowsOf(p.arrows, state, event)
	return out
}

// list answers the names of a part that are to be numbered. A copy of each: what
// is answered shares nothing with the text.
func list(part []api.Token, most int) []string {
	var names []string
	for _, t := range part {
		if slices.Contains(names, t.Text) {
			giveUp(api.ErrTwice, t.At)
		}
		if len(names) == most {
			giveUp(api.ErrSize, t.At)
		}
		names = append(names, strings.Clone(t.Text))
	}
	return names
}

// finder answers a closure that tells the number of a name, and gives up if the
// names have it not.
func finder(names []string) func(t api.Token) int {
	return func(t api.Token) int {
		n := slices.Index(names, t.Text)
		if n < 0 {
			giveUp(api.ErrName, t.At)
		}
		return n
	}
}

// rowOf answers the row of the numbers of a part's names, in whatever order they stand.
func rowOf(part []api.Token, number func(t api.Token) int) []int {
	var l []int
	for _, t := range part {
		n := number(t)
		at, is := slices.BinarySearch(l, n)
		if is {
			giveUp(api.ErrTwice, t.At)
		}
		l = slices.Insert(l, at, n)
	}
	return l
}

// arrowsOf answers the arrows of all threes, in the machine's order.
func arrowsOf(threes [][3]api.Token, state, event func(t api.Token) int) []api.Arrow {
	var l []api.Arrow
	for _, three := range threes {
		from, by, to := state(three[0]), event(three[1]), state(three[2])
		a := api.Arrow{From: from, Event: by, To: to}
		at, is := slices.BinarySearchFunc(l, a, machine.Compare)
		if is {
			giveUp(api.ErrTwice, three[0].At)
		}
		l = slices.Insert(l, at, a)
	}
	return l
}
