package text

import (
	"slices"

	"jalousie/api"
	"jalousie/machine"
	"jalousie/row"
)

// isForm tells whether p is what a text has, were there texts of any length.
func isForm(p api.Project) bool {
	states, events := p.Machine.States, p.Machine.Events
	return areNames(p.States, states, api.MaxPlant) && areNames(p.Events, events, api.MaxEvents) &&
		machine.May(p.Machine) &&
		row.Is(p.Seen, events) && row.Is(p.Free, events) && row.Is(p.Faults, events) &&
		row.Is(p.Secret, states)
}

// areNames tells whether l has so many names, at most as many as may be, and none twice.
func areNames(l []string, many, most int) bool {
	if len(l) != many || many > most {
		return false
	}
	for n, s := range l {
		if !isName(s) || slices.Contains(l[:n], s) {
			return false
		}
	}
	return true
}

// spell answers the tokens of the text of p, that has the form.
func spell(p api.Project) []string {
	var out []string
	part := func(word string, names []string) {
		out = append(out, word)
		out = append(out, names...)
		out = append(out, ";")
	}
	part("states", p.States)
	part("events", p.Events)
	part("seen", pick(p.Events, p.Seen))
	part("free", pick(p.Events, p.Free))
	part("faults", pick(p.Events, p.Faults))
	part("secret", pick(p.States, p.Secret))
	part("starts", pick(p.States, p.Machine.Starts))
	part("ends", pick(p.States, p.Machine.Ends))
	part("arrows", spellArrows(p))
	return out
}

// pick answers the names of a row.
func pick(names []string, l []int) []string {
	var out []string
	for _, n := range l {
		out = append(out, names[n])
	}
	return out
}

// spellArrows answers the tokens of the arrows of p.
func spellArrows(p api.Project) []string {
	var out []string
	for n, a := range p.Machine.Arrows {
		if n > 0 {
			out = append(out, ",")
		}
		out = append(out, p.States[a.From], p.Events[a.Event], p.States[a.To])
	}
	return out
}

// shortest answers how many bytes the shortest text of these tokens has: a blank
// is needed but between two names.
func shortest(words []string) int {
	size := 0
	for n, s := range words {
		if n > 0 && !isSign(s) && !isSign(words[n-1]) {
			size++
		}
		size += len(s)
	}
	return size
}
