package tool

import (
	"slices"
	"strconv"
	"strings"

	"jalousie/api"
	"jalousie/control"
	"jalousie/current"
	"jalousie/diagnose"
	"jalousie/initial"
	"jalousie/machine"
	"jalousie/steps"
	"jalousie/veil"
)

// question answers what a line asks of a project, or nil if it is none that does.
// A line may be known as one ahead of there being a project to ask.
func (p *player) question(line string) func() []string {
	word, rest, more := strings.Cut(line, " ")
	switch {
	case line == "current":
		return func() []string { return p.leak(current.Leak) }
	case line == "initial":
		return func() []string { return p.leak(initial.Leak) }
	case line == "delay":
		return p.delay
	case line == "keep":
		return p.keep
	case line == "veil":
		return p.veil
	case word == "run":
		return func() []string { return p.run(rest, more) }
	}
	if most, is := stepsBack(rest); word == "steps" && is {
		return func() []string { return p.steps(most) }
	}
	return nil
}

// plant answers the plant of the project. It always may be, and all rows are in
// bounds, as text.Parse answers no other project: so of the questions below none
// but that of the veil, which asks more of a project, can tell an error.
func (p *player) plant() api.Plant {
	return api.Plant{Machine: p.Machine, Seen: p.Seen, Secret: p.Secret}
}

// leak asks for the one list of events that leaks.
func (p *player) leak(of func(api.Plant) (bool, []int, api.Errno)) []string {
	is, word, _ := of(p.plant())
	if !is {
		return []string{"safe"}
	}
	return withNames("leak", p.Events, word)
}

// steps asks for the two lists of events that tell where it was.
func (p *player) steps(most int) []string {
	is, before, behind, _ := steps.Leak(p.plant(), most)
	if !is {
		return []string{"safe"}
	}
	return append(withNames("leak", p.Events, before), withNames("|", p.Events, behind)...)
}

// delay asks how long a fault may be there until it is found.
func (p *player) delay() []string {
	d, _ := diagnose.Delay(p.Machine, p.Seen, p.Faults)
	if d < 0 {
		return []string{"never"}
	}
	return []string{strconv.Itoa(d)}
}

// keep asks for the states to keep to, so that it stays out of the secret ones.
func (p *player) keep() []string {
	states, _ := control.Keep(p.Machine, p.Free, p.Secret)
	return withNames("keep", p.States, states)
}

// veil asks how great the veil is.
func (p *player) veil() []string {
	v, is, e := veil.Make(p.plant(), p.Free)
	switch {
	case e != api.OK:
		return withNumbers("bad", int(e))
	case !is:
		return []string{"nothing"}
	}
	return withNumbers("veil", len(v.Nodes), len(v.Moves))
}

// run asks where runs may end of the word whose events' names stand in rest; more
// tells whether there is one. The word may be long: so it is gone along as it is
// read, and not kept.
func (p *player) run(rest string, more bool) []string {
	s, lead := machine.Of(p.Machine.Starts), machine.Leader(p.Machine)
	for more {
		var name string
		name, rest, more = strings.Cut(rest, " ")
		event := slices.Index(p.Events, name)
		if event < 0 {
			return []string{"?"}
		}
		s = lead(s, event)
	}
	return withNames("at", p.States, s.Row())
}
