package steps

import (
	"cmp"
	"math"
	"slices"
	"testing"

	"jalousie/api"
	"jalousie/current"
	"jalousie/hide"
	"jalousie/initial"
	"jalousie/machine"
	"jalousie/row"
)

// count answers the row of the numbers below n.
func count(n int) []int {
	var l []int
	for i := range n {
		l = append(l, i)
	}
	return l
}

// ofArrows is a machine of that many states and events with the start 0, and
// the arrows whose three numbers are told one behind another.
func ofArrows(states, events int, numbers ...int) api.Machine {
	m := api.Machine{States: states, Events: events, Starts: []int{0}}
	for three := range slices.Chunk(numbers, 3) {
		m.Arrows = append(m.Arrows, api.Arrow{From: three[0], Event: three[1], To: three[2]})
	}
	return m
}

// plant is a plant of that machine, those seen events, and those secret states.
func plant(m api.Machine, seen, secret []int) api.Plant {
	return api.Plant{Machine: m, Seen: seen, Secret: secret}
}

// two answers two lists, as Leak is to answer them.
func two(before, behind []int) *pair { return &pair{before: before, behind: behind} }

func checkWas(t *testing.T, name string, p api.Plant, before, behind, want []int) {
	t.Helper()
	if l, e := Was(p, before, behind); e != api.OK || !slices.Equal(l, want) {
		t.Errorf("%s: Was(%v, %v, %v): %v, %d; asked for: %v", name, p, before, behind, l, e, want)
	}
}

// checkLeak asks for false, if want is nil, and else for true and those lists.
func checkLeak(t *testing.T, name string, p api.Plant, most int, want *pair) {
	t.Helper()
	is, before, behind, e := Leak(p, most)
	var lists pair
	if want != nil {
		lists = *want
	}
	if e != api.OK || is != (want != nil) || !slices.Equal(before, lists.before) || !slices.Equal(behind, lists.behind) {
		t.Errorf("%s: Leak(%v, %d): %v, %v, %v, %d; asked for: %v", name, p, most, is, before, behind, e, want)
	}
}

// wrong are plants that may not be.
func wrong() map[string]api.Plant {
	of := func(m api.Machine) api.Plant { return plant(m, []int{0}, []int{0}) }
	ring := ofArrows(2, 2, 0, 0, 1, 1, 1, 0)
	return map[string]api.Plant{
		"nothing":               {},
		"no machine":            of(api.Machine{}),
		"least number":          of(api.Machine{States: math.MinInt, Events: math.MinInt}),
		"greatest number":       of(api.Machine{States: math.MaxInt, Events: math.MaxInt}),
		"257 states":            of(api.Machine{States: 257, Events: 2}),
		"7 states":              of(ofArrows(7, 2)),
		"256 states":            of(ofArrows(256, 8)),
		"7 states, without all": plant(api.Machine{States: 7}, nil, nil),
		"9 events":              of(api.Machine{States: 1, Events: 9}),
		"-1 events":             of(api.Machine{States: 1, Events: -1}),
		"start beyond":          of(api.Machine{States: 1, Events: 2, Starts: []int{1}}),
		"starts no row":         of(api.Machine{States: 2, Events: 2, Starts: []int{1, 0}}),
		"end beyond":            of(api.Machine{States: 2, Events: 2, Ends: []int{2}}),
		"end twice":             of(api.Machine{States: 2, Events: 2, Ends: []int{1, 1}}),
		"arrow to beyond":       of(ofArrows(1, 2, 0, 0, 1)),
		"arrow from below":      of(ofArrows(1, 2, -1, 0, 0)),
		"event beyond":          of(ofArrows(1, 2, 0, 2, 0)),
		"arrow twice":           of(ofArrows(1, 2, 0, 0, 0, 0, 0, 0)),
		"arrows fall":           of(ofArrows(1, 2, 0, 1, 0, 0, 0, 0)),
		"seen beyond":           plant(ring, []int{2}, nil),
		"seen far beyond":       plant(ring, []int{0, math.MaxInt}, nil),
		"seen below":            plant(ring, []int{-1}, nil),
		"seen falls":            plant(ring, []int{1, 0}, nil),
		"seen twice":            plant(ring, []int{1, 1}, nil),
		"seen, of no events":    plant(api.Machine{States: 1}, []int{0}, nil),
		"secret beyond":         plant(ring, []int{1}, []int{2}),
		"secret far beyond":     plant(ring, []int{1}, []int{0, math.MaxInt}),
		"secret below":          plant(ring, []int{1}, []int{math.MinInt}),
		"secret falls":          plant(ring, []int{1}, []int{1, 0}),
		"secret twice":          plant(ring, []int{1}, []int{0, 0}),
		"secret 6":              plant(ofArrows(6, 8), count(8), []int{6}),
		"seen 8":                plant(ofArrows(6, 8), []int{8}, count(6)),
	}
}

// refused asks that Was tells what is wrong, and nothing else.
func refused(t *testing.T, name string, p api.Plant, before, behind []int, want api.Errno) {
	t.Helper()
	if l, e := Was(p, before, behind); len(l) != 0 || e != want {
		t.Errorf("%s: Was(%v, %v, %v): %v, %d; asked for: %d", name, p, before, behind, l, e, want)
	}
}

// leakRefused asks that Leak tells what is wrong, and nothing else.
func leakRefused(t *testing.T, name string, p api.Plant, most int, want api.Errno) {
	t.Helper()
	if is, before, behind, e := Leak(p, most); is || len(before) != 0 || len(behind) != 0 || e != want {
		t.Errorf("%s: Leak(%v, %d): %v, %v, %v, %d; asked for: %d", name, p, most, is, before, behind, e, want)
	}
}

// K1, K2, P2: of a plant that may not be ErrForm is told, whatever else is wrong.
func TestForm(t *testing.T) {
	for name, p := range wrong() {
		for _, most := range []int{-1, 0, 1, api.MaxSteps, -2, api.MaxSteps + 1, math.MaxInt, math.MinInt} {
			leakRefused(t, name, p, most, api.ErrForm)
		}
		for _, word := range [][]int{nil, {0}, {-1}, {99}} {
			refused(t, name, p, word, word, api.ErrForm)
			refused(t, name, p, word, nil, api.ErrForm)
			refused(t, name, p, nil, word, api.ErrForm)
		}
	}
}

// K1, P2: what is not seen, in before or in behind, be there a run or none.
func TestNotSeen(t *testing.T) {
	p := plant(ofArrows(3, 4, 0, 1, 1, 0, 3, 1, 1, 1, 2, 1, 2, 0), []int{1, 3}, []int{2})
	for _, word := range [][]int{
		{0}, {2}, {4}, {-1}, {8}, {math.MaxInt}, {math.MinInt},
		{1, 2}, {0, 1}, {1, 1, 0}, {0, 3, 3, 3, 3}, {2, 3, 3, 3, 3}, {1, 4, 1}, {3, 3, 3, 0},
	} {
		for _, other := range [][]int{nil, {1}, {3, 3, 3}, {1, 1}, {0}, word} {
			refused(t, "before", p, word, other, api.ErrRange)
			refused(t, "behind", p, other, word, api.ErrRange)
		}
	}
	p.Seen = nil
	for event := range 4 {
		refused(t, "nothing is seen before", p, []int{event}, nil, api.ErrRange)
		refused(t, "nothing is seen behind", p, nil, []int{event}, api.ErrRange)
	}
	none := plant(ofArrows(1, 0), nil, nil)
	refused(t, "there is no event before", none, []int{0}, nil, api.ErrRange)
	refused(t, "there is no event behind", none, nil, []int{0}, api.ErrRange)
	nowhere := plant(api.Machine{States: 1, Events: 2}, []int{1}, nil)
	refused(t, "there is no start before", nowhere, []int{1, 1, 0}, nil, api.ErrRange)
	refused(t, "there is no start behind", nowhere, []int{1}, []int{1, 1, 0}, api.ErrRange)
}

// K2, P2: most is -1, or from 0 to MaxSteps; else nothing is answered, leak it
// or not.
func TestMost(t *testing.T) {
	for _, secret := range [][]int{nil, {0}, {1}, {0, 1}} {
		p := plant(ofArrows(2, 2, 0, 0, 1, 1, 1, 0), []int{0, 1}, secret)
		for _, most := range []int{-2, -3, -1000, math.MinInt, api.MaxSteps + 1, api.MaxSteps * 2, math.MaxInt} {
			leakRefused(t, "most", p, most, api.ErrRange)
		}
		for _, most := range []int{-1, 0, 1, 2, 63, 64, api.MaxSteps - 1, api.MaxSteps} {
			if is, _, _, e := Leak(p, most); is != (secret != nil) || e != api.OK {
				t.Errorf("Leak(%v, %d): %v, %d", p, most, is, e)
			}
		}
	}
}

// K1: by hand. Unseen events may come ahead of the seen ones, between them and
// behind them; where it was, when before was seen, may be ahead of unseen events
// and behind them.
func TestWas(t *testing.T) {
	// 0 -1-> 1 -0-> 2 -1-> 3 -2-> 4 -1-> 5
	line := ofArrows(6, 3, 0, 1, 1, 1, 0, 2, 2, 1, 3, 3, 2, 4, 4, 1, 5)
	p := plant(line, []int{0, 2}, nil)
	checkWas(t, "nothing", p, nil, nil, []int{0, 1})
	checkWas(t, "nothing before", p, nil, []int{0}, []int{0, 1})
	checkWas(t, "all behind", p, nil, []int{0, 2}, []int{0, 1})
	checkWas(t, "all before", p, []int{0, 2}, nil, []int{4, 5})
	checkWas(t, "between", p, []int{0}, []int{2}, []int{2, 3})
	checkWas(t, "one before", p, []int{0}, nil, []int{2, 3})
	checkWas(t, "it is not so", p, []int{0}, []int{0}, nil)
	checkWas(t, "the other one first", p, []int{2}, []int{0}, nil)
	checkWas(t, "behind what can be", p, nil, []int{2}, nil)
	checkWas(t, "beyond what can be", p, []int{0, 2}, []int{2}, nil)
	checkWas(t, "beyond what can be, at first", p, []int{0, 0}, nil, nil)
	p.Seen = []int{1}
	checkWas(t, "seen now", p, nil, nil, []int{0})
	checkWas(t, "seen now, before", p, []int{1}, nil, []int{1, 2})
	checkWas(t, "seen now, between", p, []int{1}, []int{1}, []int{1, 2})
	checkWas(t, "seen now, twice", p, []int{1}, []int{1, 1}, []int{1, 2})
	checkWas(t, "seen now, once too often", p, []int{1}, []int{1, 1, 1}, nil)
	p.Seen = nil
	checkWas(t, "nothing is seen", p, nil, nil, count(6))
	p.Machine.Starts = nil
	checkWas(t, "no start", p, nil, nil, nil)
	p.Seen = []int{0}
	checkWas(t, "no start, and a word", p, []int{0}, []int{0}, nil)
	// 3 leads from 0 to 1 and 2, of which just 1 goes on by 5, and just 2 by 6
	fork := plant(ofArrows(4, 7, 0, 3, 1, 0, 3, 2, 1, 5, 3, 2, 6, 3), []int{3, 5, 6}, nil)
	checkWas(t, "a fork", fork, []int{3}, nil, []int{1, 2})
	checkWas(t, "one way", fork, []int{3}, []int{5}, []int{1})
	checkWas(t, "the other way", fork, []int{3}, []int{6}, []int{2})
	fork.Seen = []int{3, 5}
	checkWas(t, "one way, that is seen", fork, []int{3}, []int{5}, []int{1})
	checkWas(t, "of nothing, both", fork, []int{3}, nil, []int{1, 2, 3})
	// behind goes on from a state that is not in the estimate, too: it is not told
	checkWas(t, "from elsewhere", fork, nil, []int{5}, nil)
	circle := plant(ofArrows(4, 2, 0, 0, 1, 1, 0, 2, 1, 1, 3, 2, 0, 0), []int{1}, nil)
	checkWas(t, "a circle", circle, nil, []int{1}, []int{0, 1, 2})
	checkWas(t, "out of the circle", circle, []int{1}, nil, []int{3})
	checkWas(t, "and no further", circle, []int{1}, []int{1}, nil)
}

// K2: by hand.
func TestLeak(t *testing.T) {
	line := ofArrows(6, 3, 0, 1, 1, 1, 0, 2, 2, 1, 3, 3, 2, 4, 4, 1, 5)
	for _, c := range []struct {
		seen, secret []int
		most         int
		want         *pair
	}{
		{[]int{0, 2}, []int{0}, -1, nil},
		{[]int{0, 2}, []int{0, 1}, 0, two(nil, nil)},
		{[]int{0, 2}, []int{2, 3}, -1, two([]int{0}, nil)},
		{[]int{0, 2}, []int{4, 5}, api.MaxSteps, two([]int{0, 2}, nil)},
		{[]int{0, 2}, []int{0, 2, 4}, -1, nil},
		{[]int{1}, []int{0}, 1, two(nil, nil)},
		{[]int{1}, []int{1, 3, 5}, -1, two([]int{1, 1, 1}, nil)},
		{[]int{1}, []int{1, 3}, -1, nil},
		{nil, count(5), -1, nil},
		{nil, count(6), -1, two(nil, nil)},
		{count(3), nil, -1, nil},
		{nil, nil, -1, nil},
	} {
		checkLeak(t, "a line", plant(line, c.seen, c.secret), c.most, c.want)
	}
	fork := ofArrows(4, 7, 0, 3, 1, 0, 3, 2, 1, 5, 3, 2, 6, 3)
	all, some := []int{3, 5, 6}, []int{3, 6}
	checkLeak(t, "only later on", plant(fork, all, []int{1}), -1, two([]int{3}, []int{5}))
	checkLeak(t, "one step later", plant(fork, all, []int{1}), 1, two([]int{3}, []int{5}))
	checkLeak(t, "not at once", plant(fork, all, []int{1}), 0, nil)
	checkLeak(t, "the other one", plant(fork, all, []int{2}), -1, two([]int{3}, []int{6}))
	checkLeak(t, "both", plant(fork, all, []int{1, 2}), -1, two([]int{3}, nil))
	checkLeak(t, "what tells is not seen", plant(fork, some, []int{1}), -1, nil)
	fork.Starts = nil
	checkLeak(t, "no start", plant(fork, all, count(4)), -1, nil)
	checkLeak(t, "no start, nothing seen", plant(fork, nil, count(4)), 0, nil)
}

// K2: the first two lists are those with the fewest numbers together; then those
// with the fewest in behind, whatever the numbers are; then before counts ahead
// of behind.
func TestFirst(t *testing.T) {
	// 1 goes on by 7; 4 is come to by 3 3
	m := ofArrows(5, 8, 0, 3, 3, 1, 7, 2, 3, 3, 4)
	m.Starts = []int{0, 1}
	p := plant(m, count(8), []int{1, 4})
	checkLeak(t, "fewer together", p, -1, two(nil, []int{7}))
	checkLeak(t, "fewer together, one step", p, 1, two(nil, []int{7}))
	checkLeak(t, "more together, as behind is empty", p, 0, two([]int{3, 3}, nil))
	// 1 goes on by 2; 4 is come to by 5
	m = ofArrows(5, 8, 0, 3, 3, 0, 5, 4, 1, 2, 2, 3, 3, 4)
	m.Starts = []int{0, 1}
	checkLeak(t, "fewer in behind", plant(m, count(8), []int{1, 4}), -1, two([]int{5}, nil))
	checkLeak(t, "without those", plant(m, count(8), []int{1}), -1, two(nil, []int{2}))
	// 3 comes to 1, which goes on by 7, and 5 to 3, which goes on by 1
	m = ofArrows(5, 8, 0, 3, 1, 0, 3, 2, 0, 5, 2, 0, 5, 3, 1, 7, 4, 3, 1, 4)
	checkLeak(t, "less before", plant(m, count(8), []int{1, 3}), -1, two([]int{3}, []int{7}))
	checkLeak(t, "the greater one", plant(m, count(8), []int{3}), -1, two([]int{5}, []int{1}))
	// likewise, but that 1 goes on by 1, too
	m = ofArrows(5, 8, 0, 3, 1, 0, 3, 2, 0, 5, 2, 0, 5, 3, 1, 1, 4, 1, 7, 4, 3, 1, 4)
	checkLeak(t, "less behind", plant(m, count(8), []int{1, 3}), -1, two([]int{3}, []int{1}))
	checkLeak(t, "less behind, unseen", plant(m, []int{3, 5, 7}, []int{1}), -1, two([]int{3}, []int{7}))
	// 1 is come to by 6, and is told by 2 7 and by 7 2
	m = ofArrows(6, 8, 0, 6, 1, 0, 6, 2, 1, 2, 3, 1, 7, 4, 2, 2, 5, 2, 7, 5, 3, 7, 5, 4, 2, 5)
	p = plant(m, []int{2, 6, 7}, []int{1})
	checkLeak(t, "two behind", p, -1, two([]int{6}, []int{2, 7}))
	checkLeak(t, "two behind, two steps", p, 2, two([]int{6}, []int{2, 7}))
	checkLeak(t, "two behind, one step", p, 1, nil)
}

// K2: the fewer numbers behind may have, the more those are that tell together:
// 1 is told by 7 7 since the beginning; 5, to which 3 3 comes, by 6; and that it
// is in 5 at last, by 3 3 1 1.
func TestFewerSteps(t *testing.T) {
	m := ofArrows(6, 8, 0, 3, 3, 0, 7, 3, 1, 7, 2, 2, 1, 4, 2, 7, 2, 3, 1, 3, 3, 3, 2, 3, 3, 5, 4, 1, 5, 5, 6, 0)
	m.Starts = []int{0, 1}
	p := plant(m, count(8), []int{1, 5})
	checkLeak(t, "no step", p, 0, two([]int{3, 3, 1, 1}, nil))
	checkLeak(t, "one step", p, 1, two([]int{3, 3}, []int{6}))
	for _, most := range []int{2, 3, 4, 100, api.MaxSteps, -1} {
		checkLeak(t, "two steps", p, most, two(nil, []int{7, 7}))
	}
}

// slowest is a machine of which the watcher comes to know very late where it
// was, and never knows at once: at event 2 all go back to the one ahead, the
// first one to the last one; at 6 all but the last one stay, and the first one
// goes to the last one, too.
func slowest() api.Machine {
	m := ofArrows(6, 7, 0, 2, 5, 0, 6, 0, 0, 6, 5)
	m.Starts = count(6)
	for from := 1; from < 6; from++ {
		m.Arrows = append(m.Arrows, api.Arrow{From: from, Event: 2, To: from - 1})
		if from < 5 {
			m.Arrows = append(m.Arrows, api.Arrow{From: from, Event: 6, To: from})
		}
	}
	return m
}

// K2: many steps are needed, and not one fewer is enough.
func TestManySteps(t *testing.T) {
	behind := append(slices.Repeat([]int{6, 2, 2, 2, 2, 2}, 4), 6)
	for n := range 6 {
		p := plant(slowest(), []int{2, 6}, []int{n})
		want := two(nil, append(slices.Repeat([]int{2}, n), behind...))
		needed := len(want.behind)
		for most := range 64 {
			if most < needed {
				checkLeak(t, "too few steps", p, most, nil)
			} else {
				checkLeak(t, "steps enough", p, most, want)
			}
		}
		checkLeak(t, "most steps", p, api.MaxSteps, want)
		checkLeak(t, "any steps", p, -1, want)
	}
}

// K1, P1: very long lists.
func TestLong(t *testing.T) {
	const long = 2_000_000
	// from the ring of 0 and 1 it goes on once by event 1, from 0
	p := plant(ofArrows(3, 2, 0, 0, 1, 0, 1, 2, 1, 0, 0), []int{0, 1}, nil)
	before, behind := make([]int, long), make([]int, long)
	checkWas(t, "round and round", p, before, behind, []int{0})
	checkWas(t, "round and round, and one on", p, before[1:], behind, []int{1})
	p.Machine.Starts = []int{0, 1}
	checkWas(t, "from two", p, before, behind, []int{0, 1})
	behind[long-1] = 1
	checkWas(t, "out", p, before, behind, []int{1})
	checkWas(t, "out, from the other one", p, before, behind[1:], []int{0})
	behind[0] = 1
	checkWas(t, "out twice", p, before, behind, nil)
	before[0] = 1
	checkWas(t, "out at first", p, before, nil, nil)
	before[long-1] = 2
	refused(t, "at last before", p, before, nil, api.ErrRange)
	refused(t, "at last behind", p, nil, before, api.ErrRange)
}

// after answers the set of the states where a run from one of a set on may end
// of a word of which just word is seen, by those plain words: it goes along all
// arrows, from state to state, with so many of word's numbers seen.
func after(p api.Plant, from machine.Set, word []int) machine.Set {
	type point struct{ state, seen int }
	var points []point
	found := map[point]int{}
	add := func(to point) {
		if found[to]++; found[to] == 1 {
			points = append(points, to)
		}
	}
	for n := range from.All() {
		add(point{n, 0})
	}
	var ends machine.Set
	for at := 0; at < len(points); at++ {
		here := points[at]
		if here.seen == len(word) {
			ends = ends.With(here.state)
		}
		for _, a := range p.Machine.Arrows {
			switch {
			case a.From != here.state:
			case !slices.Contains(p.Seen, a.Event):
				add(point{a.To, here.seen})
			case here.seen < len(word) && word[here.seen] == a.Event:
				add(point{a.To, here.seen + 1})
			}
		}
	}
	return ends
}

// plainGoes answers the set of all states from which a run goes on of a word of
// which just word is seen, state by state.
func plainGoes(p api.Plant, word []int) machine.Set {
	var s machine.Set
	for n := range p.Machine.States {
		if after(p, machine.Of([]int{n}), word) != (machine.Set{}) {
			s = s.With(n)
		}
	}
	return s
}

// plainWas answers what Was asks for.
func plainWas(p api.Plant, before, behind []int) []int {
	return after(p, machine.Of(p.Machine.Starts), before).Meet(plainGoes(p, behind)).Row()
}

// isTold tells whether a row of states is not empty, and all of it is secret.
func isTold(p api.Plant, l []int) bool {
	return len(l) > 0 && !slices.ContainsFunc(l, func(n int) bool { return !slices.Contains(p.Secret, n) })
}

// plainTells tells whether two lists tell where it was.
func plainTells(p api.Plant, before, behind []int) bool {
	return isTold(p, plainWas(p, before, behind))
}

// leads answers a closure that tells where a set of states leads to at a seen event.
func leads(p api.Plant) func(s machine.Set, event int) machine.Set {
	var to [api.MaxEvents][api.MaxPlant]machine.Set
	for _, event := range p.Seen {
		for n := range p.Machine.States {
			to[event][n] = after(p, machine.Of([]int{n}), []int{event})
		}
	}
	return func(s machine.Set, event int) machine.Set {
		var out machine.Set
		for n := range s.All() {
			out = out.Join(to[event][n])
		}
		return out
	}
}

// search goes, by lesser lists first, through all that can be come to from first
// on by lead; each is yielded once, with its least list, till yield says no.
func search[T comparable](first T, seen []int, lead func(at T, event int) T, yield func(at T, word []int) bool) {
	type place struct {
		at   T
		word []int
	}
	places, known := []place{{first, nil}}, map[T]int{first: 0}
	for at := 0; at < len(places) && yield(places[at].at, places[at].word); at++ {
		for _, event := range seen {
			next := lead(places[at].at, event)
			if _, is := known[next]; !is {
				known[next] = 0
				places = append(places, place{next, append(slices.Clone(places[at].word), event)})
			}
		}
	}
}

// order tells by its sign which of two pairs of lists K2 asks for.
func order(a, b pair) int {
	return cmp.Or(
		cmp.Compare(len(a.before)+len(a.behind), len(b.before)+len(b.behind)),
		cmp.Compare(len(a.behind), len(b.behind)),
		slices.Compare(a.before, b.before),
		slices.Compare(a.behind, b.behind),
	)
}

// plainLeak answers what Leak asks for, all the way from the front: behind each
// estimate it follows its secret states and its other ones side by side, till a
// run goes on from some of the former, and from none of the latter.
func plainLeak(p api.Plant, most int) *pair {
	type sides struct{ secret, open machine.Set }
	lead := leads(p)
	var all []pair
	search(after(p, machine.Of(p.Machine.Starts), nil), p.Seen, lead, func(s machine.Set, before []int) bool {
		secret := s.Meet(machine.Of(p.Secret))
		search(sides{secret, s.Less(secret)}, p.Seen, func(at sides, event int) sides {
			return sides{lead(at.secret, event), lead(at.open, event)}
		}, func(at sides, behind []int) bool {
			if most >= 0 && len(behind) > most {
				return false
			}
			if at.secret == (machine.Set{}) || at.open != (machine.Set{}) {
				return true
			}
			all = append(all, pair{before, behind})
			return false
		})
		return true
	})
	if len(all) == 0 {
		return nil
	}
	least := slices.MinFunc(all, order)
	return &least
}

// ofBits answers the row of the bits that a number has.
func ofBits(set int) []int {
	var l []int
	for n := range 63 {
		if set>>n&1 == 1 {
			l = append(l, n)
		}
	}
	return l
}

// mixed answers a number that hangs on n, its bits well mixed.
func mixed(n uint64) uint64 {
	n = (n + 1) * 0x9e3779b97f4a7c15
	n = (n ^ n>>29) * 0xbf58476d1ce4e5b9
	return n ^ n>>32
}

// some answers a plant of that many states and events that hangs on seed; of all
// arrows that it might have about one of each rare is there.
func some(states, events, rare int, seed uint64) api.Plant {
	bits := mixed(seed)
	part := func(shift, below int) []int { return ofBits(int(bits >> shift & (1<<below - 1))) }
	m := api.Machine{States: states, Events: events, Starts: part(0, states), Ends: part(8, states)}
	for at := range states * events * states {
		if mixed(bits+uint64(at))%uint64(rare) == 0 {
			m.Arrows = append(m.Arrows, api.Arrow{From: at / states / events, Event: at / states % events, To: at % states})
		}
	}
	p := plant(m, part(16, events), part(24, states))
	if bits>>40&1 == 0 { // with more starts more is left open
		p.Machine.Starts = count(states)
	}
	if bits>>41&1 == 0 { // with few secrets, and much that is seen, lists are longer
		p.Seen, p.Secret = count(events), []int{int(bits>>42) % states}
	}
	return p
}

// plants goes through plants of up to that many states and events.
func plants(t *testing.T, most uint64, states, events int, yield func(p api.Plant)) {
	t.Helper()
	for seed := range most {
		bits := int(mixed(seed) >> 5 & 0xfffff)
		p := some(1+bits%states, bits>>4%(events+1), 2+bits>>8%9, 17*seed)
		if !current.May(p) {
			t.Fatal("the test is wrong: ", p)
		}
		yield(p)
	}
}

// words answers all lists of those numbers with at most so many of them, lesser
// ones first.
func words(of []int, most int) [][]int {
	all := [][]int{{}}
	for at := 0; at < len(all) && len(all[at]) < most; at++ {
		for _, n := range of {
			all = append(all, append(slices.Clone(all[at]), n))
		}
	}
	return all
}

// K1: against all words of the machine of up to 5 events. In plants of up to 2
// states those tell all of lists of up to 2 seen events, as no more than one
// unseen event is needed between them.
func TestAllWords(t *testing.T) {
	key := func(seen []int) (k [2]int) {
		for i, event := range seen {
			k[i] = event + 1
		}
		return k
	}
	plants(t, 1500, 2, 3, func(p api.Plant) {
		ends, goes := map[[2]int]machine.Set{}, map[[2]int]machine.Set{}
		for _, word := range words(count(p.Machine.Events), 5) {
			seen := hide.Seen(word, p.Seen)
			if len(seen) > 2 {
				continue
			}
			k := key(seen)
			l, _ := machine.After(p.Machine, p.Machine.Starts, word)
			ends[k] = ends[k].Join(machine.Of(l))
			for n := range p.Machine.States {
				if l, _ := machine.After(p.Machine, []int{n}, word); len(l) > 0 {
					goes[k] = goes[k].With(n)
				}
			}
		}
		for _, before := range words(p.Seen, 2) {
			for _, behind := range words(p.Seen, 2) {
				checkWas(t, "all words", p, before, behind, ends[key(before)].Meet(goes[key(behind)]).Row())
			}
		}
	})
}

// wordOf answers a list of so many seen events that hangs on seed.
func wordOf(p api.Plant, length, seed uint64) []int {
	var word []int
	for at := range length * uint64(min(len(p.Seen), 1)) {
		word = append(word, p.Seen[mixed(at+100*seed)%uint64(len(p.Seen))])
	}
	return word
}

// K1: of plants of up to 6 states and 8 events.
func TestPlainWas(t *testing.T) {
	empty, part, whole := 0, 0, 0
	plants(t, 2500, api.MaxPlant, api.MaxEvents, func(p api.Plant) {
		for i := range uint64(9) {
			before, behind := wordOf(p, i%3*2, i), wordOf(p, i/3*2, i+50)
			want := plainWas(p, before, behind)
			checkWas(t, "some lists", p, before, behind, want)
			estimate := after(p, machine.Of(p.Machine.Starts), before).Row()
			switch {
			case len(want) == 0:
				empty++
			case len(want) < len(estimate):
				part++
			case len(behind) > 0:
				whole++
			}
		}
	})
	if empty < 500 || part < 300 || whole < 500 {
		t.Error("the test is wrong: ", empty, part, whole)
	}
}

// K1, I2, J1: with behind empty it is the estimate; where all is seen, and
// before is empty, it is where it began; it was somewhere just if both lists
// together can be seen, and then a run from there ends where it is.
func TestWasAmongOthers(t *testing.T) {
	plants(t, 1500, 5, 3, func(p api.Plant) {
		for _, before := range words(p.Seen, 2) {
			estimate, _ := current.Estimate(p, before)
			checkWas(t, "the estimate", p, before, nil, estimate)
			for _, behind := range words(p.Seen, 2) {
				was, e := Was(p, before, behind)
				is, _ := current.Estimate(p, slices.Concat(before, behind))
				if e != api.OK || after(p, machine.Of(was), behind) != machine.Of(is) || (len(was) == 0) != (len(is) == 0) {
					t.Errorf("Was(%v, %v, %v): %v, %d; but it is in %v", p, before, behind, was, e, is)
				}
			}
		}
		p.Seen = count(p.Machine.Events)
		for _, behind := range words(p.Seen, 3) {
			began, _ := initial.Began(p, behind)
			checkWas(t, "the beginning", p, nil, behind, began)
		}
	})
}

// ofLength answers those of lists that have so many numbers.
func ofLength(lists [][]int, length int) [][]int {
	return slices.DeleteFunc(slices.Clone(lists), func(l []int) bool { return len(l) != length })
}

// shortLists answers what Leak asks for of all lists with so many numbers
// together: it goes through them as K2 orders them.
func shortLists(p api.Plant, longest, most int) *pair {
	lists := words(p.Seen, longest)
	for together := range longest + 1 {
		for length := range together + 1 {
			if most >= 0 && length > most {
				break
			}
			for _, before := range ofLength(lists, together-length) {
				for _, behind := range ofLength(lists, length) {
					if plainTells(p, before, behind) {
						return two(before, behind)
					}
				}
			}
		}
	}
	return nil
}

// K2: against all short lists: the first ones that tell, or none of them.
func TestShortLists(t *testing.T) {
	const longest = 4
	none, now, later, both := 0, 0, 0, 0
	plants(t, 3000, 5, 3, func(p api.Plant) {
		for _, most := range []int{-1, 0, 1, 2} {
			want := shortLists(p, longest, most)
			switch {
			case want == nil:
				none++
				if is, before, behind, e := Leak(p, most); e != api.OK || is && len(before)+len(behind) <= longest {
					t.Errorf("Leak(%v, %d): %v, %v, %v, %d", p, most, is, before, behind, e)
				}
				continue
			case len(want.behind) == 0:
				now++
			case len(want.before) == 0:
				later++
			default:
				both++
			}
			checkLeak(t, "short lists", p, most, want)
		}
	})
	if none < 1000 || now < 1000 || later < 300 || both < 100 {
		t.Error("the test is wrong: ", none, now, later, both)
	}
}

// K2: against all lists, in plants of up to 2 states: as there are at most 3 sets
// that are not empty, none needs more than 2 events before, and 2 behind.
func TestAllLists(t *testing.T) {
	none, told := 0, 0
	plants(t, 3000, 2, 3, func(p api.Plant) {
		for _, most := range []int{-1, 0, 1} {
			want := shortLists(p, 4, most)
			checkLeak(t, "all lists", p, most, want)
			if want == nil {
				none++
			} else {
				told++
			}
		}
	})
	if none < 300 || told < 300 {
		t.Error("the test is wrong: ", none, told)
	}
}

// K2: of plants of up to 6 states and 8 events, with any most.
func TestPlainLeak(t *testing.T) {
	none, now, later, both, long, other := 0, 0, 0, 0, 0, 0
	plants(t, 5000, api.MaxPlant, api.MaxEvents, func(p api.Plant) {
		any := plainLeak(p, -1)
		checkLeak(t, "any steps", p, -1, any)
		checkLeak(t, "most steps", p, api.MaxSteps, any)
		for most := range 5 {
			want := plainLeak(p, most)
			checkLeak(t, "some steps", p, most, want)
			if want != nil && order(*want, *any) != 0 {
				other++
			}
		}
		switch {
		case any == nil:
			none++
		case len(any.behind) == 0:
			now++
		case len(any.before) == 0:
			later++
		default:
			both++
		}
		if any != nil && len(any.behind) > 1 {
			long++
		}
	})
	if none < 300 || now < 300 || later < 300 || both < 100 || long < 100 || other < 10 {
		t.Error("the test is wrong: ", none, now, later, both, long, other)
	}
}

// K3: with most 0 it is what current tells; what tells with some most tells with
// each greater one; and what is answered tells, by Was.
func TestGreaterMost(t *testing.T) {
	plants(t, 3000, api.MaxPlant, 4, func(p api.Plant) {
		is, word, e := current.Leak(p)
		if e != api.OK {
			t.Fatal(p, e)
		}
		if is {
			checkLeak(t, "as current", p, 0, two(word, nil))
		} else {
			checkLeak(t, "as current", p, 0, nil)
		}
		told, lists := false, pair{}
		for _, most := range []int{0, 1, 2, 3, 4, 63, api.MaxSteps, -1} {
			is, before, behind, e := Leak(p, most)
			if e != api.OK || told && !is || most >= 0 && len(behind) > most {
				t.Errorf("Leak(%v, %d): %v, %v, %v, %d", p, most, is, before, behind, e)
			}
			if told && order(pair{before, behind}, lists) > 0 {
				t.Errorf("Leak(%v, %d): %v, %v; but %v tell, too", p, most, before, behind, lists)
			}
			if l, e := Was(p, before, behind); is && (e != api.OK || !isTold(p, l)) {
				t.Errorf("Leak(%v, %d): %v, %v; but Was: %v, %d", p, most, before, behind, l, e)
			}
			told, lists = is, pair{before, behind}
		}
	})
}

// J2, K2: where all is seen, and it tells the beginning, it tells where it was.
func TestBeginning(t *testing.T) {
	told := 0
	plants(t, 2000, api.MaxPlant, 4, func(p api.Plant) {
		p.Seen = count(p.Machine.Events)
		is, word, e := initial.Leak(p)
		if e != api.OK {
			t.Fatal(p, e)
		}
		if !is {
			return
		}
		told++
		if is, before, behind, e := Leak(p, len(word)); !is || e != api.OK || len(before)+len(behind) > len(word) {
			t.Errorf("Leak(%v): %v, %v, %v, %d; but %v tells the beginning", p, is, before, behind, e, word)
		}
	})
	if told < 300 {
		t.Error("the test is wrong: ", told)
	}
}

// I1: which states are Ends counts for nothing.
func TestEnds(t *testing.T) {
	plants(t, 300, 4, 3, func(p api.Plant) {
		p.Machine.Ends = nil
		want := plainLeak(p, -1)
		for set := range 1 << p.Machine.States {
			p.Machine.Ends = ofBits(set)
			checkLeak(t, "other ends", p, -1, want)
			for _, word := range words(p.Seen, 1) {
				checkWas(t, "other ends", p, word, word, plainWas(p, word, word))
			}
		}
	})
}

// The whole: who sees more knows more: what leaks with fewer seen events leaks
// with more; and of what is seen of a run, where it was is told.
func TestSeesMore(t *testing.T) {
	fewer := 0
	plants(t, 200, 5, 4, func(p api.Plant) {
		var leaks []bool
		for set := range 1 << p.Machine.Events {
			p.Seen = ofBits(set)
			is, _, _, e := Leak(p, -1)
			if e != api.OK {
				t.Fatal(p, e)
			}
			leaks = append(leaks, is)
		}
		for set := range leaks {
			for less := range set {
				if less&^set == 0 && leaks[less] && !leaks[set] {
					t.Errorf("%v: it leaks with %v, and not with %v", p, ofBits(less), ofBits(set))
				}
			}
		}
		if !leaks[0] && leaks[len(leaks)-1] {
			fewer++
		}
		for _, word := range words(count(p.Machine.Events), 3) {
			for cut := range len(word) + 1 {
				checkRun(t, p, word[:cut], word[cut:])
			}
		}
	})
	if fewer < 30 {
		t.Error("the test is wrong: ", fewer)
	}
}

// checkRun asks that Was has all states where p may have been between two words,
// whatever of them is seen.
func checkRun(t *testing.T, p api.Plant, first, second []int) {
	t.Helper()
	var in []int
	come, _ := machine.After(p.Machine, p.Machine.Starts, first)
	for _, n := range come {
		if l, _ := machine.After(p.Machine, []int{n}, second); len(l) > 0 {
			in = append(in, n)
		}
	}
	for set := range 1 << p.Machine.Events {
		p.Seen = ofBits(set)
		l, e := Was(p, hide.Seen(first, p.Seen), hide.Seen(second, p.Seen))
		if out, _ := row.Less(in, l); e != api.OK || len(out) > 0 {
			t.Errorf("Was(%v, what is seen of %v and of %v): %v, %d; it may have been in %v", p, first, second, l, e, in)
		}
	}
}

// subsets is a machine of 6 states where any of the 64 sets of them is the
// estimate of some list, and is that of the states from which a run goes on of
// some list: at event 3 each goes on to the next one, the last one to the first
// one; event 5 does so too, but that a last one also stays; at event 7, it goes
// away.
func subsets() api.Machine {
	m := api.Machine{States: 6, Events: 8, Starts: []int{0}}
	for from := range 6 {
		next := (from + 1) % 6
		m.Arrows = append(m.Arrows, api.Arrow{From: from, Event: 3, To: next}, api.Arrow{From: from, Event: 5, To: next})
		if from == 5 {
			m.Arrows = append(m.Arrows, api.Arrow{From: from, Event: 5, To: from})
		} else {
			m.Arrows = append(m.Arrows, api.Arrow{From: from, Event: 7, To: next})
		}
	}
	return m
}

// K2, P1: where there are as many sets as can be, both ways.
func TestMostSets(t *testing.T) {
	all := plant(subsets(), []int{3, 5, 7}, nil)
	befores, _ := current.Estimates(all)
	behinds, _ := initial.Origins(all)
	if len(befores) != 64 || len(behinds) != 64 {
		t.Fatal("the test is wrong: ", len(befores), len(behinds))
	}
	behind, together := 0, 0
	for _, seen := range [][]int{{3, 5, 7}, {3, 5}, {5, 7}, {0, 3, 4, 5, 6, 7}} {
		checkLeak(t, "nothing secret", plant(subsets(), seen, nil), -1, nil)
		for secret := 1; secret < 64; secret++ {
			p := plant(subsets(), seen, ofBits(secret))
			for _, starts := range [][]int{count(6), ofBits(63 - secret)} {
				p.Machine.Starts = starts
				for _, most := range []int{-1, 0, 1, 3} {
					want := plainLeak(p, most)
					checkLeak(t, "any secret", p, most, want)
					if want != nil {
						behind, together = max(behind, len(want.behind)), max(together, len(want.before)+len(want.behind))
					}
				}
			}
		}
	}
	if behind < 3 || together < 6 {
		t.Error("the test is wrong: ", behind, together)
	}
}

// P1: plants of 6 states and 8 events with all arrows are answered.
func TestFullest(t *testing.T) {
	p := plant(api.Machine{States: 6, Events: 8, Starts: count(6), Ends: count(6)}, count(8), count(5))
	for at := range 6 * 8 * 6 {
		p.Machine.Arrows = append(p.Machine.Arrows, api.Arrow{From: at / 48, Event: at / 6 % 8, To: at % 6})
	}
	checkLeak(t, "all arrows, all but one secret", p, -1, nil)
	checkWas(t, "all arrows", p, []int{7, 0, 7}, []int{1, 1}, count(6))
	p.Secret = count(6)
	checkLeak(t, "all arrows, all secret", p, -1, two(nil, nil))
	p.Seen = nil
	checkLeak(t, "nothing seen, all secret", p, 0, two(nil, nil))
	checkWas(t, "nothing seen", p, nil, nil, count(6))
}

// withMore answers l with other numbers behind its length.
func withMore(l []int) []int { return append(slices.Clone(l), 0, 1)[:len(l)] }

// untouched tells whether a list that withMore made has all its numbers still.
func untouched(l, was []int) bool {
	return slices.Equal(l[:len(was)+2], append(slices.Clone(was), 0, 1))
}

// scribble writes over all that a list has room for.
func scribble(l []int) {
	l = l[:cap(l)]
	for i := range l {
		l[i] = 500
	}
}

// P3: what is handed in stays as it is and is not shared, what lies behind a
// list's length is not read, and no two lists that are answered share anything.
func TestMemory(t *testing.T) {
	arrows := []api.Arrow{{From: 0, Event: 0, To: 1}, {From: 0, Event: 0, To: 2}, {From: 1, Event: 1, To: 3}, {From: 2, Event: 0, To: 3}, {From: 99}}
	wasArrows := slices.Clone(arrows)
	m := api.Machine{States: 4, Events: 2, Starts: withMore([]int{0}), Arrows: arrows[:4], Ends: withMore([]int{1})}
	p := plant(m, withMore([]int{0, 1}), withMore([]int{1}))
	first, second := withMore([]int{0}), withMore([]int{1})
	for range 2 {
		l, e := Was(p, first, second)
		only, f := Was(p, first, second[:0])
		is, before, behind, g := Leak(p, 1)
		if e != api.OK || f != api.OK || g != api.OK || !is || !slices.Equal(l, []int{1}) || !slices.Equal(only, []int{1, 2}) {
			t.Fatal(l, e, only, f, is, before, behind, g)
		}
		scribble(l)
		scribble(only)
		if !slices.Equal(before, []int{0}) || !slices.Equal(behind, []int{1}) {
			t.Error(before, behind)
		}
		scribble(before)
		if !slices.Equal(behind, []int{1}) {
			t.Error("what is answered is shared: ", behind)
		}
		scribble(behind)
	}
	if !untouched(m.Starts, []int{0}) || !untouched(m.Ends, []int{1}) || !slices.Equal(arrows, wasArrows) ||
		!untouched(p.Seen, []int{0, 1}) || !untouched(p.Secret, []int{1}) || !untouched(first, []int{0}) || !untouched(second, []int{1}) {
		t.Error("what was handed in is changed or shared")
	}
}

// P3: one list may stand at several places.
func TestSameList(t *testing.T) {
	l := []int{0, 1}
	p := plant(api.Machine{States: 2, Events: 2, Starts: l, Arrows: []api.Arrow{{To: 1}, {From: 1, Event: 1, To: 0}}, Ends: l}, l, l)
	checkWas(t, "one list", p, l, l, []int{0})
	checkLeak(t, "one list", p, -1, two(nil, nil))
	if !slices.Equal(l, []int{0, 1}) {
		t.Error(l)
	}
}
