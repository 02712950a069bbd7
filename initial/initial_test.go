package initial

import (
	"math"
	"slices"
	"testing"

	"jalousie/api"
	"jalousie/current"
	"jalousie/hide"
	"jalousie/machine"
	"jalousie/row"
)

// count answers the row of the numbers below n.
func count(n int) []int {
	var l []int
	for i := range n {
		l = append(l, i)
	}
	return l
}

// ofArrows is a machine of that many states and events, all of whose states are
// starts, with the arrows whose three numbers are told one behind another.
func ofArrows(states, events int, numbers ...int) api.Machine {
	m := api.Machine{States: states, Events: events, Starts: count(states)}
	for three := range slices.Chunk(numbers, 3) {
		m.Arrows = append(m.Arrows, api.Arrow{From: three[0], Event: three[1], To: three[2]})
	}
	return m
}

// plant is a plant of that machine, those seen events, and those secret states.
func plant(m api.Machine, seen, secret []int) api.Plant {
	return api.Plant{Machine: m, Seen: seen, Secret: secret}
}

// list answers the numbers that it is given: not nil, be there none.
func list(l ...int) []int { return append([]int{}, l...) }

func checkBegan(t *testing.T, name string, p api.Plant, word, want []int) {
	t.Helper()
	if l, e := Began(p, word); e != api.OK || !slices.Equal(l, want) {
		t.Errorf("%s: Began(%v, %v): %v, %d; asked for: %v", name, p, word, l, e, want)
	}
}

// checkLeak asks for false, if want is nil, and else for true and that list.
func checkLeak(t *testing.T, name string, p api.Plant, want []int) {
	t.Helper()
	if is, l, e := Leak(p); e != api.OK || is != (want != nil) || !slices.Equal(l, want) {
		t.Errorf("%s: Leak(%v): %v, %v, %d; asked for: %v", name, p, is, l, e, want)
	}
}

// wrong are plants that may not be.
func wrong() map[string]api.Plant {
	of := func(m api.Machine) api.Plant { return plant(m, []int{0}, []int{0}) }
	ring := ofArrows(2, 2, 0, 0, 1, 1, 1, 0)
	return map[string]api.Plant{
		"nothing":               {},
		"no machine":            of(api.Machine{}),
		"least number":          of(api.Machine{States: math.MinInt, Events: math.MinInt}),
		"greatest number":       of(api.Machine{States: math.MaxInt, Events: math.MaxInt}),
		"257 states":            of(api.Machine{States: 257, Events: 2}),
		"7 states":              of(ofArrows(7, 2)),
		"256 states":            of(ofArrows(256, 8)),
		"7 states, without all": plant(api.Machine{States: 7}, nil, nil),
		"9 events":              of(api.Machine{States: 1, Events: 9}),
		"-1 events":             of(api.Machine{States: 1, Events: -1}),
		"start beyond":          of(api.Machine{States: 1, Events: 2, Starts: []int{1}}),
		"starts no row":         of(api.Machine{States: 2, Events: 2, Starts: []int{1, 0}}),
		"end beyond":            of(api.Machine{States: 2, Events: 2, Ends: []int{2}}),
		"end twice":             of(api.Machine{States: 2, Events: 2, Ends: []int{1, 1}}),
		"arrow to beyond":       of(ofArrows(1, 2, 0, 0, 1)),
		"arrow from below":      of(ofArrows(1, 2, -1, 0, 0)),
		"event beyond":          of(ofArrows(1, 2, 0, 2, 0)),
		"arrow twice":           of(ofArrows(1, 2, 0, 0, 0, 0, 0, 0)),
		"arrows fall":           of(ofArrows(1, 2, 0, 1, 0, 0, 0, 0)),
		"seen beyond":           plant(ring, []int{2}, nil),
		"seen far beyond":       plant(ring, []int{0, math.MaxInt}, nil),
		"seen below":            plant(ring, []int{-1}, nil),
		"seen falls":            plant(ring, []int{1, 0}, nil),
		"seen twice":            plant(ring, []int{1, 1}, nil),
		"seen, of no events":    plant(api.Machine{States: 1}, []int{0}, nil),
		"secret beyond":         plant(ring, []int{1}, []int{2}),
		"secret far beyond":     plant(ring, []int{1}, []int{0, math.MaxInt}),
		"secret below":          plant(ring, []int{1}, []int{math.MinInt}),
		"secret falls":          plant(ring, []int{1}, []int{1, 0}),
		"secret twice":          plant(ring, []int{1}, []int{0, 0}),
		"secret 6":              plant(ofArrows(6, 8), count(8), []int{6}),
		"seen 8":                plant(ofArrows(6, 8), []int{8}, count(6)),
	}
}

// J1, J2, P2: what is wrong, in the order in which it is named, and that nothing
// else is answered then.
func TestErrors(t *testing.T) {
	refused := func(name string, p api.Plant, word []int, want api.Errno) {
		t.Helper()
		if l, e := Began(p, word); len(l) != 0 || e != want {
			t.Errorf("%s: Began(%v, %v): %v, %d; asked for: %d", name, p, word, l, e, want)
		}
	}
	for name, p := range wrong() {
		if is, l, e := Leak(p); is || len(l) != 0 || e != api.ErrForm {
			t.Errorf("%s: Leak(%v): %v, %v, %d", name, p, is, l, e)
		}
		for _, word := range [][]int{nil, {0}, {-1}, {99}} {
			refused(name, p, word, api.ErrForm)
		}
	}
	p := plant(ofArrows(3, 4, 0, 1, 1, 0, 3, 1, 1, 1, 2, 1, 2, 0), []int{1, 3}, []int{2})
	for _, word := range [][]int{
		{0}, {2}, {4}, {-1}, {8}, {math.MaxInt}, {math.MinInt},
		{1, 2}, {0, 1}, {1, 1, 0}, {0, 3, 3, 3, 3}, {2, 3, 3, 3, 3}, {1, 4, 1},
	} {
		refused("not seen", p, word, api.ErrRange)
	}
	p.Seen = nil
	for event := range 4 {
		refused("nothing is seen", p, []int{event}, api.ErrRange)
	}
	refused("there is no event", plant(ofArrows(1, 0), nil, nil), []int{0}, api.ErrRange)
	refused("there is no start", plant(api.Machine{States: 1, Events: 2}, []int{1}, nil), []int{1, 1, 0}, api.ErrRange)
}

// J1: by hand. Unseen events may come ahead of the seen ones, between them and
// behind them, in circles too; of nothing seen the starts are told, and no state
// that an unseen event leads to.
func TestBegan(t *testing.T) {
	line := ofArrows(6, 3, 0, 1, 1, 1, 0, 2, 2, 1, 3, 3, 2, 4, 4, 1, 5)
	p := plant(line, []int{0, 2}, nil)
	checkBegan(t, "nothing", p, nil, count(6))
	checkBegan(t, "ahead", p, []int{0}, []int{0, 1})
	checkBegan(t, "between", p, []int{0, 2}, []int{0, 1})
	checkBegan(t, "later on", p, []int{2}, []int{2, 3})
	checkBegan(t, "the other one first", p, []int{2, 0}, nil)
	checkBegan(t, "beyond what can be", p, []int{0, 2, 2}, nil)
	p.Seen = []int{1}
	checkBegan(t, "seen now, nothing", p, list(), count(6))
	checkBegan(t, "seen now, once", p, []int{1}, count(5))
	checkBegan(t, "seen now, twice", p, []int{1, 1}, []int{0, 1, 2})
	checkBegan(t, "seen now, three times", p, []int{1, 1, 1}, []int{0})
	checkBegan(t, "seen now, four times", p, []int{1, 1, 1, 1}, nil)
	p.Seen = count(3)
	checkBegan(t, "all is seen", p, []int{0, 1}, []int{1})
	checkBegan(t, "all is seen, and it is not so", p, []int{0, 2}, nil)
	p.Machine.Starts = []int{0, 2}
	p.Seen = []int{0, 2}
	checkBegan(t, "two starts, nothing", p, nil, []int{0, 2})
	checkBegan(t, "two starts, one of them", p, []int{0, 2}, []int{0})
	checkBegan(t, "two starts, the other one", p, []int{2}, []int{2})
	p.Seen = nil
	checkBegan(t, "nothing is seen", p, nil, []int{0, 2})
	p.Machine.Starts = nil
	checkBegan(t, "no start", p, nil, nil)
	p.Seen = []int{0}
	checkBegan(t, "no start, and a word", p, []int{0}, nil)
	circle := plant(ofArrows(4, 2, 0, 0, 1, 1, 0, 2, 1, 1, 3, 2, 0, 0), []int{1}, nil)
	checkBegan(t, "a circle", circle, []int{1}, []int{0, 1, 2})
	checkBegan(t, "and no further", circle, []int{1, 1}, nil)
	fork := plant(ofArrows(4, 8, 0, 6, 1, 0, 6, 2, 1, 3, 3, 3, 6, 3), []int{3, 6}, nil)
	checkBegan(t, "one way of two", fork, []int{6, 3}, []int{0})
	checkBegan(t, "one way of two, and on", fork, []int{6, 3, 6}, []int{0})
	checkBegan(t, "the way that goes on", fork, []int{6, 6}, []int{3})
}

// J2: by hand.
func TestLeak(t *testing.T) {
	line := ofArrows(6, 3, 0, 1, 1, 1, 0, 2, 2, 1, 3, 3, 2, 4, 4, 1, 5)
	for _, c := range []struct{ seen, secret, want []int }{
		{[]int{0, 2}, []int{0}, nil},
		{[]int{0, 2}, []int{0, 1}, []int{0}},
		{[]int{0, 2}, []int{2, 3}, []int{2}},
		{[]int{0, 2}, []int{0, 2, 4, 5}, nil},
		{[]int{0, 2}, []int{0, 1, 2, 3}, []int{0}},
		{[]int{1}, []int{0}, []int{1, 1, 1}},
		{[]int{1}, []int{0, 1, 2}, []int{1, 1}},
		{[]int{1}, []int{1, 2, 3, 4, 5}, nil},
		{[]int{0, 1, 2}, []int{4}, nil},
		{[]int{0, 1, 2}, []int{2}, []int{1, 2}},
		{nil, count(5), nil},
		{nil, count(6), list()},
		{count(3), count(6), list()},
		{count(3), nil, nil},
		{nil, nil, nil},
	} {
		checkLeak(t, "a line", plant(line, c.seen, c.secret), c.want)
	}
	line.Starts = []int{0, 2}
	checkLeak(t, "two starts", plant(line, []int{0, 2}, []int{0}), []int{0})
	checkLeak(t, "the other one", plant(line, []int{0, 2}, []int{2}), []int{2})
	checkLeak(t, "both secret", plant(line, []int{0, 2}, []int{0, 2}), list())
	checkLeak(t, "what is no start is secret", plant(line, []int{0, 2}, []int{1, 3, 4, 5}), nil)
	checkLeak(t, "nothing seen", plant(line, nil, []int{2}), nil)
	line.Starts = []int{3}
	checkLeak(t, "one start", plant(line, []int{0, 2}, []int{3}), list())
	checkLeak(t, "one start that is not secret", plant(line, []int{0, 2}, []int{0, 1, 2, 4, 5}), nil)
	line.Starts = nil
	checkLeak(t, "no start", plant(line, count(3), count(6)), nil)
	checkLeak(t, "no start, nothing seen", plant(line, nil, count(6)), nil)
}

// J2: a list that can't be seen tells nothing, as it can have begun nowhere.
func TestNowhere(t *testing.T) {
	p := plant(ofArrows(2, 8, 0, 4, 1), []int{4, 6}, []int{1})
	checkBegan(t, "nowhere", p, []int{6}, nil)
	checkBegan(t, "nowhere, too", p, []int{4, 4}, nil)
	checkLeak(t, "the secret start does nothing", p, nil)
	checkLeak(t, "the other one does", plant(p.Machine, p.Seen, []int{0}), []int{4})
	checkLeak(t, "nothing secret", plant(p.Machine, p.Seen, nil), nil)
	p.Machine.Starts = []int{1}
	checkLeak(t, "what is done from no start", plant(p.Machine, p.Seen, []int{0}), nil)
}

// G1, J2: fewer events are lesser, whatever they are; of as many the first
// place where they differ tells; they have the numbers of the machine's events.
func TestLeast(t *testing.T) {
	fewer := ofArrows(3, 8, 0, 2, 1, 0, 7, 2, 1, 2, 2)
	checkLeak(t, "fewer", plant(fewer, []int{2, 7}, []int{0}), []int{7})
	checkLeak(t, "without the shorter one", plant(fewer, []int{2}, []int{0}), []int{2, 2})
	// 3 7 and 7 3 tell, and neither 3 nor 7 does: the first event is found last
	turned := ofArrows(5, 8, 0, 3, 1, 0, 7, 2, 1, 7, 3, 2, 3, 3)
	checkLeak(t, "less at first", plant(turned, []int{1, 3, 5, 7}, []int{0}), []int{3, 7})
	// the same, but that 7 3 tells of another start than 3 7 does
	others := ofArrows(6, 8, 0, 3, 2, 1, 7, 3, 2, 7, 4, 3, 3, 5)
	checkLeak(t, "of two starts", plant(others, []int{3, 7}, []int{0, 1}), []int{3, 7})
	checkLeak(t, "of the later one", plant(others, []int{3, 7}, []int{1}), []int{7, 3})
	second := ofArrows(5, 8, 0, 3, 1, 1, 5, 4, 1, 7, 4, 2, 3, 4)
	checkLeak(t, "then the second", plant(second, []int{1, 3, 5, 7}, []int{0}), []int{3, 5})
	// at 2 the lesser list tells no more, as a start that is not secret has it, too
	blurred := ofArrows(4, 6, 0, 2, 1, 0, 5, 2, 3, 2, 1)
	checkLeak(t, "the least one is blurred", plant(blurred, []int{2, 5}, []int{0}), []int{5})
	for event := range api.MaxEvents {
		one := ofArrows(2, 8, 0, event, 1)
		checkLeak(t, "one event of all", plant(one, count(8), []int{0}), []int{event})
		checkLeak(t, "one event alone", plant(one, []int{event}, []int{0}), []int{event})
	}
}

// rings is a machine of one event, of rings side by side, all of whose states
// are starts.
func rings(sizes ...int) api.Machine {
	m := api.Machine{Events: 1}
	for _, size := range sizes {
		first := m.States
		for n := range size {
			m.Arrows = append(m.Arrows, api.Arrow{From: first + n, To: first + (n+1)%size})
		}
		m.States += size
	}
	m.Starts = count(m.States)
	return m
}

// slowest is a machine of which the watcher comes to know the beginning very
// late: at event 2 all go back to the one ahead, the first one to the last one;
// at 6 all but the last one stay, and the first one goes to the last one, too.
func slowest() api.Machine {
	m := ofArrows(6, 7, 0, 2, 5, 0, 6, 0, 0, 6, 5)
	for from := 1; from < 6; from++ {
		m.Arrows = append(m.Arrows, api.Arrow{From: from, Event: 2, To: from - 1})
		if from < 5 {
			m.Arrows = append(m.Arrows, api.Arrow{From: from, Event: 6, To: from})
		}
	}
	return m
}

// J1, J2: lists that are longer than there are states; and very long ones.
func TestLong(t *testing.T) {
	checkLeak(t, "one at last", plant(slowest(), []int{2, 6}, []int{0}), append(slices.Repeat([]int{6, 2, 2, 2, 2, 2}, 4), 6))
	checkLeak(t, "another one", plant(slowest(), []int{2, 6}, []int{1}), append([]int{2}, append(slices.Repeat([]int{6, 2, 2, 2, 2, 2}, 4), 6)...))
	const long = 6_000_000
	round := plant(rings(2, 3), []int{0}, []int{1, 4})
	checkLeak(t, "what ends nowhere", round, nil)
	checkBegan(t, "round", round, make([]int, long), count(5))
	// from the ring of 2 it goes on once by event 1, from its state 0
	out := plant(ofArrows(3, 2, 0, 0, 1, 0, 1, 2, 1, 0, 0), []int{0, 1}, nil)
	word := make([]int, long)
	word[long-1] = 1
	checkBegan(t, "out, from 1", out, word, []int{1})
	checkBegan(t, "out, from 0", out, word[1:], []int{0})
	word[0] = 1
	checkBegan(t, "out, and no further", out, word, nil)
	away := plant(ofArrows(6, 1), []int{0}, nil)
	checkBegan(t, "away", away, make([]int, long), nil)
	word[0] = 2
	if l, e := Began(away, word); len(l) != 0 || e != api.ErrRange {
		t.Error(l, e)
	}
}

// after answers the set of the states where a run from one of a set on may end
// of a word of which just word is seen, by those plain words: it goes along all
// arrows, from state to state, with so many of word's numbers seen.
func after(p api.Plant, from machine.Set, word []int) machine.Set {
	type point struct{ state, seen int }
	var points []point
	found := map[point]int{}
	add := func(to point) {
		if found[to]++; found[to] == 1 {
			points = append(points, to)
		}
	}
	for n := range from.All() {
		add(point{n, 0})
	}
	var ends machine.Set
	for at := 0; at < len(points); at++ {
		here := points[at]
		if here.seen == len(word) {
			ends = ends.With(here.state)
		}
		for _, a := range p.Machine.Arrows {
			switch {
			case a.From != here.state:
			case !slices.Contains(p.Seen, a.Event):
				add(point{a.To, here.seen})
			case here.seen < len(word) && word[here.seen] == a.Event:
				add(point{a.To, here.seen + 1})
			}
		}
	}
	return ends
}

// plainBegan answers what Began asks for, start by start.
func plainBegan(p api.Plant, word []int) []int {
	var l []int
	for _, n := range p.Machine.Starts {
		if after(p, machine.Of([]int{n}), word) != (machine.Set{}) {
			l = append(l, n)
		}
	}
	return l
}

// plainTells tells whether a row of starts tells the beginning.
func plainTells(p api.Plant, began []int) bool {
	return len(began) > 0 && !slices.ContainsFunc(began, func(n int) bool { return !slices.Contains(p.Secret, n) })
}

// plainLeak answers what Leak asks for, but from the front: it goes through
// what each start, on its own, leads to by lesser lists first. There may be very
// many such places: it tells whether it went through all that it has to.
func plainLeak(p api.Plant) (want []int, done bool) {
	type fronts [api.MaxPlant]machine.Set
	type place struct {
		fronts
		word []int
	}
	lead := leads(p)
	var first fronts
	for _, n := range p.Machine.Starts {
		first[n] = machine.Of([]int{n})
	}
	places, known := []place{{first, list()}}, map[fronts]int{first: 0}
	for at := 0; at < len(places) && at < 3000; at++ {
		here := places[at]
		var began []int
		for n, s := range here.fronts {
			if s != (machine.Set{}) {
				began = append(began, n)
			}
		}
		if plainTells(p, began) {
			return here.word, true
		}
		for _, event := range p.Seen {
			var next fronts
			for n, s := range here.fronts {
				next[n] = lead(s, event)
			}
			if _, is := known[next]; !is {
				known[next] = 0
				places = append(places, place{next, append(slices.Clone(here.word), event)})
			}
		}
	}
	return nil, len(places) < 3000
}

// leads answers a closure that tells where a set of states leads to at a seen event.
func leads(p api.Plant) func(s machine.Set, event int) machine.Set {
	var to [api.MaxEvents][api.MaxPlant]machine.Set
	for _, event := range p.Seen {
		for n := range p.Machine.States {
			to[event][n] = after(p, machine.Of([]int{n}), []int{event})
		}
	}
	return func(s machine.Set, event int) machine.Set {
		var out machine.Set
		for n := range s.All() {
			out = out.Join(to[event][n])
		}
		return out
	}
}

// ofBits answers the row of the bits that a number has.
func ofBits(set int) []int {
	var l []int
	for n := range 63 {
		if set>>n&1 == 1 {
			l = append(l, n)
		}
	}
	return l
}

// mixed answers a number that hangs on n, its bits well mixed.
func mixed(n uint64) uint64 {
	n = (n + 1) * 0x9e3779b97f4a7c15
	n = (n ^ n>>29) * 0xbf58476d1ce4e5b9
	return n ^ n>>32
}

// some answers a plant of that many states and events that hangs on seed; of all
// arrows that it might have about one of each rare is there.
func some(states, events, rare int, seed uint64) api.Plant {
	bits := mixed(seed)
	part := func(shift, below int) []int { return ofBits(int(bits >> shift & (1<<below - 1))) }
	m := api.Machine{States: states, Events: events, Starts: part(0, states), Ends: part(8, states)}
	for at := range states * events * states {
		if mixed(bits+uint64(at))%uint64(rare) == 0 {
			m.Arrows = append(m.Arrows, api.Arrow{From: at / states / events, Event: at / states % events, To: at % states})
		}
	}
	if bits>>40&1 == 0 { // with more starts more is left open
		m.Starts = count(states)
	}
	return plant(m, part(16, events), part(24, states))
}

// plants goes through plants of up to that many states and events.
func plants(t *testing.T, most uint64, states, events int, yield func(p api.Plant)) {
	t.Helper()
	for seed := range most {
		bits := int(mixed(seed) >> 5 & 0xfffff)
		p := some(1+bits%states, bits>>4%(events+1), 2+bits>>8%9, 17*seed)
		if !current.May(p) {
			t.Fatal("the test is wrong: ", p)
		}
		yield(p)
	}
}

// words answers all lists of those numbers with at most so many of them, lesser
// ones first.
func words(of []int, most int) [][]int {
	all := [][]int{{}}
	for at := 0; at < len(all) && len(all[at]) < most; at++ {
		for _, n := range of {
			all = append(all, append(slices.Clone(all[at]), n))
		}
	}
	return all
}

// J1: against all words of the machine of up to 5 events. In plants of up to 2
// states those tell all of lists of up to 2 seen events, as no more than one
// unseen event is needed between them.
func TestAllWords(t *testing.T) {
	key := func(seen []int) (k [2]int) {
		for i, event := range seen {
			k[i] = event + 1
		}
		return k
	}
	plants(t, 1500, 2, 3, func(p api.Plant) {
		began := map[[2]int]machine.Set{}
		for _, word := range words(count(p.Machine.Events), 5) {
			seen := hide.Seen(word, p.Seen)
			if len(seen) > 2 {
				continue
			}
			for _, n := range p.Machine.Starts {
				if l, _ := machine.After(p.Machine, []int{n}, word); len(l) > 0 {
					began[key(seen)] = began[key(seen)].With(n)
				}
			}
		}
		for _, word := range words(p.Seen, 2) {
			checkBegan(t, "all words", p, word, began[key(word)].Row())
		}
	})
}

// J1: of plants of up to 6 states and 8 events.
func TestPlainBegan(t *testing.T) {
	empty, part, whole := 0, 0, 0
	plants(t, 3000, api.MaxPlant, api.MaxEvents, func(p api.Plant) {
		for i := range uint64(6) {
			var word []int
			for at := range i * 2 * uint64(min(len(p.Seen), 1)) {
				word = append(word, p.Seen[mixed(at+100*i)%uint64(len(p.Seen))])
			}
			want := plainBegan(p, word)
			checkBegan(t, "some word", p, word, want)
			switch {
			case len(want) == 0:
				empty++
			case len(want) < len(p.Machine.Starts):
				part++
			case len(word) > 0:
				whole++
			}
		}
	})
	if empty < 500 || part < 500 || whole < 500 {
		t.Error("the test is wrong: ", empty, part, whole)
	}
}

// J2: against all short lists: where none tells it is false, and else the first
// one that tells, of those that are gone through lesser ones first.
func TestShortLists(t *testing.T) {
	yes, no := 0, 0
	plants(t, 2000, 3, 2, func(p api.Plant) {
		// a run goes on from at most 7 sets that are not empty: so 6 events are enough
		all := words(p.Seen, 6)
		at := slices.IndexFunc(all, func(word []int) bool { return plainTells(p, plainBegan(p, word)) })
		if at < 0 {
			checkLeak(t, "no short list", p, nil)
			no++
		} else {
			checkLeak(t, "a short list", p, all[at])
			yes++
		}
	})
	if yes < 300 || no < 300 {
		t.Error("the test is wrong: ", yes, no)
	}
}

// J2: of plants of up to 6 states and 8 events.
func TestPlainLeak(t *testing.T) {
	yes, long, no := 0, 0, 0
	plants(t, 6000, api.MaxPlant, api.MaxEvents, func(p api.Plant) {
		want, done := plainLeak(p)
		if !done {
			t.Fatal("the test is wrong: ", p)
		}
		checkLeak(t, "against the way from the front", p, want)
		switch {
		case want == nil:
			no++
		case len(want) > 1:
			long++
		default:
			yes++
		}
	})
	if yes < 100 || long < 100 || no < 100 {
		t.Error("the test is wrong: ", yes, long, no)
	}
}

// J2: what Leak answers tells the beginning, by Began; and where it answers
// false, no short list does.
func TestTogether(t *testing.T) {
	plants(t, 1500, api.MaxPlant, 4, func(p api.Plant) {
		is, word, e := Leak(p)
		if e != api.OK {
			t.Fatal(p, e)
		}
		if l, e := Began(p, word); is && (e != api.OK || !plainTells(p, l)) {
			t.Errorf("Leak(%v): %v; but Began: %v, %d", p, word, l, e)
		}
		for _, other := range words(p.Seen, 3) {
			if is && len(other) >= len(word) {
				break
			}
			if l, e := Began(p, other); e != api.OK || plainTells(p, l) {
				t.Errorf("Leak(%v): %v, %v; but Began of %v: %v, %d", p, is, word, other, l, e)
			}
		}
	})
}

// Origins: all sets of states from which a run goes on of some list, each once,
// with its least list, lesser lists first; no two of those lists share anything.
func TestOrigins(t *testing.T) {
	plants(t, 800, 3, 2, func(p api.Plant) {
		places, e := Origins(p)
		anywhere := p
		anywhere.Machine.Starts = count(p.Machine.States)
		var want []current.Place
		known := map[machine.Set]int{}
		// there are at most 8 sets: so 7 events are enough
		for _, word := range words(p.Seen, 7) {
			s := machine.Of(plainBegan(anywhere, word))
			if known[s]++; known[s] == 1 {
				want = append(want, current.Place{Set: s, Word: word})
			}
		}
		same := func(a, b current.Place) bool { return a.Set == b.Set && slices.Equal(a.Word, b.Word) }
		if e != api.OK || !slices.EqualFunc(places, want, same) {
			t.Errorf("Origins(%v): %v, %d; asked for: %v", p, places, e, want)
		}
		for i := range places {
			scribble(places[i].Word)
			if !slices.EqualFunc(places[i+1:], want[i+1:], same) {
				t.Fatalf("Origins(%v): a list is shared", p)
			}
		}
	})
	if l, e := Origins(api.Plant{}); len(l) != 0 || e != api.ErrForm {
		t.Error(l, e)
	}
}

// I1: which states are Ends counts for nothing.
func TestEnds(t *testing.T) {
	plants(t, 400, 4, 3, func(p api.Plant) {
		is, least, e := Leak(p)
		if e != api.OK {
			t.Fatal(p, e)
		}
		var want []int
		if is {
			want = list(least...)
		}
		began := map[int][]int{}
		for i, word := range words(p.Seen, 2) {
			began[i], _ = Began(p, word)
		}
		for set := range 1 << p.Machine.States {
			p.Machine.Ends = ofBits(set)
			checkLeak(t, "other ends", p, want)
			for i, word := range words(p.Seen, 2) {
				checkBegan(t, "other ends", p, word, began[i])
			}
		}
	})
}

// The whole: who sees more knows more: what leaks with fewer seen events leaks
// with more; and of what is seen of a run, where it began is told.
func TestSeesMore(t *testing.T) {
	fewer := 0
	plants(t, 400, 5, 4, func(p api.Plant) {
		var leaks []bool
		for set := range 1 << p.Machine.Events {
			p.Seen = ofBits(set)
			is, _, e := Leak(p)
			if e != api.OK {
				t.Fatal(p, e)
			}
			leaks = append(leaks, is)
		}
		for set := range leaks {
			for less := range set {
				if less&^set == 0 && leaks[less] && !leaks[set] {
					t.Errorf("%v: it leaks with %v, and not with %v", p, ofBits(less), ofBits(set))
				}
			}
		}
		if !leaks[0] && leaks[len(leaks)-1] {
			fewer++
		}
		for _, word := range words(count(p.Machine.Events), 3) {
			var began []int
			for _, n := range p.Machine.Starts {
				if l, _ := machine.After(p.Machine, []int{n}, word); len(l) > 0 {
					began = append(began, n)
				}
			}
			for set := range leaks {
				p.Seen = ofBits(set)
				l, e := Began(p, hide.Seen(word, p.Seen))
				if out, _ := row.Less(began, l); e != api.OK || len(out) > 0 {
					t.Errorf("Began(%v, what is seen of %v): %v, %d; it may be of %v", p, word, l, e, began)
				}
			}
		}
	})
	if fewer < 50 {
		t.Error("the test is wrong: ", fewer)
	}
}

// subsets is a machine of 6 states where a run goes on, of some list, from just
// those of any of the 64 sets of states: at event 3 all go back to the one
// ahead, the first one to the last one; at 5 so too, but that the last one also
// stays; at 7 so too, but that the first one goes nowhere.
func subsets() api.Machine {
	m := ofArrows(6, 8, 0, 3, 5, 0, 5, 5)
	for from := 1; from < 6; from++ {
		m.Arrows = append(m.Arrows, api.Arrow{From: from, Event: 3, To: from - 1}, api.Arrow{From: from, Event: 5, To: from - 1})
		if from == 5 {
			m.Arrows = append(m.Arrows, api.Arrow{From: from, Event: 5, To: from})
		}
		m.Arrows = append(m.Arrows, api.Arrow{From: from, Event: 7, To: from - 1})
	}
	return m
}

// J2, P1: where there are as many sets as can be, with any secret.
func TestMostSets(t *testing.T) {
	found := map[machine.Set]int{}
	for _, word := range words([]int{3, 5, 7}, 9) {
		l, e := Began(plant(subsets(), []int{3, 5, 7}, nil), word)
		if found[machine.Of(l)]++; e != api.OK {
			t.Fatal(word, e)
		}
	}
	if len(found) != 64 {
		t.Fatal("the test is wrong: ", len(found))
	}
	long := 0
	for _, seen := range [][]int{{3, 5, 7}, {3, 5}, {5, 7}, {0, 3, 4, 5, 6, 7}} {
		checkLeak(t, "nothing secret", plant(subsets(), seen, nil), nil)
		for secret := 1; secret < 64; secret++ {
			p := plant(subsets(), seen, ofBits(secret))
			want, done := plainLeak(p)
			if !done {
				t.Fatal("the test is wrong: ", p)
			}
			checkLeak(t, "any secret", p, want)
			long = max(long, len(want))
		}
	}
	if long < 6 {
		t.Error("the test is wrong: ", long)
	}
}

// P1: plants of 6 states and 8 events with all arrows are answered.
func TestFullest(t *testing.T) {
	p := plant(api.Machine{States: 6, Events: 8, Starts: count(6), Ends: count(6)}, count(8), count(5))
	for at := range 6 * 8 * 6 {
		p.Machine.Arrows = append(p.Machine.Arrows, api.Arrow{From: at / 48, Event: at / 6 % 8, To: at % 6})
	}
	checkLeak(t, "all arrows, all but one secret", p, nil)
	checkBegan(t, "all arrows", p, []int{7, 0, 7}, count(6))
	p.Secret = count(6)
	checkLeak(t, "all arrows, all secret", p, list())
	p.Seen = nil
	checkLeak(t, "nothing seen, all secret", p, list())
	checkBegan(t, "nothing seen", p, nil, count(6))
}

// behind answers l with other numbers behind its length.
func behind(l []int) []int { return append(slices.Clone(l), 0, 1)[:len(l)] }

// untouched tells whether a list that behind made has all its numbers still.
func untouched(l, was []int) bool {
	return slices.Equal(l[:len(was)+2], append(slices.Clone(was), 0, 1))
}

// scribble writes over all that a list has room for.
func scribble(l []int) {
	l = l[:cap(l)]
	for i := range l {
		l[i] = 500
	}
}

// P3: what is handed in stays as it is and is not shared, and what lies behind
// a list's length is not read.
func TestMemory(t *testing.T) {
	arrows := []api.Arrow{{From: 0, Event: 0, To: 1}, {From: 1, Event: 0, To: 2}, {From: 1, Event: 1, To: 2}, {From: 99}}
	was := slices.Clone(arrows)
	m := api.Machine{States: 3, Events: 2, Starts: behind([]int{0, 1}), Arrows: arrows[:3], Ends: behind([]int{1})}
	p := plant(m, behind([]int{0, 1}), behind([]int{0}))
	word := behind([]int{0, 1})
	for range 2 {
		l, e := Began(p, word)
		is, leak, f := Leak(p)
		first, g := Began(p, word[:0])
		if e != api.OK || f != api.OK || g != api.OK || !is || !slices.Equal(l, []int{0}) ||
			!slices.Equal(leak, []int{0, 0}) || !slices.Equal(first, []int{0, 1}) {
			t.Fatal(l, e, is, leak, f, first, g)
		}
		scribble(l)
		scribble(leak)
		scribble(first)
	}
	if !untouched(m.Starts, []int{0, 1}) || !untouched(m.Ends, []int{1}) || !slices.Equal(arrows, was) ||
		!untouched(p.Seen, []int{0, 1}) || !untouched(p.Secret, []int{0}) || !untouched(word, []int{0, 1}) {
		t.Error("what was handed in is changed or shared")
	}
}

// P3: one list may stand at several places.
func TestSameList(t *testing.T) {
	l := []int{0, 1}
	p := plant(api.Machine{States: 2, Events: 2, Starts: l, Arrows: []api.Arrow{{To: 1}, {From: 1, Event: 1, To: 1}}, Ends: l}, l, l)
	checkBegan(t, "one list", p, l, []int{0})
	checkLeak(t, "one list", p, list())
	if !slices.Equal(l, []int{0, 1}) {
		t.Error(l)
	}
}
