package current

import (
	"math"
	"slices"
	"testing"

	"jalousie/api"
	"jalousie/determine"
	"jalousie/hide"
	"jalousie/machine"
	"jalousie/row"
)

// count answers the row of the numbers below n.
func count(n int) []int {
	var l []int
	for i := range n {
		l = append(l, i)
	}
	return l
}

// ofArrows is a machine of that many states and events with the start 0, and
// the arrows whose three numbers are told one behind another.
func ofArrows(states, events int, numbers ...int) api.Machine {
	m := api.Machine{States: states, Events: events, Starts: []int{0}}
	for three := range slices.Chunk(numbers, 3) {
		m.Arrows = append(m.Arrows, api.Arrow{From: three[0], Event: three[1], To: three[2]})
	}
	return m
}

// plant is a plant of that machine, those seen events, and those secret states.
func plant(m api.Machine, seen, secret []int) api.Plant {
	return api.Plant{Machine: m, Seen: seen, Secret: secret}
}

// list answers the numbers that it is given: not nil, be there none.
func list(l ...int) []int { return append([]int{}, l...) }

func checkEstimate(t *testing.T, name string, p api.Plant, word, want []int) {
	t.Helper()
	if l, e := Estimate(p, word); e != api.OK || !slices.Equal(l, want) {
		t.Errorf("%s: Estimate(%v, %v): %v, %d; asked for: %v", name, p, word, l, e, want)
	}
}

// checkLeak asks for false, if want is nil, and else for true and that list.
func checkLeak(t *testing.T, name string, p api.Plant, want []int) {
	t.Helper()
	if is, l, e := Leak(p); e != api.OK || is != (want != nil) || !slices.Equal(l, want) {
		t.Errorf("%s: Leak(%v): %v, %v, %d; asked for: %v", name, p, is, l, e, want)
	}
}

// good are plants that may be.
func good() map[string]api.Plant {
	ring := ofArrows(2, 2, 0, 0, 1, 1, 1, 0)
	ends := ring
	ends.Ends = []int{0, 1}
	return map[string]api.Plant{
		"one state":        plant(api.Machine{States: 1}, nil, nil),
		"one secret state": plant(api.Machine{States: 1}, nil, []int{0}),
		"empty lists":      plant(api.Machine{States: 1, Starts: list(), Ends: list(), Arrows: []api.Arrow{}}, list(), list()),
		"6 states":         plant(api.Machine{States: 6, Events: 8, Starts: count(6), Ends: count(6)}, count(8), count(6)),
		"the last of each": plant(api.Machine{States: 6, Events: 8}, []int{7}, []int{5}),
		"a ring":           plant(ring, []int{0, 1}, []int{1}),
		"nothing seen":     plant(ring, nil, []int{0}),
		"nothing secret":   plant(ring, []int{1}, nil),
		"ends":             plant(ends, []int{1}, []int{0}),
		"no start":         plant(api.Machine{States: 3, Events: 1, Arrows: []api.Arrow{{To: 2}}}, []int{0}, []int{1, 2}),
	}
}

// wrong are plants that may not be.
func wrong() map[string]api.Plant {
	of := func(m api.Machine) api.Plant { return plant(m, []int{0}, []int{0}) }
	ring := ofArrows(2, 2, 0, 0, 1, 1, 1, 0)
	return map[string]api.Plant{
		"nothing":               {},
		"no machine":            of(api.Machine{}),
		"less than none":        of(api.Machine{States: -1, Events: 2}),
		"least number":          of(api.Machine{States: math.MinInt, Events: math.MinInt}),
		"greatest number":       of(api.Machine{States: math.MaxInt, Events: math.MaxInt}),
		"257 states":            of(api.Machine{States: 257, Events: 2}),
		"7 states":              of(api.Machine{States: 7, Events: 2, Starts: []int{0}}),
		"256 states":            of(api.Machine{States: 256, Events: 8}),
		"7 states, without all": plant(api.Machine{States: 7}, nil, nil),
		"9 events":              of(api.Machine{States: 1, Events: 9}),
		"-1 events":             of(api.Machine{States: 1, Events: -1}),
		"start beyond":          of(api.Machine{States: 1, Events: 2, Starts: []int{1}}),
		"starts no row":         of(api.Machine{States: 2, Events: 2, Starts: []int{1, 0}}),
		"end beyond":            of(api.Machine{States: 2, Events: 2, Ends: []int{2}}),
		"end below":             of(api.Machine{States: 2, Events: 2, Ends: []int{-1}}),
		"end twice":             of(api.Machine{States: 2, Events: 2, Ends: []int{1, 1}}),
		"arrow to beyond":       of(ofArrows(1, 2, 0, 0, 1)),
		"event beyond":          of(ofArrows(1, 2, 0, 2, 0)),
		"arrow twice":           of(ofArrows(1, 2, 0, 0, 0, 0, 0, 0)),
		"arrows fall":           of(ofArrows(1, 2, 0, 1, 0, 0, 0, 0)),
		"seen beyond":           plant(ring, []int{2}, nil),
		"seen far beyond":       plant(ring, []int{0, math.MaxInt}, nil),
		"seen below":            plant(ring, []int{-1}, nil),
		"seen far below":        plant(ring, []int{math.MinInt, 0}, nil),
		"seen falls":            plant(ring, []int{1, 0}, nil),
		"seen twice":            plant(ring, []int{1, 1}, nil),
		"seen, of no events":    plant(api.Machine{States: 1}, []int{0}, nil),
		"secret beyond":         plant(ring, []int{1}, []int{2}),
		"secret far beyond":     plant(ring, []int{1}, []int{0, math.MaxInt}),
		"secret below":          plant(ring, []int{1}, []int{-1}),
		"secret far below":      plant(ring, []int{1}, []int{math.MinInt, 0}),
		"secret falls":          plant(ring, []int{1}, []int{1, 0}),
		"secret twice":          plant(ring, []int{1}, []int{0, 0}),
		"secret 6":              plant(api.Machine{States: 6, Events: 8}, count(8), []int{6}),
		"seen 8":                plant(api.Machine{States: 6, Events: 8}, []int{8}, count(6)),
	}
}

// I1: what may be, and what may not.
func TestMay(t *testing.T) {
	for name, p := range good() {
		if !May(p) {
			t.Errorf("%s: %v may be", name, p)
		}
	}
	for name, p := range wrong() {
		if May(p) {
			t.Errorf("%s: %v may not be", name, p)
		}
	}
}

// I2, I3, P2: what is wrong, in the order in which it is named, and that
// nothing else is answered then.
func TestErrors(t *testing.T) {
	refused := func(name string, p api.Plant, word []int, want api.Errno) {
		t.Helper()
		if l, e := Estimate(p, word); len(l) != 0 || e != want {
			t.Errorf("%s: Estimate(%v, %v): %v, %d; asked for: %d", name, p, word, l, e, want)
		}
	}
	for name, p := range wrong() {
		if is, l, e := Leak(p); is || len(l) != 0 || e != api.ErrForm {
			t.Errorf("%s: Leak(%v): %v, %v, %d", name, p, is, l, e)
		}
		for _, word := range [][]int{nil, {0}, {-1}, {99}} {
			refused(name, p, word, api.ErrForm)
		}
	}
	p := plant(ofArrows(3, 4, 0, 1, 1, 0, 3, 1, 1, 1, 2, 1, 2, 0), []int{1, 3}, []int{2})
	for _, word := range [][]int{
		{0}, {2}, {4}, {-1}, {math.MaxInt}, {math.MinInt},
		{1, 2}, {0, 1}, {1, 1, 0}, {3, 3, 3, 3, 2}, {1, 4, 1},
	} {
		refused("not seen", p, word, api.ErrRange)
	}
	p.Seen = nil
	for event := range 4 {
		refused("nothing is seen", p, []int{event}, api.ErrRange)
	}
	refused("there is no event", plant(api.Machine{States: 1, Starts: []int{0}}, nil, nil), []int{0}, api.ErrRange)
	refused("there is no start", plant(api.Machine{States: 1, Events: 2}, []int{1}, nil), []int{1, 1, 0}, api.ErrRange)
}

// I2: by hand. Unseen events may come ahead of the seen ones, between them and
// behind them, in circles too.
func TestEstimate(t *testing.T) {
	line := ofArrows(6, 3, 0, 1, 1, 1, 0, 2, 2, 1, 3, 3, 2, 4, 4, 1, 5)
	p := plant(line, []int{0, 2}, nil)
	checkEstimate(t, "ahead", p, nil, []int{0, 1})
	checkEstimate(t, "between", p, []int{0}, []int{2, 3})
	checkEstimate(t, "behind", p, []int{0, 2}, []int{4, 5})
	checkEstimate(t, "the other one first", p, []int{2}, nil)
	checkEstimate(t, "once more", p, []int{0, 2, 0}, nil)
	checkEstimate(t, "beyond what can be", p, []int{0, 0, 2}, nil)
	p.Seen = []int{1}
	checkEstimate(t, "seen now, nothing", p, list(), []int{0})
	checkEstimate(t, "seen now, once", p, []int{1}, []int{1, 2})
	checkEstimate(t, "seen now, twice", p, []int{1, 1}, []int{3, 4})
	checkEstimate(t, "seen now, three times", p, []int{1, 1, 1}, []int{5})
	checkEstimate(t, "seen now, four times", p, []int{1, 1, 1, 1}, nil)
	p.Seen = count(3)
	checkEstimate(t, "all is seen", p, []int{1, 0, 1}, []int{3})
	checkEstimate(t, "all is seen, and it is not so", p, []int{0, 1, 1}, nil)
	p.Seen = nil
	checkEstimate(t, "nothing is seen", p, nil, count(6))
	p.Machine.Starts = []int{2, 4}
	checkEstimate(t, "nothing is seen, of other starts", p, nil, []int{2, 3, 4, 5})
	p.Machine.Starts = nil
	checkEstimate(t, "no start", p, nil, nil)
	p.Seen = []int{0}
	checkEstimate(t, "no start, and a word", p, []int{0, 0}, nil)
	circle := plant(ofArrows(4, 2, 0, 0, 1, 1, 0, 2, 1, 1, 3, 2, 0, 0), []int{1}, nil)
	checkEstimate(t, "a circle", circle, nil, []int{0, 1, 2})
	checkEstimate(t, "out of it", circle, []int{1}, []int{3})
	checkEstimate(t, "and no further", circle, []int{1, 1}, nil)
}

// I3: by hand.
func TestLeak(t *testing.T) {
	line := ofArrows(6, 3, 0, 1, 1, 1, 0, 2, 2, 1, 3, 3, 2, 4, 4, 1, 5)
	for _, c := range []struct{ seen, secret, want []int }{
		{[]int{0, 2}, []int{0}, nil},
		{[]int{0, 2}, []int{1}, nil},
		{[]int{0, 2}, []int{0, 1}, list()},
		{[]int{0, 2}, []int{2, 3}, []int{0}},
		{[]int{0, 2}, []int{1, 2, 4}, nil},
		{[]int{0, 2}, []int{2, 4, 5}, []int{0, 2}},
		{[]int{0, 2}, []int{0, 2, 3, 4, 5}, []int{0}},
		{[]int{1}, []int{0}, list()},
		{[]int{1}, []int{5}, []int{1, 1, 1}},
		{[]int{1}, []int{2, 4}, nil},
		{[]int{0, 1, 2}, []int{4}, []int{1, 0, 1, 2}},
		{nil, count(5), nil},
		{nil, count(6), list()},
		{count(3), nil, nil},
		{nil, nil, nil},
	} {
		checkLeak(t, "a line", plant(line, c.seen, c.secret), c.want)
	}
	line.Starts = nil
	checkLeak(t, "no start", plant(line, count(3), count(6)), nil)
	checkLeak(t, "no start, nothing seen", plant(line, nil, count(6)), nil)
	line.Starts = []int{0, 3}
	checkLeak(t, "two starts", plant(line, []int{1, 2}, []int{4}), []int{2})
	checkLeak(t, "both secret", plant(line, []int{1, 2}, []int{0, 3}), list())
	checkLeak(t, "one of them", plant(line, []int{1}, []int{3, 5}), []int{1, 1, 1})
}

// I3: what can't be seen does not leak, as its estimate is empty; nor does an
// event whose number is not one of those that the hidden machine has.
func TestEmptyEstimate(t *testing.T) {
	one := plant(ofArrows(2, 8, 0, 4, 1, 1, 6, 1), []int{4, 6}, []int{1})
	checkEstimate(t, "nothing", one, []int{6}, nil)
	checkLeak(t, "the second seen event leads nowhere at first", one, []int{4})
	checkLeak(t, "nothing secret", plant(one.Machine, one.Seen, nil), nil)
	never := plant(api.Machine{States: 2, Events: 2, Starts: []int{0}}, []int{0, 1}, []int{1})
	checkLeak(t, "a secret that is never come to", never, nil)
	checkLeak(t, "and one that is", plant(never.Machine, never.Seen, []int{0}), list())
}

// G1, I3: fewer events are lesser, whatever they are; of as many the first
// place where they differ tells; they have the numbers of the machine's events.
func TestLeast(t *testing.T) {
	fewer := ofArrows(3, 8, 0, 2, 1, 0, 7, 2, 1, 2, 2)
	checkLeak(t, "fewer", plant(fewer, []int{2, 7}, []int{2}), []int{7})
	checkLeak(t, "without the shorter one", plant(fewer, []int{2}, []int{2}), []int{2, 2})
	first := ofArrows(5, 8, 0, 3, 1, 0, 5, 2, 1, 7, 4, 2, 1, 4)
	checkLeak(t, "less at first", plant(first, []int{1, 3, 5, 7}, []int{4}), []int{3, 7})
	second := ofArrows(5, 8, 0, 3, 1, 1, 5, 4, 1, 7, 4)
	checkLeak(t, "then the second", plant(second, []int{1, 3, 5, 7}, []int{4}), []int{3, 5})
	// behind 0 0 and behind 1 it is in one state: the list goes on by 1
	meet := ofArrows(4, 2, 0, 0, 1, 0, 1, 2, 1, 0, 2, 2, 0, 3)
	checkLeak(t, "two lists to one state", plant(meet, []int{0, 1}, []int{3}), []int{1, 0})
	// at 2 the lesser list leaks no more, as a state that is not secret has it, too
	blurred := ofArrows(4, 6, 0, 2, 1, 0, 2, 2, 0, 5, 2)
	checkLeak(t, "the least one is blurred", plant(blurred, []int{2, 5}, []int{2}), []int{5})
	for event := range api.MaxEvents {
		one := ofArrows(2, 8, 0, event, 1)
		checkLeak(t, "one event of all", plant(one, count(8), []int{1}), []int{event})
		checkLeak(t, "one event alone", plant(one, []int{event}, []int{1}), []int{event})
	}
}

// rings is a machine of one event, of rings side by side, each with a start.
func rings(sizes ...int) api.Machine {
	m := api.Machine{Events: 1}
	for _, size := range sizes {
		first := m.States
		m.Starts = append(m.Starts, first)
		for n := range size {
			m.Arrows = append(m.Arrows, api.Arrow{From: first + n, To: first + (n+1)%size})
		}
		m.States += size
	}
	return m
}

// slowest is a machine of which the watcher comes to know the state as late as
// can be, where each state has just one arrow at each seen event: at event 2 all
// go on to the next one, at 6 just the last one does, and all others stay.
func slowest() api.Machine {
	m := api.Machine{States: 6, Events: 7, Starts: count(6)}
	for from := range 6 {
		next := (from + 1) % 6
		m.Arrows = append(m.Arrows, api.Arrow{From: from, Event: 2, To: next})
		if from < 5 {
			next = from
		}
		m.Arrows = append(m.Arrows, api.Arrow{From: from, Event: 6, To: next})
	}
	return m
}

// I2, I3: lists that are longer than there are states; and a very long one.
func TestLong(t *testing.T) {
	p := plant(rings(2, 3), []int{0}, []int{1, 4})
	checkLeak(t, "rings of 2 and 3", p, slices.Repeat([]int{0}, 5))
	checkLeak(t, "rings of 2 and 4", plant(rings(2, 4), []int{0}, []int{0, 3}), nil)
	checkLeak(t, "rings of 1, 2 and 3", plant(rings(1, 2, 3), []int{0}, []int{0, 2, 5}), slices.Repeat([]int{0}, 5))
	checkLeak(t, "one at last", plant(slowest(), []int{2, 6}, []int{0}), append(slices.Repeat([]int{6, 2, 2, 2, 2, 2}, 4), 6))
	checkLeak(t, "another one", plant(slowest(), []int{2, 6}, []int{1}), append(slices.Repeat([]int{6, 2, 2, 2, 2, 2}, 4), 6, 2))
	checkEstimate(t, "all the way round", p, make([]int, 6_000_000), []int{0, 2})
	checkEstimate(t, "but one", p, make([]int, 5_999_999), []int{1, 4})
	away := plant(ofArrows(6, 1), []int{0}, nil)
	checkEstimate(t, "away", away, make([]int, 6_000_000), nil)
	word := make([]int, 6_000_000)
	word[len(word)-1] = 1
	if l, e := Estimate(away, word); len(l) != 0 || e != api.ErrRange {
		t.Error(l, e)
	}
}

// plainEstimate answers the estimate by the plain words of I2: it goes along all
// arrows, from state to state, with so many of word's numbers seen.
func plainEstimate(p api.Plant, word []int) []int {
	type point struct{ state, seen int }
	var points []point
	found := map[point]int{}
	add := func(to point) {
		if found[to]++; found[to] == 1 {
			points = append(points, to)
		}
	}
	for _, n := range p.Machine.Starts {
		add(point{n, 0})
	}
	for at := 0; at < len(points); at++ {
		here := points[at]
		for _, a := range p.Machine.Arrows {
			switch {
			case a.From != here.state:
			case !slices.Contains(p.Seen, a.Event):
				add(point{a.To, here.seen})
			case here.seen < len(word) && word[here.seen] == a.Event:
				add(point{a.To, here.seen + 1})
			}
		}
	}
	var l []int
	for n := range p.Machine.States {
		if found[point{n, len(word)}] > 0 {
			l = append(l, n)
		}
	}
	return l
}

// plainLeaks tells whether a list leaks, by the plain words of I3.
func plainLeaks(p api.Plant, word []int) bool {
	l := plainEstimate(p, word)
	return len(l) > 0 && !slices.ContainsFunc(l, func(n int) bool { return !slices.Contains(p.Secret, n) })
}

// plainLeak answers what Leak asks for, but from behind: of each set of states
// how many events at least lead from it to one that leaks, and then the way by
// the least event at which there is one less to go.
func plainLeak(p api.Plant) (bool, []int) {
	const far = 1000
	lead, left := leads(p), make([]int, 1<<p.Machine.States)
	secret := toBits(p.Secret)
	for set := range left {
		if left[set] = far; set != 0 && set&^secret == 0 {
			left[set] = 0
		}
	}
	for range left {
		for set := range left {
			for _, event := range p.Seen {
				left[set] = min(left[set], left[lead[set][event]]+1)
			}
		}
	}
	at, word := toBits(plainEstimate(p, nil)), []int{}
	if left[at] >= far {
		return false, nil
	}
	for left[at] > 0 {
		for _, event := range p.Seen {
			if to := lead[at][event]; left[to] == left[at]-1 {
				word, at = append(word, event), to
				break
			}
		}
	}
	return true, word
}

// leads answers of each set of states where it leads to at each event.
func leads(p api.Plant) [][api.MaxEvents]int {
	l := make([][api.MaxEvents]int, 1<<p.Machine.States)
	for set := range l {
		for _, event := range p.Seen {
			from := p
			from.Machine.Starts = ofBits(set)
			l[set][event] = toBits(plainEstimate(from, []int{event}))
		}
	}
	return l
}

// ofBits answers the row of the bits that a number has.
func ofBits(set int) []int {
	var l []int
	for n := range 63 {
		if set>>n&1 == 1 {
			l = append(l, n)
		}
	}
	return l
}

// toBits answers the number that has the bits of a row.
func toBits(l []int) int {
	set := 0
	for _, n := range l {
		set |= 1 << n
	}
	return set
}

// mixed answers a number that hangs on n, its bits well mixed.
func mixed(n uint64) uint64 {
	n = (n + 1) * 0x9e3779b97f4a7c15
	n = (n ^ n>>29) * 0xbf58476d1ce4e5b9
	return n ^ n>>32
}

// some answers a plant of that many states and events that hangs on seed; of all
// arrows that it might have about one of each rare is there.
func some(states, events, rare int, seed uint64) api.Plant {
	bits := mixed(seed)
	part := func(shift, below int) []int { return ofBits(int(bits >> shift & (1<<below - 1))) }
	m := api.Machine{States: states, Events: events, Starts: part(0, states), Ends: part(8, states)}
	for at := range states * events * states {
		if mixed(bits+uint64(at))%uint64(rare) == 0 {
			m.Arrows = append(m.Arrows, api.Arrow{From: at / states / events, Event: at / states % events, To: at % states})
		}
	}
	return plant(m, part(16, events), part(24, states))
}

// plants goes through plants of up to that many states and events.
func plants(t *testing.T, most uint64, states, events int, yield func(p api.Plant)) {
	t.Helper()
	for seed := range most {
		bits := int(mixed(seed) >> 5 & 0xfffff)
		p := some(1+bits%states, bits>>4%(events+1), 2+bits>>8%9, 17*seed)
		if !May(p) {
			t.Fatal("the test is wrong: ", p)
		}
		yield(p)
	}
}

// words answers all lists of those numbers with at most so many of them, lesser
// ones first.
func words(of []int, most int) [][]int {
	all := [][]int{{}}
	for at := 0; at < len(all) && len(all[at]) < most; at++ {
		for _, n := range of {
			all = append(all, append(slices.Clone(all[at]), n))
		}
	}
	return all
}

// I2: against all words of the machine of up to 5 events. In plants of up to 2
// states those tell all of lists of up to 2 seen events, as no more than one
// unseen event is needed between them.
func TestAllWords(t *testing.T) {
	plants(t, 1500, 2, 3, func(p api.Plant) {
		ends := map[[2]int]machine.Set{} // of up to two seen events, each from 1 on
		for _, word := range words(count(p.Machine.Events), 5) {
			var key [2]int
			seen := hide.Seen(word, p.Seen)
			if len(seen) > len(key) {
				continue
			}
			for i, event := range seen {
				key[i] = event + 1
			}
			l, _ := machine.After(p.Machine, p.Machine.Starts, word)
			ends[key] = ends[key].Join(machine.Of(l))
		}
		for _, word := range words(p.Seen, 2) {
			var key [2]int
			for i, event := range word {
				key[i] = event + 1
			}
			checkEstimate(t, "all words", p, word, ends[key].Row())
		}
	})
}

// I2: of plants of up to 6 states and 8 events.
func TestPlainEstimate(t *testing.T) {
	empty, more := 0, 0
	plants(t, 3000, api.MaxPlant, api.MaxEvents, func(p api.Plant) {
		for i := range uint64(6) {
			var word []int
			for at := range i * 2 * uint64(min(len(p.Seen), 1)) {
				word = append(word, p.Seen[mixed(at+100*i)%uint64(len(p.Seen))])
			}
			want := plainEstimate(p, word)
			checkEstimate(t, "some word", p, word, want)
			if len(want) == 0 {
				empty++
			} else if len(word) > 0 {
				more++
			}
		}
	})
	if empty < 500 || more < 500 {
		t.Error("the test is wrong: ", empty, more)
	}
}

// I3: against all short lists: where none leaks it is false, and else the first
// one that leaks, of those that are gone through lesser ones first.
func TestShortLists(t *testing.T) {
	yes, no := 0, 0
	plants(t, 1500, 3, 2, func(p api.Plant) {
		// there are at most 7 estimates that are not empty: so 6 events are enough
		all := words(p.Seen, 6)
		at := slices.IndexFunc(all, func(word []int) bool { return plainLeaks(p, word) })
		if at < 0 {
			checkLeak(t, "no short list", p, nil)
			no++
		} else {
			checkLeak(t, "a short list", p, all[at])
			yes++
		}
	})
	if yes < 300 || no < 300 {
		t.Error("the test is wrong: ", yes, no)
	}
}

// I3: of plants of up to 6 states and 8 events.
func TestPlainLeak(t *testing.T) {
	yes, long, no := 0, 0, 0
	plants(t, 6000, api.MaxPlant, api.MaxEvents, func(p api.Plant) {
		is, want := plainLeak(p)
		checkLeak(t, "against the way from behind", p, want)
		if is && !plainLeaks(p, want) {
			t.Fatal("the test is wrong: ", p, want)
		}
		switch {
		case !is:
			no++
		case len(want) > 1:
			long++
		default:
			yes++
		}
	})
	if yes < 100 || long < 50 || no < 100 {
		t.Error("the test is wrong: ", yes, long, no)
	}
}

// Estimates: all estimates, each once, with the least list that has it, lesser
// lists first; no two of those lists share anything.
func TestEstimates(t *testing.T) {
	plants(t, 800, 3, 2, func(p api.Plant) {
		places, e := Estimates(p)
		var want []Place
		known := map[machine.Set]int{}
		// there are at most 8 estimates: so 7 events are enough
		for _, word := range words(p.Seen, 7) {
			s := machine.Of(plainEstimate(p, word))
			if known[s]++; known[s] == 1 {
				want = append(want, Place{s, word})
			}
		}
		same := func(a, b Place) bool { return a.Set == b.Set && slices.Equal(a.Word, b.Word) }
		if e != api.OK || !slices.EqualFunc(places, want, same) {
			t.Errorf("Estimates(%v): %v, %d; asked for: %v", p, places, e, want)
		}
		for i := range places {
			scribble(places[i].Word)
			if !slices.EqualFunc(places[i+1:], want[i+1:], same) {
				t.Fatalf("Estimates(%v): a list is shared", p)
			}
		}
	})
	if l, e := Estimates(api.Plant{}); len(l) != 0 || e != api.ErrForm {
		t.Error(l, e)
	}
}

// I1: which states are Ends counts for nothing.
func TestEnds(t *testing.T) {
	plants(t, 400, 4, 3, func(p api.Plant) {
		is, least, e := Leak(p)
		if e != api.OK {
			t.Fatal(p, e)
		}
		var want []int
		if is {
			want = list(least...)
		}
		estimates := map[int][]int{}
		for i, word := range words(p.Seen, 2) {
			estimates[i], _ = Estimate(p, word)
		}
		for set := range 1 << p.Machine.States {
			p.Machine.Ends = ofBits(set)
			checkLeak(t, "other ends", p, want)
			for i, word := range words(p.Seen, 2) {
				checkEstimate(t, "other ends", p, word, estimates[i])
			}
		}
	})
}

// The whole: who sees more knows more: what leaks with fewer seen events leaks
// with more; and the estimate of what is seen has where the machine is.
func TestSeesMore(t *testing.T) {
	fewer := 0
	plants(t, 400, 5, 4, func(p api.Plant) {
		var leaks []bool
		for set := range 1 << p.Machine.Events {
			p.Seen = ofBits(set)
			is, _, e := Leak(p)
			if e != api.OK {
				t.Fatal(p, e)
			}
			leaks = append(leaks, is)
		}
		for set := range leaks {
			for less := range set {
				if less&^set == 0 && leaks[less] && !leaks[set] {
					t.Errorf("%v: it leaks with %v, and not with %v", p, ofBits(less), ofBits(set))
				}
			}
		}
		if !leaks[0] && leaks[len(leaks)-1] {
			fewer++
		}
		for _, word := range words(count(p.Machine.Events), 3) {
			in, _ := machine.After(p.Machine, p.Machine.Starts, word)
			for set := range leaks {
				p.Seen = ofBits(set)
				l, e := Estimate(p, hide.Seen(word, p.Seen))
				if out, _ := row.Less(in, l); e != api.OK || len(out) > 0 {
					t.Errorf("Estimate(%v, what is seen of %v): %v, %d; it may be in %v", p, word, l, e, in)
				}
			}
		}
	})
	if fewer < 50 {
		t.Error("the test is wrong: ", fewer)
	}
}

// subsets is a machine of 6 states that leads to all 64 sets of them: at event
// 3 each goes on to the next one, the last one to the first one; event 5 does so
// too, but that a last one also stays; at event 7, it goes away.
func subsets() api.Machine {
	m := api.Machine{States: 6, Events: 8, Starts: []int{0}}
	for from := range 6 {
		next := (from + 1) % 6
		m.Arrows = append(m.Arrows, api.Arrow{From: from, Event: 3, To: next}, api.Arrow{From: from, Event: 5, To: next})
		if from == 5 {
			m.Arrows = append(m.Arrows, api.Arrow{From: from, Event: 5, To: from})
		} else {
			m.Arrows = append(m.Arrows, api.Arrow{From: from, Event: 7, To: next})
		}
	}
	return m
}

// I3, P1: where there are as many estimates as can be, with any secret, and with
// any start.
func TestMostEstimates(t *testing.T) {
	if _, sets, e := determine.Make(subsets()); e != api.OK || len(sets) != 64 {
		t.Fatal("the test is wrong: ", len(sets), e)
	}
	long := 0
	for _, seen := range [][]int{{3, 5, 7}, {3, 5}, {5, 7}, {0, 3, 4, 5, 6, 7}} {
		for secret := range 64 {
			p := plant(subsets(), seen, ofBits(secret))
			p.Machine.Starts = ofBits(63 - secret)
			_, want := plainLeak(p)
			checkLeak(t, "with all others as starts", p, want)
			long = max(long, len(want))
		}
	}
	if long < 6 {
		t.Error("the test is wrong: ", long)
	}
}

// P1: plants of 6 states and 8 events with all arrows are answered.
func TestFullest(t *testing.T) {
	p := plant(api.Machine{States: 6, Events: 8, Starts: count(6), Ends: count(6)}, count(8), count(5))
	for at := range 6 * 8 * 6 {
		p.Machine.Arrows = append(p.Machine.Arrows, api.Arrow{From: at / 48, Event: at / 6 % 8, To: at % 6})
	}
	checkLeak(t, "all arrows, all but one secret", p, nil)
	checkEstimate(t, "all arrows", p, []int{7, 0, 7}, count(6))
	p.Secret = count(6)
	checkLeak(t, "all arrows, all secret", p, list())
	p.Seen = nil
	checkLeak(t, "nothing seen, all secret", p, list())
	checkEstimate(t, "nothing seen", p, nil, count(6))
}

// behind answers l with other numbers behind its length.
func behind(l []int) []int { return append(slices.Clone(l), 0, 1)[:len(l)] }

// untouched tells whether a list that behind made has all its numbers still.
func untouched(l, was []int) bool {
	return slices.Equal(l[:len(was)+2], append(slices.Clone(was), 0, 1))
}

// scribble writes over all that a list has room for.
func scribble(l []int) {
	l = l[:cap(l)]
	for i := range l {
		l[i] = 500
	}
}

// P3: what is handed in stays as it is and is not shared, and what lies behind
// a list's length is not read.
func TestMemory(t *testing.T) {
	arrows := []api.Arrow{{From: 0, Event: 0, To: 1}, {From: 1, Event: 1, To: 2}, {From: 99}}
	was := slices.Clone(arrows)
	m := api.Machine{States: 3, Events: 2, Starts: behind([]int{0}), Arrows: arrows[:2], Ends: behind([]int{1})}
	p := plant(m, behind([]int{0, 1}), behind([]int{2}))
	word := behind([]int{0, 1})
	for range 2 {
		l, e := Estimate(p, word)
		is, leak, f := Leak(p)
		first, g := Estimate(p, word[:0])
		if e != api.OK || f != api.OK || g != api.OK || !is || !slices.Equal(l, []int{2}) ||
			!slices.Equal(leak, []int{0, 1}) || !slices.Equal(first, []int{0}) {
			t.Fatal(l, e, is, leak, f, first, g)
		}
		scribble(l)
		scribble(leak)
		scribble(first)
	}
	if !untouched(m.Starts, []int{0}) || !untouched(m.Ends, []int{1}) || !slices.Equal(arrows, was) ||
		!untouched(p.Seen, []int{0, 1}) || !untouched(p.Secret, []int{2}) || !untouched(word, []int{0, 1}) {
		t.Error("what was handed in is changed or shared")
	}
}

// P3: one list may stand at several places.
func TestSameList(t *testing.T) {
	l := []int{0, 1}
	p := plant(api.Machine{States: 2, Events: 2, Starts: l, Arrows: []api.Arrow{{To: 1}, {From: 1, Event: 1, To: 1}}, Ends: l}, l, l)
	checkEstimate(t, "one list", p, l, []int{1})
	checkLeak(t, "one list", p, list())
	if !slices.Equal(l, []int{0, 1}) {
		t.Error(l)
	}
}
