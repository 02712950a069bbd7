package control

import (
	"math"
	"slices"
	"testing"

	"jalousie/api"
	"jalousie/machine"
	"jalousie/reach"
)

// count answers the row of the numbers below n.
func count(n int) []int {
	var l []int
	for i := range n {
		l = append(l, i)
	}
	return l
}

// ofBits answers the row of the bits that a number has.
func ofBits(set int) []int {
	var l []int
	for n := range 63 {
		if set>>n&1 == 1 {
			l = append(l, n)
		}
	}
	return l
}

// ofArrows is a machine of that many states and events with the arrows whose
// three numbers are told one behind another.
func ofArrows(states, events int, numbers ...int) api.Machine {
	m := api.Machine{States: states, Events: events}
	for three := range slices.Chunk(numbers, 3) {
		m.Arrows = append(m.Arrows, api.Arrow{From: three[0], Event: three[1], To: three[2]})
	}
	return m
}

func check(t *testing.T, name string, m api.Machine, free, bad, want []int) {
	t.Helper()
	if l, e := Keep(m, free, bad); e != api.OK || !slices.Equal(l, want) {
		t.Errorf("%s: Keep(%v, %v, %v): %v, %d; asked for: %v", name, m, free, bad, l, e, want)
	}
}

// kept answers what Keep does where nothing is wrong.
func kept(t *testing.T, m api.Machine, free, bad []int) []int {
	t.Helper()
	l, e := Keep(m, free, bad)
	if e != api.OK {
		t.Fatalf("Keep(%v, %v, %v): %d", m, free, bad, e)
	}
	return l
}

// refused asks that Keep tells ErrForm, and nothing else.
func refused(t *testing.T, name string, m api.Machine, free, bad []int) {
	t.Helper()
	if l, e := Keep(m, free, bad); e != api.ErrForm || len(l) != 0 {
		t.Errorf("%s: Keep(%v, %v, %v): %v, %d", name, m, free, bad, l, e)
	}
}

// wrong are machines that may not be.
func wrong() map[string]api.Machine {
	all := map[string]api.Machine{
		"nothing":         {},
		"less than none":  {States: -1, Events: 2},
		"least number":    {States: math.MinInt, Events: math.MinInt},
		"greatest number": {States: math.MaxInt, Events: math.MaxInt},
		"257 states":      {States: 257, Events: 2},
		"9 events":        {States: 2, Events: 9},
		"-1 events":       {States: 2, Events: -1},
		"start beyond":    {States: 2, Events: 2, Starts: []int{2}},
		"starts no row":   {States: 2, Events: 2, Starts: []int{1, 0}},
		"end twice":       {States: 2, Events: 2, Ends: []int{1, 1}},
		"end below":       {States: 2, Events: 2, Ends: []int{-1}},
		"arrow to beyond": ofArrows(2, 2, 0, 0, 2),
		"arrow to none":   ofArrows(2, 2, 0, 0, -1),
		"arrow from none": ofArrows(2, 2, -1, 0, 0),
		"from beyond":     ofArrows(2, 2, 2, 0, 0),
		"event beyond":    ofArrows(2, 2, 0, 2, 0),
		"event below":     ofArrows(2, 2, 0, -1, 0),
		"arrow twice":     ofArrows(2, 2, 0, 0, 0, 0, 0, 0),
		"arrows fall":     ofArrows(2, 2, 0, 1, 0, 0, 0, 0),
	}
	crowded := fullest()
	crowded.Arrows = append(crowded.Arrows, api.Arrow{From: 255, Event: 7, To: 255})
	all["4097 arrows"] = crowded
	return all
}

// noRows are lists that are no rows below 2.
func noRows() [][]int {
	return [][]int{{2}, {-1}, {0, 2}, {1, 0}, {0, 0}, {0, 1, 1}, {0, 1, 2}, {8}, {256}, {math.MaxInt}, {math.MinInt}, {0, api.MaxRow}}
}

// N2, P2: what is wrong.
func TestErrors(t *testing.T) {
	rows := [][]int{nil, {}, {0}, {1}, {0, 1}}
	for name, m := range wrong() {
		for _, l := range append(noRows(), rows...) {
			refused(t, name, m, l, l)
			refused(t, name, m, l, nil)
			refused(t, name, m, nil, l)
		}
	}
	m := ofArrows(2, 2, 0, 0, 1, 1, 1, 0)
	for _, no := range noRows() {
		for _, l := range append(noRows(), rows...) {
			refused(t, "free is no row", m, no, l)
			refused(t, "bad is no row", m, l, no)
		}
	}
	refused(t, "free of no events", ofArrows(1, 0), []int{0}, nil)
	refused(t, "free 8", ofArrows(256, 8), []int{8}, nil)
	refused(t, "bad 256", ofArrows(256, 8), nil, []int{256})
	// free is of events, and bad of states
	refused(t, "a state is free", ofArrows(3, 1), []int{2}, nil)
	refused(t, "an event is bad", ofArrows(1, 3), nil, []int{2})
	check(t, "more events than states", ofArrows(1, 3), []int{2}, []int{0}, nil)
	check(t, "more states than events", ofArrows(3, 1), []int{0}, []int{2}, []int{0, 1})
}

// N1, N2: by hand.
func TestKeep(t *testing.T) {
	check(t, "one state", ofArrows(1, 0), nil, nil, []int{0})
	check(t, "one bad state", ofArrows(1, 0), nil, []int{0}, nil)
	check(t, "no arrows", ofArrows(4, 2), nil, []int{1, 3}, []int{0, 2})
	check(t, "empty lists", ofArrows(2, 1, 0, 0, 1), []int{}, []int{}, []int{0, 1})
	line := ofArrows(3, 2, 0, 0, 1, 1, 1, 2)
	check(t, "what is free leads to what is lost", line, []int{0}, []int{2}, []int{0})
	check(t, "what is free leads to what is bad", line, []int{1}, []int{2}, []int{0, 1})
	check(t, "nothing is free", line, nil, []int{2}, nil)
	check(t, "all is free", line, []int{0, 1}, []int{2}, []int{0, 1})
	check(t, "nothing is bad", line, nil, nil, []int{0, 1, 2})
	check(t, "the middle is bad", line, nil, []int{1}, []int{2})
	check(t, "the first is bad", line, nil, []int{0}, []int{1, 2})
	check(t, "all is bad", line, []int{0, 1}, []int{0, 1, 2}, nil)
	loop := ofArrows(2, 2, 0, 0, 0, 1, 1, 1)
	check(t, "loops", loop, nil, []int{1}, []int{0})
	check(t, "free loops", loop, []int{0, 1}, []int{1}, []int{0})
	ring := ofArrows(3, 1, 0, 0, 1, 1, 0, 2, 2, 0, 0)
	check(t, "a ring, and nothing bad", ring, nil, nil, []int{0, 1, 2})
	check(t, "a ring", ring, nil, []int{1}, nil)
	check(t, "a free ring", ring, []int{0}, []int{1}, []int{0, 2})
	check(t, "a ring beside what is bad", ofArrows(4, 1, 0, 0, 1, 1, 0, 0, 2, 0, 3, 3, 0, 2), nil, []int{3}, []int{0, 1})
	// state 0 leads by two arrows of one event, and by two events to one state
	fork := ofArrows(3, 2, 0, 0, 1, 0, 0, 2, 0, 1, 2)
	check(t, "one of two arrows", fork, []int{1}, []int{1}, []int{2})
	check(t, "both of two arrows", fork, []int{1}, []int{2}, []int{1})
	check(t, "the other event", fork, []int{0}, []int{2}, []int{1})
	check(t, "the other event leads elsewhere", fork, []int{0}, []int{1}, []int{0, 2})
	check(t, "both events", fork, []int{0, 1}, []int{2}, []int{0, 1})
	// 3 is lost by 1, 0 by 3, 2 by 0: in no order of the numbers
	knot := ofArrows(5, 2, 0, 0, 3, 2, 0, 0, 2, 1, 4, 3, 0, 1, 4, 1, 2)
	check(t, "a knot", knot, []int{1}, []int{1}, []int{4})
	check(t, "a tight knot", knot, nil, []int{1}, nil)
	check(t, "the other way round", knot, []int{0}, []int{1}, []int{0, 2, 3, 4})
}

// N1: Starts and Ends count for nothing.
func TestCountsForNothing(t *testing.T) {
	m := ofArrows(4, 2, 0, 0, 1, 1, 1, 2, 3, 0, 3)
	for starts := range 16 {
		for ends := range 16 {
			m.Starts, m.Ends = ofBits(starts), ofBits(ends)
			check(t, "starts and ends", m, []int{0}, []int{2}, []int{0, 3})
			check(t, "starts and ends", m, nil, []int{2}, []int{3})
		}
	}
}

// isSafe tells whether a row is safe, arrow by arrow, as the document says it.
func isSafe(m api.Machine, free, bad, states []int) bool {
	for _, n := range states {
		if slices.Contains(bad, n) {
			return false
		}
		for _, a := range m.Arrows {
			if a.From == n && !slices.Contains(free, a.Event) && !slices.Contains(states, a.To) {
				return false
			}
		}
	}
	return true
}

// byRows holds Keep against all rows of states that are safe.
func byRows(t *testing.T, m api.Machine, free, bad []int) []int {
	t.Helper()
	union := 0
	for set := range 1 << m.States {
		if isSafe(m, free, bad, ofBits(set)) {
			union |= set
		}
	}
	check(t, "all rows", m, free, bad, ofBits(union))
	if !isSafe(m, free, bad, ofBits(union)) {
		t.Error("the test is wrong: ", m, free, bad)
	}
	return ofBits(union)
}

// forbid answers the machine where each free event is forbidden that leads out of
// a row, in the states of it, with the row as Starts. Who forbids an event can't
// choose among its arrows: all of them go. Nothing else does.
func forbid(m api.Machine, free, states []int) api.Machine {
	out := m
	out.Starts, out.Arrows = states, nil
	for _, a := range m.Arrows {
		leadsOut := func(b api.Arrow) bool {
			return b.From == a.From && b.Event == a.Event && !slices.Contains(states, b.To)
		}
		if !slices.Contains(states, a.From) || !slices.Contains(free, a.Event) || !slices.ContainsFunc(m.Arrows, leadsOut) {
			out.Arrows = append(out.Arrows, a)
		}
	}
	return out
}

// strictest answers the machine where all free events are forbidden.
func strictest(m api.Machine, free []int) api.Machine {
	m.Arrows = slices.DeleteFunc(slices.Clone(m.Arrows), func(a api.Arrow) bool { return slices.Contains(free, a.Event) })
	return m
}

// byRuns asks that who forbids what leads out of what Keep answers keeps a machine
// in it, out of what is bad; and that from any other state what is bad is come to
// whatever is forbidden.
func byRuns(t *testing.T, m api.Machine, free, bad []int) {
	t.Helper()
	l := kept(t, m, free, bad)
	come, e := reach.Reach(forbid(m, free, l))
	if e != api.OK || !slices.Equal(come, l) {
		t.Errorf("Keep(%v, %v, %v): %v; but what is come to is %v, %d", m, free, bad, l, come, e)
	}
	hopeless := strictest(m, free)
	hopeless.Ends = bad
	live, e := reach.Live(hopeless)
	if e != api.OK {
		t.Fatal("the test is wrong: ", m, free, bad, e)
	}
	for n := range m.States {
		if slices.Contains(l, n) == slices.Contains(live, n) {
			t.Errorf("Keep(%v, %v, %v): %v; but what can't be kept out of what is bad is %v", m, free, bad, l, live)
		}
	}
}

// tally counts what was answered: so a test tells whether it tested much.
type tally struct{ none, all, less, more int }

// add counts the states that are kept: none, all that are not bad, or fewer.
func (c *tally) add(m api.Machine, bad, kept []int) {
	switch fine := m.States - len(bad); {
	case len(kept) == 0:
		c.none++
	case len(kept) == fine:
		c.all++
	case len(kept) == fine-1:
		c.less++
	default:
		c.more++
	}
}

func (c *tally) atLeast(t *testing.T, least int) {
	t.Helper()
	if min(c.none, c.all, c.less, c.more) < least {
		t.Error("the test is wrong: ", *c)
	}
}

// N1, N2, N3: of all machines of 2 states and 2 events, and of 3 states and one
// event, all that may be free, and all that may be bad.
func TestAllMachines(t *testing.T) {
	for _, c := range []struct{ states, events int }{{2, 2}, {3, 1}} {
		for arrows := range 1 << (c.states * c.events * c.states) {
			m := api.Machine{States: c.states, Events: c.events}
			for _, at := range ofBits(arrows) {
				m.Arrows = append(m.Arrows, api.Arrow{From: at / c.states / c.events, Event: at / c.states % c.events, To: at % c.states})
			}
			for free := range 1 << c.events {
				for bad := range 1 << c.states {
					byRows(t, m, ofBits(free), ofBits(bad))
					byRuns(t, m, ofBits(free), ofBits(bad))
				}
			}
		}
	}
}

// mixed answers a number that hangs on n, its bits well mixed.
func mixed(n uint64) uint64 {
	n = (n + 1) * 0x9e3779b97f4a7c15
	n = (n ^ n>>29) * 0xbf58476d1ce4e5b9
	return n ^ n>>32
}

// rowOf answers a row below below that hangs on seed; each number is in it once in
// so many times.
func rowOf(seed uint64, below, once int) []int {
	var l []int
	for n := range below {
		if mixed(seed+uint64(n))%uint64(once) == 0 {
			l = append(l, n)
		}
	}
	return l
}

// some answers a machine of that many states and events that hangs on seed, with
// so many arrows, if no two of them are the same.
func some(states, events, arrows int, seed uint64) api.Machine {
	m := api.Machine{States: states, Events: events, Starts: rowOf(mixed(seed+1), states, 2), Ends: rowOf(mixed(seed+2), states, 2)}
	var places []int
	for i := range arrows {
		places = append(places, int(mixed(mixed(seed)+uint64(i))%uint64(states*events*states)))
	}
	slices.Sort(places)
	for _, at := range slices.Compact(places) {
		m.Arrows = append(m.Arrows, api.Arrow{From: at / states / events, Event: at / states % events, To: at % states})
	}
	return m
}

// machines goes through machines of up to so many states, with what may be free
// and bad.
func machines(t *testing.T, most uint64, states int, yield func(m api.Machine, free, bad []int)) {
	t.Helper()
	for seed := range most {
		bits := int(mixed(seed) >> 5 & 0xfffffffff)
		size, events := 1+bits%states, 1+bits>>8%api.MaxEvents
		m := some(size, events, bits>>12%(2*size+1), 31*seed)
		if !machine.May(m) {
			t.Fatal("the test is wrong: ", m)
		}
		yield(m, rowOf(mixed(seed+3), events, 2), rowOf(mixed(seed+4), size, 2+bits>>20%8))
	}
}

// N1, N2, N3: of machines of up to 8 states, against all rows.
func TestAllRows(t *testing.T) {
	var c tally
	machines(t, 10000, 8, func(m api.Machine, free, bad []int) {
		c.add(m, bad, byRows(t, m, free, bad))
		byRuns(t, m, free, bad)
	})
	c.atLeast(t, 500)
}

// N1, N2, N3: of machines of up to 256 states, where what is kept is safe, and
// what is not can't be.
func TestGreat(t *testing.T) {
	var c tally
	machines(t, 1000, api.MaxStates, func(m api.Machine, free, bad []int) {
		l := kept(t, m, free, bad)
		if !isSafe(m, free, bad, l) {
			t.Errorf("Keep(%v, %v, %v): %v: not safe", m, free, bad, l)
		}
		byRuns(t, m, free, bad)
		c.add(m, bad, l)
	})
	if min(c.all, c.more) < 200 {
		t.Error("the test is wrong: ", c)
	}
}

// has tells whether a row has all that another one has.
func has(l, other []int) bool {
	return !slices.ContainsFunc(other, func(n int) bool { return !slices.Contains(l, n) })
}

// N2: who can forbid more keeps more; where more is bad, less is kept; and where
// just what is not kept is bad, the same is.
func TestMoreAndLess(t *testing.T) {
	changed := 0
	machines(t, 2000, 12, func(m api.Machine, free, bad []int) {
		l := kept(t, m, free, bad)
		for event := range m.Events {
			less := slices.DeleteFunc(slices.Clone(free), func(n int) bool { return n == event })
			fewer := kept(t, m, less, bad)
			if !has(l, fewer) {
				t.Errorf("%v, %v: %v with %v, %v with %v", m, bad, l, free, fewer, less)
			}
			if len(fewer) < len(l) {
				changed++
			}
		}
		var lost []int
		for n := range m.States {
			if !slices.Contains(l, n) {
				lost = append(lost, n)
			}
			less := slices.DeleteFunc(slices.Clone(bad), func(b int) bool { return b == n })
			if more := kept(t, m, free, less); !has(more, l) {
				t.Errorf("%v, %v: %v with %v, %v with %v", m, free, l, bad, more, less)
			}
		}
		check(t, "what is lost is bad", m, free, lost, l)
	})
	if changed < 300 {
		t.Error("the test is wrong: ", changed)
	}
}

// N2, P1: long ways are gone to their end, rising and falling, from any state on.
func TestChain(t *testing.T) {
	all := count(api.MaxStates)
	rising, falling := api.Machine{States: api.MaxStates, Events: 2}, api.Machine{States: api.MaxStates, Events: 2}
	for n := range api.MaxStates - 1 {
		rising.Arrows = append(rising.Arrows, api.Arrow{From: n, Event: 1, To: n + 1})
		falling.Arrows = append(falling.Arrows, api.Arrow{From: n + 1, Event: 1, To: n})
	}
	for n := range api.MaxStates {
		check(t, "rising", rising, []int{0}, []int{n}, all[n+1:])
		check(t, "falling", falling, []int{0}, []int{n}, all[:n])
		others := slices.Delete(slices.Clone(all), n, n+1)
		check(t, "free rising", rising, []int{1}, []int{n}, others)
		check(t, "free falling", falling, []int{0, 1}, []int{n}, others)
	}
}

// fullest is a machine with as many states, events and arrows as may be, whose
// even states and odd ones do not lead to one another but at event 7.
func fullest() api.Machine {
	m := api.Machine{States: api.MaxStates, Events: api.MaxEvents}
	for n := range api.MaxStates {
		for event := range api.MaxEvents {
			step := 2*event + 2
			if event == 7 {
				step = 1
			}
			to := []int{(n + step) % api.MaxStates, (n + step + 100) % api.MaxStates}
			slices.Sort(to)
			m.Arrows = append(m.Arrows, api.Arrow{From: n, Event: event, To: to[0]}, api.Arrow{From: n, Event: event, To: to[1]})
		}
	}
	return m
}

// N2, P1: the greatest machine.
func TestFullest(t *testing.T) {
	m := fullest()
	if !machine.May(m) || len(m.Arrows) != api.MaxArrows {
		t.Fatal("the test is wrong")
	}
	var even, odd []int
	for n := range api.MaxStates / 2 {
		even, odd = append(even, 2*n), append(odd, 2*n+1)
	}
	for n := range api.MaxStates {
		want := even
		if n%2 == 0 {
			want = odd
		}
		check(t, "nothing is free", m, nil, []int{n}, nil)
		check(t, "what joins even and odd is not free", m, count(7), []int{n}, nil)
		check(t, "what joins even and odd is free", m, []int{7}, []int{n}, want)
		check(t, "all is free", m, count(8), []int{n}, slices.Delete(count(256), n, n+1))
	}
	check(t, "nothing is bad", m, nil, nil, count(256))
	check(t, "all is bad", m, count(8), count(256), nil)
}

// behind answers l with other numbers behind its length.
func behind(l []int) []int { return append(slices.Clone(l), 0, 1)[:len(l)] }

// untouched tells whether a list that behind made has all its numbers still.
func untouched(l, was []int) bool {
	return slices.Equal(l[:len(was)+2], append(slices.Clone(was), 0, 1))
}

// P3: what is handed in stays as it is and is not shared, and what lies behind a
// list's length is not read; one list may stand at several places.
func TestMemory(t *testing.T) {
	arrows := []api.Arrow{{From: 0, Event: 0, To: 1}, {From: 1, Event: 1, To: 2}, {From: 3, Event: 1, To: 0}, {From: 3, Event: 2, To: 2}}
	was := slices.Clone(arrows)
	m := api.Machine{States: 4, Events: 3, Starts: behind([]int{0}), Arrows: arrows[:3], Ends: behind([]int{1})}
	free, bad := behind([]int{0}), behind([]int{2})
	for range 2 {
		check(t, "memory", m, free, bad, []int{0, 3})
		check(t, "nothing of it free", m, free[:0], bad, nil)
		check(t, "nothing of it bad", m, free, bad[:0], []int{0, 1, 2, 3})
		l := kept(t, m, free, bad)
		l = l[:cap(l)]
		for i := range l {
			l[i] = -5
		}
	}
	if !untouched(m.Starts, []int{0}) || !untouched(m.Ends, []int{1}) || !slices.Equal(arrows, was) ||
		!untouched(free, []int{0}) || !untouched(bad, []int{2}) {
		t.Error("what was handed in is changed or shared")
	}
	l := []int{0}
	one := api.Machine{States: 2, Events: 1, Starts: l, Arrows: []api.Arrow{{From: 1}}, Ends: l}
	check(t, "one list", one, l, l, []int{1})
	check(t, "nothing of it", one, l[:0], l, nil)
}
