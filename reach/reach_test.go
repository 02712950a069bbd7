package reach

import (
	"math"
	"slices"
	"testing"

	"jalousie/api"
	"jalousie/machine"
)

// branches is a machine of seven states: 1 leads to 3, 3 to 3, 5 and 6, 5 to 1;
// 0 leads to 3 and is not come to, 2 stands alone, 4 leads to itself, and from
// 6 nothing leads on.
func branches() api.Machine {
	return api.Machine{
		States: 7,
		Events: 3,
		Starts: []int{1, 4},
		Arrows: []api.Arrow{
			{From: 0, Event: 0, To: 3}, {From: 1, Event: 0, To: 3}, {From: 3, Event: 0, To: 3}, {From: 3, Event: 1, To: 5},
			{From: 3, Event: 1, To: 6}, {From: 4, Event: 2, To: 4}, {From: 5, Event: 0, To: 1}, {From: 5, Event: 1, To: 3},
		},
		Ends: []int{2, 5},
	}
}

// chain is a machine of as many states as may be, each leading to the next one.
func chain() api.Machine {
	m := api.Machine{States: api.MaxStates, Events: 1, Starts: []int{0}, Ends: []int{api.MaxStates - 1}}
	for n := range api.MaxStates - 1 {
		m.Arrows = append(m.Arrows, api.Arrow{From: n, To: n + 1})
	}
	return m
}

// fullest is a machine with as many states, events and arrows as may be, whose
// even states and odd ones do not lead to one another.
func fullest() api.Machine {
	m := api.Machine{States: api.MaxStates, Events: api.MaxEvents}
	for n := range api.MaxStates {
		for event := range api.MaxEvents {
			to := []int{(n + 2*event + 2) % api.MaxStates, (n + 2*event + 100) % api.MaxStates}
			slices.Sort(to)
			m.Arrows = append(m.Arrows, api.Arrow{From: n, Event: event, To: to[0]}, api.Arrow{From: n, Event: event, To: to[1]})
		}
	}
	return m
}

func same(a, b api.Machine) bool {
	return a.States == b.States && a.Events == b.Events && slices.Equal(a.Starts, b.Starts) &&
		slices.Equal(a.Arrows, b.Arrows) && slices.Equal(a.Ends, b.Ends)
}

func check(t *testing.T, name string, f func(api.Machine) ([]int, api.Errno), m api.Machine, want []int) {
	t.Helper()
	if l, e := f(m); e != api.OK || !slices.Equal(l, want) {
		t.Errorf("%s(%v): %v, %d; asked for: %v", name, m, l, e, want)
	}
}

func checkTrim(t *testing.T, m, want api.Machine, states []int) {
	t.Helper()
	if n, l, e := Trim(m); e != api.OK || !slices.Equal(l, states) || !same(n, want) {
		t.Errorf("Trim(%v): %v, %v, %d; asked for: %v, %v", m, n, l, e, want, states)
	}
}

// C1.
func TestReachAndLive(t *testing.T) {
	loop := []api.Arrow{{}}
	for _, c := range []struct {
		m           api.Machine
		reach, live []int
	}{
		{branches(), []int{1, 3, 4, 5, 6}, []int{0, 1, 2, 3, 5}},
		{api.Machine{States: 1}, nil, nil},
		{api.Machine{States: 1, Events: 1, Arrows: loop}, nil, nil},
		{api.Machine{States: 1, Starts: []int{0}}, []int{0}, nil},
		{api.Machine{States: 1, Ends: []int{0}}, nil, []int{0}},
		{api.Machine{States: 1, Events: 1, Starts: []int{0}, Arrows: loop, Ends: []int{0}}, []int{0}, []int{0}},
		{api.Machine{States: 3, Starts: []int{0, 2}, Ends: []int{1, 2}}, []int{0, 2}, []int{1, 2}},
		{api.Machine{States: 2, Events: 1, Starts: []int{1}, Arrows: []api.Arrow{{From: 1, To: 0}}, Ends: []int{1}}, []int{0, 1}, []int{1}},
		{api.Machine{States: 2, Events: 1, Starts: []int{1}, Arrows: []api.Arrow{{From: 0, To: 1}}, Ends: []int{1}}, []int{1}, []int{0, 1}},
	} {
		check(t, "Reach", Reach, c.m, c.reach)
		check(t, "Live", Live, c.m, c.live)
	}
}

// C1: long ways are gone to their end, from any state on.
func TestChain(t *testing.T) {
	var all []int
	for n := range api.MaxStates {
		all = append(all, n)
	}
	for n := range api.MaxStates {
		m := chain()
		m.Starts, m.Ends = []int{n}, []int{n}
		check(t, "Reach", Reach, m, all[n:])
		check(t, "Live", Live, m, all[:n+1])
		checkTrim(t, m, api.Machine{States: 1, Events: 1, Starts: []int{0}, Ends: []int{0}}, []int{n})
	}
	checkTrim(t, chain(), chain(), all)
}

// C1, C2: the greatest machine.
func TestFullest(t *testing.T) {
	m := fullest()
	if !machine.May(m) || len(m.Arrows) != api.MaxArrows {
		t.Fatal("the test is wrong")
	}
	m.Starts, m.Ends = []int{7}, []int{9, 10}
	l, e := Reach(m)
	if e != api.OK || len(l) != 128 || l[0] != 1 || l[127] != 255 {
		t.Error(l, e)
	}
	if l, e := Live(m); e != api.OK || len(l) != 256 {
		t.Error(l, e)
	}
	n, odd, e := Trim(m)
	if e != api.OK || !slices.Equal(odd, l) || n.States != 128 || n.Events != 8 || len(n.Arrows) != api.MaxArrows/2 ||
		!slices.Equal(n.Starts, []int{3}) || !slices.Equal(n.Ends, []int{4}) || !machine.May(n) {
		t.Error(n, odd, e)
	}
}

// C2.
func TestTrim(t *testing.T) {
	checkTrim(t, branches(), api.Machine{
		States: 3,
		Events: 3,
		Starts: []int{0},
		Arrows: []api.Arrow{
			{From: 0, Event: 0, To: 1}, {From: 1, Event: 0, To: 1}, {From: 1, Event: 1, To: 2},
			{From: 2, Event: 0, To: 0}, {From: 2, Event: 1, To: 1},
		},
		Ends: []int{2},
	}, []int{1, 3, 5})
}

// C2: where no state stays, there is one, and the events stay.
func TestTrimOfNone(t *testing.T) {
	circle := []api.Arrow{{From: 0, Event: 1, To: 1}, {From: 1, Event: 0, To: 0}}
	for _, m := range []api.Machine{
		{States: 1},
		{States: 256, Events: 8},
		{States: 2, Events: 5, Starts: []int{0, 1}, Arrows: circle},
		{States: 2, Events: 5, Ends: []int{0, 1}, Arrows: circle},
		{States: 3, Events: 2, Starts: []int{0}, Arrows: circle, Ends: []int{2}},
		{States: 3, Events: 2, Starts: []int{2}, Arrows: circle, Ends: []int{0}},
		{States: 2, Events: 1, Starts: []int{1}, Arrows: []api.Arrow{{From: 0, To: 1}}, Ends: []int{0}},
	} {
		checkTrim(t, m, api.Machine{States: 1, Events: m.Events}, nil)
	}
}

// wrong are machines that may not be.
func wrong() []api.Machine {
	all := []api.Machine{{}}
	change := func(by func(m *api.Machine)) {
		m := branches()
		by(&m)
		all = append(all, m)
	}
	for _, n := range []int{math.MinInt, -1, 0, 5, api.MaxStates + 1, math.MaxInt} {
		change(func(m *api.Machine) { m.States = n })
	}
	for _, n := range []int{math.MinInt, -1, 0, 2, api.MaxEvents + 1, math.MaxInt} {
		change(func(m *api.Machine) { m.Events = n })
	}
	for _, l := range [][]int{{7}, {-1}, {1, 0}, {1, 1}, {0, math.MaxInt}, {math.MinInt, 0}} {
		change(func(m *api.Machine) { m.Starts = l })
		change(func(m *api.Machine) { m.Ends = l })
	}
	for _, a := range []api.Arrow{{From: -1}, {From: 7}, {Event: -1}, {Event: 3}, {To: -1}, {To: 7}, {From: math.MaxInt}, {To: math.MinInt}} {
		change(func(m *api.Machine) { m.Arrows = []api.Arrow{a} })
	}
	change(func(m *api.Machine) { m.Arrows[0], m.Arrows[1] = m.Arrows[1], m.Arrows[0] })
	change(func(m *api.Machine) { m.Arrows[1] = m.Arrows[0] })
	crowded := fullest()
	crowded.Arrows = slices.Insert(crowded.Arrows, 0, api.Arrow{})
	return append(all, crowded)
}

// C1, C2: ErrForm, and nothing else is answered then.
func TestMayNot(t *testing.T) {
	for _, m := range wrong() {
		if l, e := Reach(m); e != api.ErrForm || len(l) != 0 {
			t.Errorf("Reach(%v): %v, %d", m, l, e)
		}
		if l, e := Live(m); e != api.ErrForm || len(l) != 0 {
			t.Errorf("Live(%v): %v, %d", m, l, e)
		}
		if n, l, e := Trim(m); e != api.ErrForm || len(l) != 0 || !same(n, api.Machine{}) {
			t.Errorf("Trim(%v): %v, %v, %d", m, n, l, e)
		}
	}
}

// words answers all words of so many events with at most that many of them.
func words(events, most int) [][]int {
	all := [][]int{nil}
	for at := 0; len(all[at]) < most; at++ {
		for event := range events {
			all = append(all, append(slices.Clone(all[at]), event))
		}
	}
	return all
}

// ofBits answers the row of the bits that a number has.
func ofBits(set int) []int {
	var l []int
	for n := range 9 {
		if set>>n&1 == 1 {
			l = append(l, n)
		}
	}
	return l
}

// smallMachine answers a machine of so many states and events, by the bits of its arrows.
func smallMachine(states, events, arrows int) api.Machine {
	m := api.Machine{States: states, Events: events}
	for _, n := range ofBits(arrows) {
		m.Arrows = append(m.Arrows, api.Arrow{From: n / (states * events), Event: n / states % events, To: n % states})
	}
	return m
}

// C1, C2, C3: of all machines of two states and two events, and of three states
// and one event. Where a state is come to at all, a word shorter than the states
// are many leads there.
func TestAllSmallMachines(t *testing.T) {
	for _, c := range []struct{ states, events, arrows int }{{2, 2, 8}, {3, 1, 9}} {
		short, long := words(c.events, c.states-1), words(c.events, 5)
		for arrows := range 1 << c.arrows {
			m := smallMachine(c.states, c.events, arrows)
			for starts := range 1 << c.states {
				for ends := range 1 << c.states {
					m.Starts, m.Ends = ofBits(starts), ofBits(ends)
					checkStates(t, m, short)
					checkLanguage(t, m, long)
				}
			}
		}
	}
}

// checkStates holds Reach, Live and Trim's row against what words lead to.
func checkStates(t *testing.T, m api.Machine, words [][]int) {
	t.Helper()
	var reach, live, both []int
	for n := range m.States {
		isReached := slices.ContainsFunc(words, func(word []int) bool {
			l, _ := machine.After(m, m.Starts, word)
			return slices.Contains(l, n)
		})
		from := m
		from.Starts = []int{n}
		isLive := slices.ContainsFunc(words, func(word []int) bool {
			is, _ := machine.Accepts(from, word)
			return is
		})
		if isReached {
			reach = append(reach, n)
		}
		if isLive {
			live = append(live, n)
		}
		if isReached && isLive {
			both = append(both, n)
		}
	}
	check(t, "Reach", Reach, m, reach)
	check(t, "Live", Live, m, live)
	checkTrim(t, m, among(m, both), both)
}

// among answers the machine of those states, found by asking for each arrow
// that there might be.
func among(m api.Machine, states []int) api.Machine {
	out := api.Machine{States: max(1, len(states)), Events: m.Events}
	for i, from := range states {
		if slices.Contains(m.Starts, from) {
			out.Starts = append(out.Starts, i)
		}
		if slices.Contains(m.Ends, from) {
			out.Ends = append(out.Ends, i)
		}
		for event := range m.Events {
			for j, to := range states {
				if slices.Contains(m.Arrows, api.Arrow{From: from, Event: event, To: to}) {
					out.Arrows = append(out.Arrows, api.Arrow{From: i, Event: event, To: j})
				}
			}
		}
	}
	return out
}

// checkLanguage holds Trim's machine against m, word by word.
func checkLanguage(t *testing.T, m api.Machine, words [][]int) {
	t.Helper()
	n, _, _ := Trim(m)
	for _, word := range words {
		want, _ := machine.Accepts(m, word)
		if is, e := machine.Accepts(n, word); e != api.OK || is != want {
			t.Errorf("Trim(%v): %v: %v: %v, %d", m, n, word, is, e)
		}
	}
}

// C3.
func TestLanguage(t *testing.T) {
	checkLanguage(t, branches(), words(3, 7))
	m := chain()
	m.Ends = []int{100, 200}
	var all [][]int
	for many := range api.MaxStates + 2 {
		all = append(all, make([]int, many))
	}
	checkLanguage(t, m, all)
}

// C2: what is trimmed stays as it is when it is trimmed again.
func TestTrimTwice(t *testing.T) {
	for _, m := range []api.Machine{branches(), chain()} {
		n, l, _ := Trim(m)
		var all []int
		for i := range l {
			all = append(all, i)
		}
		checkTrim(t, n, n, all)
	}
}

// scribble writes over the whole memory of a list, also behind its length.
func scribble[T any](l []T, by T) {
	l = l[:cap(l)]
	for i := range l {
		l[i] = by
	}
}

// laid answers branches with more memory behind each list's length.
func laid() (m api.Machine, whole api.Machine) {
	whole = branches()
	whole.Starts = append(whole.Starts, 6, -9)
	whole.Ends = append(whole.Ends, 6, -9)
	whole.Arrows = append(whole.Arrows, api.Arrow{From: 6, To: 0}, api.Arrow{From: -9})
	m = whole
	m.Starts, m.Ends, m.Arrows = m.Starts[:2], m.Ends[:2], m.Arrows[:8]
	return m, whole
}

// P3: what is handed in stays as it is and is not shared, and what lies behind
// a list's length is not read.
func TestMemory(t *testing.T) {
	m, whole := laid()
	_, want := laid()
	check(t, "Reach", Reach, m, []int{1, 3, 4, 5, 6})
	check(t, "Live", Live, m, []int{0, 1, 2, 3, 5})
	reach, _ := Reach(m)
	live, _ := Live(m)
	n, l, _ := Trim(m)
	for _, l := range [][]int{reach, live, n.Starts, n.Ends, l} {
		scribble(l, -5)
	}
	scribble(n.Arrows, api.Arrow{From: -5})
	if !same(whole, want) {
		t.Error("what was handed in is changed or shared: ", whole)
	}
}

// P3: no two lists of an answer share memory, even where they have the same numbers.
func TestAnswersApart(t *testing.T) {
	all := []int{0, 1}
	m := api.Machine{States: 2, Events: 1, Starts: all, Arrows: []api.Arrow{{To: 1}}, Ends: all}
	for at := range 3 {
		n, l, _ := Trim(m)
		lists := [][]int{n.Starts, n.Ends, l}
		scribble(lists[at], -5)
		for i, other := range lists {
			if i != at && !slices.Equal(other, []int{0, 1}) {
				t.Errorf("%d shares memory with %d: %v", at, i, other)
			}
		}
	}
	if !slices.Equal(all, []int{0, 1}) {
		t.Error("what was handed in is changed or shared: ", all)
	}
}
