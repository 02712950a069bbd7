package machine

import (
	"math"
	"slices"
	"testing"

	"jalousie/api"
)

// two is a machine of two states: 0 leads to 1 at event 0, 1 to itself at 1.
func two() api.Machine {
	return api.Machine{
		States: 2,
		Events: 2,
		Starts: []int{0},
		Arrows: []api.Arrow{{From: 0, Event: 0, To: 1}, {From: 1, Event: 1, To: 1}},
		Ends:   []int{1},
	}
}

// fullest is a machine with as many states, events and arrows as may be.
func fullest() api.Machine {
	m := api.Machine{States: api.MaxStates, Events: api.MaxEvents}
	for n := range api.MaxStates {
		m.Starts = append(m.Starts, n)
		m.Ends = append(m.Ends, n)
		for event := range api.MaxEvents {
			to := []int{(n + event) % api.MaxStates, (n + event + 128) % api.MaxStates}
			slices.Sort(to)
			m.Arrows = append(m.Arrows, api.Arrow{From: n, Event: event, To: to[0]}, api.Arrow{From: n, Event: event, To: to[1]})
		}
	}
	return m
}

// B1: what may be.
func TestMay(t *testing.T) {
	loop := []api.Arrow{{}}
	for name, m := range map[string]api.Machine{
		"two":          two(),
		"fullest":      fullest(),
		"least":        {States: 1},
		"empty lists":  {States: 1, Starts: []int{}, Arrows: []api.Arrow{}, Ends: []int{}},
		"one loop":     {States: 1, Events: 1, Arrows: loop},
		"all starts":   {States: 3, Starts: []int{0, 1, 2}, Ends: []int{0, 1, 2}},
		"greater From": {States: 2, Events: 2, Arrows: []api.Arrow{{From: 0, Event: 1, To: 1}, {From: 1, Event: 0, To: 0}}},
		"then Event":   {States: 2, Events: 2, Arrows: []api.Arrow{{From: 1, Event: 0, To: 1}, {From: 1, Event: 1, To: 0}}},
		"then To":      {States: 2, Events: 2, Arrows: []api.Arrow{{From: 1, Event: 1, To: 0}, {From: 1, Event: 1, To: 1}}},
	} {
		if !May(m) {
			t.Errorf("%s: may be", name)
		}
	}
}

// wrong are machines that may not be, each by one thing.
func wrong() map[string]api.Machine {
	all := map[string]api.Machine{}
	change := func(name string, by func(m *api.Machine)) {
		m := two()
		by(&m)
		all[name] = m
	}
	arrows := func(name string, l ...api.Arrow) {
		change(name, func(m *api.Machine) { m.Arrows = l })
	}
	change("no states", func(m *api.Machine) { *m = api.Machine{} })
	for name, n := range map[string]int{"-1": -1, "least": math.MinInt, "257": api.MaxStates + 1, "most": math.MaxInt} {
		change("States "+name, func(m *api.Machine) { m.States = n })
		change("just States "+name, func(m *api.Machine) { *m = api.Machine{States: n} })
	}
	for name, n := range map[string]int{"-1": -1, "least": math.MinInt, "9": api.MaxEvents + 1, "most": math.MaxInt} {
		change("Events "+name, func(m *api.Machine) { m.Events = n })
		change("just Events "+name, func(m *api.Machine) { *m = api.Machine{States: 1, Events: n} })
	}
	for name, l := range map[string][]int{"2": {2}, "-1": {-1}, "falling": {1, 0}, "twice": {1, 1}, "most": {0, math.MaxInt}} {
		change("Starts "+name, func(m *api.Machine) { m.Starts = l })
		change("Ends "+name, func(m *api.Machine) { m.Ends = l })
	}
	for name, n := range map[string]int{"-1": -1, "least": math.MinInt, "2": 2, "most": math.MaxInt} {
		arrows("From "+name, api.Arrow{From: n})
		arrows("Event "+name, api.Arrow{Event: n})
		arrows("To "+name, api.Arrow{To: n})
		arrows("later From "+name, api.Arrow{}, api.Arrow{From: n, Event: 1, To: 1})
		arrows("later Event "+name, api.Arrow{}, api.Arrow{From: 1, Event: n, To: 1})
		arrows("later To "+name, api.Arrow{}, api.Arrow{From: 1, Event: 1, To: n})
	}
	same := api.Arrow{From: 1, Event: 1, To: 1}
	arrows("arrow twice", same, same)
	arrows("lesser From", api.Arrow{From: 1, Event: 0, To: 0}, api.Arrow{From: 0, Event: 1, To: 1})
	arrows("lesser Event", api.Arrow{From: 1, Event: 1, To: 0}, api.Arrow{From: 1, Event: 0, To: 1})
	arrows("lesser To", api.Arrow{From: 1, Event: 1, To: 1}, api.Arrow{From: 1, Event: 1, To: 0})
	arrows("last falls", api.Arrow{}, api.Arrow{From: 1}, api.Arrow{From: 0, Event: 1})
	change("no such events", func(m *api.Machine) { m.Events = 0 })
	change("one event", func(m *api.Machine) { m.Events = 1 })
	change("one state", func(m *api.Machine) { m.States, m.Ends = 1, nil })
	crowded := fullest()
	crowded.Arrows = slices.Insert(crowded.Arrows, 1, api.Arrow{From: 0, Event: 0, To: 1})
	all["4097 arrows"] = crowded
	return all
}

// B1: what may not be; B2: of which nothing else is answered, whatever the rest.
func TestMayNot(t *testing.T) {
	for name, m := range wrong() {
		if May(m) {
			t.Errorf("%s: may not be", name)
		}
		for _, word := range [][]int{nil, {0}, {77}} {
			if l, e := After(m, nil, word); e != api.ErrForm || len(l) != 0 {
				t.Errorf("%s: After: %v, %d", name, l, e)
			}
			if is, e := Accepts(m, word); e != api.ErrForm || is {
				t.Errorf("%s: Accepts: %v, %d", name, is, e)
			}
		}
	}
}

// B2.
func TestAfter(t *testing.T) {
	fork := api.Machine{
		States: 4,
		Events: 3,
		Starts: []int{0},
		Arrows: []api.Arrow{
			{From: 0, Event: 0, To: 1}, {From: 0, Event: 0, To: 3}, {From: 0, Event: 2, To: 0},
			{From: 1, Event: 1, To: 2}, {From: 2, Event: 1, To: 0}, {From: 3, Event: 1, To: 2}, {From: 3, Event: 1, To: 3},
		},
		Ends: []int{2},
	}
	for _, c := range []struct {
		states, word, want []int
	}{
		{[]int{0}, nil, []int{0}},
		{[]int{0, 2}, []int{}, []int{0, 2}},
		{nil, nil, nil},
		{nil, []int{0, 1}, nil},
		{[]int{0}, []int{0}, []int{1, 3}},
		{[]int{0}, []int{1}, nil},
		{[]int{0}, []int{1, 0, 2}, nil},
		{[]int{0}, []int{2, 2, 0}, []int{1, 3}},
		{[]int{0}, []int{0, 1}, []int{2, 3}},
		{[]int{0}, []int{0, 1, 1}, []int{0, 2, 3}},
		{[]int{1, 2}, []int{1}, []int{0, 2}},
		{[]int{0, 1, 2, 3}, []int{1}, []int{0, 2, 3}},
		{[]int{0, 1, 2, 3}, []int{2}, []int{0}},
	} {
		if l, e := After(fork, c.states, c.word); e != api.OK || !slices.Equal(l, c.want) {
			t.Errorf("After(%v, %v): %v, %d; asked for: %v", c.states, c.word, l, e, c.want)
		}
	}
}

// B2: wrong lists; the form is told ahead of the range.
func TestAfterErrors(t *testing.T) {
	for _, c := range []struct {
		states, word []int
		want         api.Errno
	}{
		{[]int{2}, nil, api.ErrForm},
		{[]int{-1}, nil, api.ErrForm},
		{[]int{1, 0}, nil, api.ErrForm},
		{[]int{1, 1}, []int{0}, api.ErrForm},
		{[]int{math.MaxInt}, nil, api.ErrForm},
		{[]int{2}, []int{2}, api.ErrForm},
		{[]int{0}, []int{2}, api.ErrRange},
		{[]int{0}, []int{-1}, api.ErrRange},
		{[]int{0}, []int{0, 1, math.MinInt}, api.ErrRange},
		{[]int{0}, []int{math.MaxInt, 0}, api.ErrRange},
		{nil, []int{0, 2}, api.ErrRange},
		{[]int{0}, []int{1, 1, 2}, api.ErrRange},
	} {
		if l, e := After(two(), c.states, c.word); e != c.want || len(l) != 0 {
			t.Errorf("After(%v, %v): %v, %d; asked for: %d", c.states, c.word, l, e, c.want)
		}
	}
}

// B2: a machine of no events has just the empty word.
func TestNoEvents(t *testing.T) {
	m := api.Machine{States: 2, Starts: []int{0, 1}, Ends: []int{1}}
	if l, e := After(m, []int{1}, nil); e != api.OK || !slices.Equal(l, []int{1}) {
		t.Error(l, e)
	}
	if l, e := After(m, []int{1}, []int{0}); e != api.ErrRange || len(l) != 0 {
		t.Error(l, e)
	}
	if is, e := Accepts(m, nil); e != api.OK || !is {
		t.Error(is, e)
	}
}

// B2.
func TestAccepts(t *testing.T) {
	none, ends := two(), two()
	none.Starts = nil
	ends.Ends = nil
	for _, c := range []struct {
		m    api.Machine
		word []int
		is   bool
		want api.Errno
	}{
		{two(), []int{0}, true, api.OK},
		{two(), []int{0, 1, 1}, true, api.OK},
		{two(), nil, false, api.OK},
		{two(), []int{1}, false, api.OK},
		{two(), []int{0, 0}, false, api.OK},
		{two(), []int{2}, false, api.ErrRange},
		{two(), []int{0, -1}, false, api.ErrRange},
		{two(), []int{1, 2}, false, api.ErrRange},
		{none, []int{0}, false, api.OK},
		{none, []int{2}, false, api.ErrRange},
		{ends, []int{0}, false, api.OK},
	} {
		if is, e := Accepts(c.m, c.word); is != c.is || e != c.want {
			t.Errorf("Accepts(%v): %v, %d; asked for: %v, %d", c.word, is, e, c.is, c.want)
		}
	}
}

// words answers all words of two events with at most that many of them.
func words(most int) [][]int {
	all := [][]int{nil}
	for at := 0; len(all[at]) < most; at++ {
		all = append(all, append(slices.Clone(all[at]), 0), append(slices.Clone(all[at]), 1))
	}
	return all
}

// run tells whether a run of word may go from one state to the other: arrow by
// arrow, as the document says it.
func run(m api.Machine, from, to int, word []int) bool {
	if len(word) == 0 {
		return from == to
	}
	return slices.ContainsFunc(m.Arrows, func(a api.Arrow) bool {
		return a.From == from && a.Event == word[0] && run(m, a.To, to, word[1:])
	})
}

// ofBits answers the row of the bits that a number has.
func ofBits(set int) []int {
	var l []int
	for n := range 8 {
		if set>>n&1 == 1 {
			l = append(l, n)
		}
	}
	return l
}

// smallMachine answers one of the 256 machines of two states and two events, by its arrows.
func smallMachine(arrows int) api.Machine {
	m := api.Machine{States: 2, Events: 2}
	for _, n := range ofBits(arrows) {
		m.Arrows = append(m.Arrows, api.Arrow{From: n >> 2, Event: n >> 1 & 1, To: n & 1})
	}
	return m
}

// B2, B3: of all machines of two states and two events, and all short words.
func TestAllSmallMachines(t *testing.T) {
	for arrows := range 256 {
		m := smallMachine(arrows)
		if !May(m) {
			t.Fatal("may be: ", m)
		}
		for _, word := range words(4) {
			for states := range 4 {
				checkAfter(t, m, ofBits(states), word)
			}
		}
	}
}

func checkAfter(t *testing.T, m api.Machine, states, word []int) {
	t.Helper()
	var want []int
	for to := range m.States {
		if slices.ContainsFunc(states, func(from int) bool { return run(m, from, to, word) }) {
			want = append(want, to)
		}
	}
	if l, e := After(m, states, word); e != api.OK || !slices.Equal(l, want) {
		t.Errorf("After(%v, %v, %v): %v, %d; asked for: %v", m, states, word, l, e, want)
	}
	for cut := range len(word) + 1 {
		first, _ := After(m, states, word[:cut])
		if l, e := After(m, first, word[cut:]); e != api.OK || !slices.Equal(l, want) {
			t.Errorf("After(%v, %v, %v) cut at %d: %v, %d; asked for: %v", m, states, word, cut, l, e, want)
		}
	}
	m.Starts = states
	for ends := range 4 {
		m.Ends = ofBits(ends)
		meets := slices.ContainsFunc(m.Ends, func(n int) bool { return slices.Contains(want, n) })
		if is, e := Accepts(m, word); e != api.OK || is != meets {
			t.Errorf("Accepts(%v, %v): %v, %d", m, word, is, e)
		}
	}
}

// B2: all states and events that may be are reached, those at the edges of a set's words too.
func TestFullest(t *testing.T) {
	m := fullest()
	for n := range m.States {
		for event := range m.Events {
			want := []int{(n + event) % 256, (n + event + 128) % 256}
			slices.Sort(want)
			if l, e := After(m, []int{n}, []int{event}); e != api.OK || !slices.Equal(l, want) {
				t.Fatalf("After(%d, %d): %v, %d", n, event, l, e)
			}
		}
		if l, e := After(m, []int{n}, nil); e != api.OK || !slices.Equal(l, []int{n}) {
			t.Fatalf("After(%d): %v, %d", n, l, e)
		}
	}
	if l, e := After(m, m.Starts, []int{7, 0, 3}); e != api.OK || !slices.Equal(l, m.Starts) {
		t.Error(l, e)
	}
}

// P1: a long word is answered, too; a way that asks for all runs does not end.
func TestLongWord(t *testing.T) {
	m := fullest()
	word := make([]int, 100000)
	for i := range word {
		word[i] = i % m.Events
	}
	if l, e := After(m, m.Starts, word); e != api.OK || len(l) != api.MaxStates {
		t.Error(len(l), e)
	}
	if is, e := Accepts(m, word); e != api.OK || !is {
		t.Error(is, e)
	}
}

// P3: what is handed in stays as it is and is not shared, and what lies behind
// a list's length is not read.
func TestMemory(t *testing.T) {
	for _, n := range []int{0, 1} {
		starts, ends, states, word := []int{0, -9, -9}, []int{1, -9, -9}, []int{0, 1, -9, -9}, []int{1, 77, 77}
		arrows := append(two().Arrows, api.Arrow{From: 99}, api.Arrow{From: -9})
		m := api.Machine{States: 2, Events: 2, Starts: starts[:1], Arrows: arrows[:2], Ends: ends[:1]}
		if !May(m) {
			t.Error("what lies behind a length was read")
		}
		l, e := After(m, states[:2], word[:n])
		if e != api.OK || len(l) != 2-n {
			t.Error(l, e)
		}
		if is, e := Accepts(m, word[:n]); is || e != api.OK {
			t.Error(is, e)
		}
		l = l[:cap(l)]
		for i := range l {
			l[i] = -5
		}
		if !slices.Equal(starts, []int{0, -9, -9}) || !slices.Equal(ends, []int{1, -9, -9}) ||
			!slices.Equal(states, []int{0, 1, -9, -9}) || !slices.Equal(word, []int{1, 77, 77}) ||
			!slices.Equal(arrows, append(two().Arrows, api.Arrow{From: 99}, api.Arrow{From: -9})) {
			t.Error("what was handed in is changed or shared")
		}
	}
}

// P3: one list may stand at several places.
func TestSameList(t *testing.T) {
	l := []int{0, 1}
	m := api.Machine{States: 2, Events: 2, Starts: l, Arrows: two().Arrows, Ends: l}
	if got, e := After(m, l, l); e != api.OK || !slices.Equal(got, []int{1}) || !slices.Equal(l, []int{0, 1}) {
		t.Error(got, e, l)
	}
}

// Leader tells what After does of one event, and of what m has not: nowhere.
func TestLeader(t *testing.T) {
	m := fullest()
	m.States, m.Arrows = 130, slices.DeleteFunc(m.Arrows, func(a api.Arrow) bool { return a.From >= 130 || a.To >= 130 })
	m.Starts, m.Ends = nil, nil
	lead := Leader(m)
	for n := range m.States {
		for event := range m.Events {
			from := Of([]int{n, n / 2})
			want, e := After(m, from.Row(), []int{event})
			if l := lead(from, event).Row(); e != api.OK || !slices.Equal(l, want) {
				t.Fatalf("%d at %d: %v; asked for: %v", n, event, l, want)
			}
		}
	}
	for _, event := range []int{-1, m.Events, math.MaxInt, math.MinInt} {
		if s := lead(Of([]int{0, 1}), event); s != (Set{}) {
			t.Errorf("at %d: %v", event, s.Row())
		}
	}
	if s := lead(Of([]int{130, 255}), 0); s != (Set{}) {
		t.Error(s.Row())
	}
	if s := lead(Of([]int{1, 255}), 0); s != lead(Of([]int{1}), 0) || s == (Set{}) {
		t.Error(s.Row())
	}
	for name, m := range wrong() {
		if s := Leader(m)(Of([]int{0, 1}), 0); s != (Set{}) {
			t.Errorf("%s: %v", name, s.Row())
		}
	}
}
