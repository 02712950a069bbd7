package determine

import (
	"math"
	"slices"
	"testing"

	"jalousie/api"
	"jalousie/machine"
)

// count answers the row of the numbers below n.
func count(n int) []int {
	var l []int
	for i := range n {
		l = append(l, i)
	}
	return l
}

func same(a, b api.Machine) bool {
	return a.States == b.States && a.Events == b.Events && slices.Equal(a.Starts, b.Starts) &&
		slices.Equal(a.Arrows, b.Arrows) && slices.Equal(a.Ends, b.Ends)
}

func sameLists(a, b [][]int) bool { return slices.EqualFunc(a, b, slices.Equal) }

// table is a determined machine of so many events: at from*events+event stands
// where a state leads to. Its start is 0.
func table(events int, to []int, ends ...int) api.Machine {
	m := api.Machine{States: len(to) / events, Events: events, Starts: []int{0}, Ends: ends}
	for i, n := range to {
		m.Arrows = append(m.Arrows, api.Arrow{From: i / events, Event: i % events, To: n})
	}
	return m
}

func check(t *testing.T, m, want api.Machine, sets [][]int) {
	t.Helper()
	n, l, e := Make(m)
	if e != api.OK || !same(n, want) || !sameLists(l, sets) {
		t.Errorf("Make(%v): %v, %v, %d; asked for: %v, %v", m, n, l, e, want, sets)
	}
	if e == api.OK && (!machine.May(n) || !Is(n)) {
		t.Errorf("Make(%v): %v is not determined", m, n)
	}
}

// ring is a determined machine of so many states and events.
func ring(states, events int) api.Machine {
	var to []int
	for n := range states {
		for event := range events {
			to = append(to, (n+event+1)%states)
		}
	}
	return table(events, to)
}

// F1.
func TestIs(t *testing.T) {
	later := ring(5, 2)
	later.Starts = []int{4}
	for name, m := range map[string]api.Machine{
		"no events":           {States: 1, Starts: []int{0}},
		"no events, 3 states": {States: 3, Starts: []int{2}, Ends: []int{0, 2}},
		"loop":                table(1, []int{0}),
		"all to one":          table(2, []int{1, 1, 1, 1}, 0, 1),
		"an unreached state":  table(2, []int{0, 0, 0, 1}),
		"another start":       later,
		"ring":                ring(7, 3),
		"greatest":            ring(api.MaxStates, api.MaxEvents),
	} {
		if !Is(m) {
			t.Errorf("%s: it is determined", name)
		}
	}
}

// notOnes are machines that may be, and are not determined.
func notOnes() map[string]api.Machine {
	all := map[string]api.Machine{
		"least":               {States: 1},
		"no start":            {States: 2, Events: 0, Ends: []int{0}},
		"two starts":          {States: 2, Starts: []int{0, 1}},
		"no arrows":           {States: 2, Events: 1, Starts: []int{0}},
		"two for one":         {States: 2, Events: 1, Starts: []int{0}, Arrows: []api.Arrow{{To: 0}, {To: 1}, {From: 1}}},
		"two, and one lacks":  {States: 2, Events: 1, Starts: []int{0}, Arrows: []api.Arrow{{To: 0}, {To: 1}}},
		"one lacks, and two":  {States: 2, Events: 1, Starts: []int{0}, Arrows: []api.Arrow{{From: 1, To: 0}, {From: 1, To: 1}}},
		"an event lacks":      {States: 1, Events: 2, Starts: []int{0}, Arrows: []api.Arrow{{}}},
		"another event lacks": {States: 1, Events: 2, Starts: []int{0}, Arrows: []api.Arrow{{Event: 1}}},
		"a state lacks one":   {States: 3, Events: 1, Starts: []int{0}, Arrows: []api.Arrow{{}, {From: 2}}},
	}
	for at := range ring(4, 3).Arrows {
		m := ring(4, 3)
		m.Arrows = slices.Delete(m.Arrows, at, at+1)
		all["without "+string(rune('a'+at))] = m
		twice := ring(4, 3)
		a := twice.Arrows[at]
		a.To = 3
		if twice.Arrows[at].To != 3 {
			twice.Arrows = slices.Insert(twice.Arrows, at+1, a)
			all["twice "+string(rune('a'+at))] = twice
		}
	}
	return all
}

// wrong are machines that may not be.
func wrong() map[string]api.Machine {
	all := map[string]api.Machine{
		"nothing":           {},
		"a start alone":     {Starts: []int{0}},
		"less than none":    {States: -1, Starts: []int{0}},
		"least number":      {States: math.MinInt, Events: math.MinInt, Starts: []int{0}},
		"greatest number":   {States: math.MaxInt, Events: math.MaxInt, Starts: []int{0}},
		"wraps round":       {States: 1 << 32, Events: 1 << 32, Starts: []int{0}},
		"257 states":        {States: 257, Starts: []int{0}},
		"great ring":        ring(257, 1),
		"9 events":          ring(2, 9),
		"-1 events":         {States: 1, Events: -1, Starts: []int{0}},
		"start beyond":      {States: 1, Starts: []int{1}},
		"start below":       {States: 1, Starts: []int{-1}},
		"starts no row":     {States: 2, Starts: []int{1, 0}},
		"start twice":       {States: 2, Starts: []int{1, 1}},
		"end beyond":        {States: 1, Starts: []int{0}, Ends: []int{1}},
		"ends no row":       {States: 2, Starts: []int{0}, Ends: []int{1, 0}},
		"arrow of no event": {States: 1, Starts: []int{0}, Arrows: []api.Arrow{{}}},
		"arrow beyond":      table(1, []int{1}),
		"arrow far beyond":  table(1, []int{math.MaxInt}),
		"arrow below":       table(1, []int{-1}),
		"arrow from far":    {States: 1, Events: 1, Starts: []int{0}, Arrows: []api.Arrow{{From: math.MinInt}}},
		"event below":       {States: 1, Events: 1, Starts: []int{0}, Arrows: []api.Arrow{{Event: -1}}},
		"arrow twice":       {States: 1, Events: 1, Starts: []int{0}, Arrows: []api.Arrow{{}, {}}},
	}
	falling := ring(3, 2)
	slices.Reverse(falling.Arrows)
	all["arrows fall"] = falling
	swapped := ring(3, 2)
	swapped.Arrows[0], swapped.Arrows[1] = swapped.Arrows[1], swapped.Arrows[0]
	all["arrows swapped"] = swapped
	return all
}

// F1: what is not determined, and what may not be.
func TestIsNot(t *testing.T) {
	for name, m := range notOnes() {
		if !machine.May(m) {
			t.Errorf("the test is wrong: %s", name)
		}
		if Is(m) {
			t.Errorf("%s: it is not determined", name)
		}
	}
	for name, m := range wrong() {
		if machine.May(m) {
			t.Errorf("the test is wrong: %s", name)
		}
		if Is(m) {
			t.Errorf("%s: it may not be", name)
		}
	}
}

// F2: by hand.
func TestMake(t *testing.T) {
	check(t, api.Machine{States: 2, Events: 1, Starts: []int{0}, Arrows: []api.Arrow{{To: 0}, {To: 1}}, Ends: []int{1}},
		table(1, []int{1, 1}, 1), [][]int{{0}, {0, 1}})
	fork := api.Machine{States: 4, Events: 2, Starts: []int{1, 3}, Arrows: []api.Arrow{
		{From: 0, Event: 0, To: 0}, {From: 0, Event: 1, To: 2},
		{From: 1, Event: 1, To: 0}, {From: 1, Event: 1, To: 2},
		{From: 3, Event: 0, To: 3},
	}, Ends: []int{0, 3}}
	check(t, fork, table(2, []int{1, 2, 1, 3, 4, 5, 3, 3, 4, 5, 3, 3}, 0, 1, 2, 4),
		[][]int{{1, 3}, {3}, {0, 2}, nil, {0}, {2}})
	fork.Ends = nil
	check(t, fork, table(2, []int{1, 2, 1, 3, 4, 5, 3, 3, 4, 5, 3, 3}),
		[][]int{{1, 3}, {3}, {0, 2}, nil, {0}, {2}})
}

// F2: sets are numbered level by level, not the way that is gone down first;
// events rise within each set.
func TestOrder(t *testing.T) {
	m := table(2, []int{
		5, 3, // 0
		2, 2, // 1
		2, 2, // 2
		4, 1, // 3
		2, 2, // 4
		6, 2, // 5
		0, 6, // 6
	}, 4)
	check(t, m, table(2, []int{1, 2, 3, 4, 5, 6, 0, 3, 4, 4, 4, 4, 4, 4}, 5),
		[][]int{{0}, {5}, {3}, {6}, {2}, {4}, {1}})
}

// F2: without starts, arrows or events; the empty set is one where it is told
// of a word, and only there.
func TestEdges(t *testing.T) {
	check(t, api.Machine{States: 1}, api.Machine{States: 1, Starts: []int{0}}, [][]int{nil})
	check(t, api.Machine{States: 3, Ends: []int{0, 1, 2}}, api.Machine{States: 1, Starts: []int{0}}, [][]int{nil})
	check(t, api.Machine{States: 1, Starts: []int{0}, Ends: []int{0}},
		api.Machine{States: 1, Starts: []int{0}, Ends: []int{0}}, [][]int{{0}})
	check(t, api.Machine{States: 3, Starts: []int{0, 2}, Ends: []int{1}},
		api.Machine{States: 1, Starts: []int{0}}, [][]int{{0, 2}})
	check(t, api.Machine{States: 2, Events: 2, Arrows: []api.Arrow{{To: 1}}, Ends: []int{0, 1}},
		table(2, []int{0, 0}), [][]int{nil})
	check(t, api.Machine{States: 2, Events: 2, Starts: []int{1}, Arrows: []api.Arrow{{To: 1}}, Ends: []int{1}},
		table(2, []int{1, 1, 1, 1}, 0), [][]int{{1}, nil})
	check(t, table(1, []int{0, 1}, 1), table(1, []int{0}), [][]int{{0}})
	check(t, api.Machine{States: 256, Events: 8, Starts: count(256), Ends: []int{255}},
		table(8, slices.Repeat([]int{1}, 16), 0), [][]int{count(256), nil})
}

// F2: what is wrong, and that nothing else is answered then.
func TestErrors(t *testing.T) {
	refused := func(name string, m api.Machine, want api.Errno) {
		t.Helper()
		if n, l, e := Make(m); e != want || !same(n, api.Machine{}) || len(l) != 0 {
			t.Errorf("%s: %v, %v, %d; asked for: %d", name, n, l, e, want)
		}
	}
	for name, m := range wrong() {
		refused(name, m, api.ErrForm)
	}
	great := subsets(9)
	refused("512 sets", great, api.ErrSize)
	great.Ends = []int{9}
	refused("512 sets of what may not be", great, api.ErrForm)
	refused("2^255 sets", subsets(256), api.ErrSize)
}

// subsets is a machine of n states that leads to all sets of them: at event 0
// each goes on to the next one, the last one to the first one; event 1 does so
// too, but that a last one also stays; at event 2, it goes away.
func subsets(n int) api.Machine {
	m := api.Machine{States: n, Events: 3, Starts: []int{0}, Ends: []int{n - 1}}
	for from := range n {
		next := (from + 1) % n
		m.Arrows = append(m.Arrows, api.Arrow{From: from, Event: 0, To: next}, api.Arrow{From: from, Event: 1, To: next})
		if from == n-1 {
			m.Arrows = append(m.Arrows, api.Arrow{From: from, Event: 1, To: from})
		} else {
			m.Arrows = append(m.Arrows, api.Arrow{From: from, Event: 2, To: next})
		}
	}
	return m
}

// F2: as many sets as fit: all of 8 states.
func TestMostSets(t *testing.T) {
	m := subsets(8)
	n, l, e := Make(m)
	if e != api.OK || n.States != api.MaxSets || len(l) != api.MaxSets || len(n.Arrows) != 3*api.MaxSets || !Is(n) {
		t.Fatal(n.States, len(l), e)
	}
	found := map[machine.Set]int{}
	for _, s := range l {
		found[machine.Of(s)]++
	}
	if len(found) != api.MaxSets || len(n.Ends) != api.MaxSets/2 {
		t.Error(len(found), len(n.Ends))
	}
	checkPlain(t, m)
}

// line is a machine of n states, each of which leads to the next one: of n sets
// of one state, and the empty one.
func line(n, events int) (m, want api.Machine, sets [][]int) {
	m = api.Machine{States: n, Events: events, Starts: []int{0}, Ends: []int{n - 1}}
	var to []int
	for at := range n {
		for event := range events {
			to = append(to, at+1)
			if at+1 < n {
				m.Arrows = append(m.Arrows, api.Arrow{From: at, Event: event, To: at + 1})
			}
		}
		sets = append(sets, []int{at})
	}
	return m, table(events, append(to, slices.Repeat([]int{n}, events)...), n-1), append(sets, nil)
}

// F2: 256 sets fit, 257 do not, by just the empty one.
func TestOneTooMany(t *testing.T) {
	for _, events := range []int{1, 8} {
		m, want, sets := line(255, events)
		check(t, m, want, sets)
		m, _, _ = line(256, events)
		if n, l, e := Make(m); e != api.ErrSize || !same(n, api.Machine{}) || len(l) != 0 {
			t.Error(n.States, len(l), e)
		}
		for event := range events {
			m.Arrows = append(m.Arrows, api.Arrow{From: 255, Event: event, To: 255})
		}
		n, l, e := Make(m)
		if e != api.OK || !same(n, m) || len(l) != 256 || !slices.Equal(l[255], []int{255}) {
			t.Error(n.States, len(l), e)
		}
	}
}

// F2, F3: of a determined machine whose states are found in their order it is
// the machine itself.
func TestAgain(t *testing.T) {
	for _, m := range []api.Machine{ring(api.MaxStates, 1), ring(api.MaxStates, api.MaxEvents), ring(5, 2), subsets(8)} {
		n, _, e := Make(m)
		if e != api.OK {
			t.Fatal(e)
		}
		if Is(m) && !same(n, m) {
			t.Error("it is another machine: ", m.States, m.Events)
		}
		var sets [][]int
		for at := range n.States {
			sets = append(sets, []int{at})
		}
		check(t, n, n, sets)
	}
}

// ofBits answers the row of the bits that a number has.
func ofBits(set int) []int {
	var l []int
	for n := range 32 {
		if set>>n&1 == 1 {
			l = append(l, n)
		}
	}
	return l
}

// small answers a machine of that many states and events, by bits.
func small(states, events, arrows, starts, ends int) api.Machine {
	m := api.Machine{States: states, Events: events, Starts: ofBits(starts), Ends: ofBits(ends)}
	for _, n := range ofBits(arrows) {
		m.Arrows = append(m.Arrows, api.Arrow{From: n / states / events, Event: n / states % events, To: n % states})
	}
	return m
}

// smallOnes goes through machines of two and three states and one to three events.
func smallOnes(step int, yield func(m api.Machine)) {
	for n := 0; n < 1<<18; n += step {
		mix := n * 2654435761 >> 7
		for _, c := range [][2]int{{2, 1}, {2, 2}, {2, 3}, {3, 1}, {3, 2}} {
			states, events := c[0], c[1]
			arrows := n & mix >> 9 & (1<<(states*states*events) - 1)
			if n%2 == 0 {
				arrows = n >> 1 & (1<<(states*states*events) - 1)
			}
			yield(small(states, events, arrows, mix&(1<<states-1), mix>>3&(1<<states-1)))
		}
	}
}

// plain answers what Make asks for, by After alone: words are gone through
// lesser ones first, each longer only by one whose set was new. A set's number
// is how many others a lesser word tells.
func plain(m api.Machine) (api.Machine, [][]int) {
	var sets [][]int
	number := func(set []int) int {
		return slices.IndexFunc(sets, func(s []int) bool { return slices.Equal(s, set) })
	}
	level := [][]int{nil}
	for len(level) > 0 {
		var longer [][]int
		for _, word := range level {
			set, _ := machine.After(m, m.Starts, word)
			if number(set) >= 0 {
				continue
			}
			sets = append(sets, set)
			for event := range m.Events {
				longer = append(longer, append(slices.Clone(word), event))
			}
		}
		level = longer
	}
	out := api.Machine{States: len(sets), Events: m.Events, Starts: []int{0}}
	for n, set := range sets {
		for event := range m.Events {
			to, _ := machine.After(m, set, []int{event})
			out.Arrows = append(out.Arrows, api.Arrow{From: n, Event: event, To: number(to)})
		}
		if slices.ContainsFunc(set, func(state int) bool { return slices.Contains(m.Ends, state) }) {
			out.Ends = append(out.Ends, n)
		}
	}
	return out, sets
}

func checkPlain(t *testing.T, m api.Machine) {
	t.Helper()
	want, sets := plain(m)
	check(t, m, want, sets)
}

// F2.
func TestSmallMachines(t *testing.T) {
	smallOnes(17, func(m api.Machine) { checkPlain(t, m) })
}

// words answers all words of so many events with at most that many of them.
func words(events, most int) [][]int {
	all := [][]int{nil}
	for at := 0; at < len(all) && len(all[at]) < most; at++ {
		for event := range events {
			all = append(all, append(slices.Clone(all[at]), event))
		}
	}
	return all
}

// F3: both accept the same of all short words; and a run of each ends in the
// set where the other machine may be.
func TestLanguage(t *testing.T) {
	yes, no := 0, 0
	smallOnes(509, func(m api.Machine) {
		n, l, e := Make(m)
		if e != api.OK || !Is(n) {
			t.Fatalf("Make(%v): %v, %d", m, n, e)
		}
		for _, word := range words(m.Events, 5) {
			is, _ := machine.Accepts(n, word)
			want, _ := machine.Accepts(m, word)
			if is != want {
				t.Errorf("Make(%v) accepts %v: %v", m, word, is)
			}
			at, _ := machine.After(n, n.Starts, word)
			set, _ := machine.After(m, m.Starts, word)
			if len(at) != 1 || !slices.Equal(l[at[0]], set) {
				t.Errorf("Make(%v) is at %v behind %v", m, at, word)
			}
			if is {
				yes++
			} else {
				no++
			}
		}
	})
	if yes < 1000 || no < 1000 {
		t.Error("the test is wrong: ", yes, no)
	}
}

// P1: the greatest machines are answered soon, be they too great or not.
func TestFullest(t *testing.T) {
	m := api.Machine{States: api.MaxStates, Events: api.MaxEvents, Starts: count(256), Ends: count(256)}
	for n := range api.MaxStates {
		for event := range api.MaxEvents {
			to := []int{(n + 3*event + 1) % api.MaxStates, (n + 3*event + 100) % api.MaxStates}
			slices.Sort(to)
			m.Arrows = append(m.Arrows, api.Arrow{From: n, Event: event, To: to[0]}, api.Arrow{From: n, Event: event, To: to[1]})
		}
	}
	for range 50 {
		m.Starts = count(256)
		check(t, m, table(8, make([]int, 8), 0), [][]int{count(256)})
		m.Starts = []int{7}
		if n, l, e := Make(m); e != api.ErrSize || !same(n, api.Machine{}) || len(l) != 0 {
			t.Fatal(n.States, len(l), e)
		}
		if Is(m) {
			t.Fatal("it is not determined")
		}
	}
}

// behind answers l with other numbers behind its length.
func behind(l []int) []int { return append(slices.Clone(l), 0, 1)[:len(l)] }

// untouched tells whether a list that behind made has all its numbers still.
func untouched(l, was []int) bool {
	return slices.Equal(l[:len(was)+2], append(slices.Clone(was), 0, 1))
}

// scribble writes over all that a list has room for.
func scribble(l []int, n int) {
	l = l[:cap(l)]
	for i := range l {
		l[i] = n
	}
}

// P3: what is handed in stays as it is and is not shared, nor are any two lists
// of what is answered; what lies behind a list's length is not read.
func TestMemory(t *testing.T) {
	arrows := []api.Arrow{{From: 0, Event: 0, To: 1}, {From: 1, Event: 0, To: 0}, {From: 1, Event: 0, To: 1}, {From: 99}}
	was := slices.Clone(arrows)
	m := api.Machine{States: 2, Events: 1, Starts: behind([]int{0}), Arrows: arrows[:3], Ends: behind([]int{1})}
	want, sets := table(1, []int{1, 2, 2}, 1, 2), [][]int{{0}, {1}, {0, 1}}
	n, l, e := Make(m)
	if e != api.OK || !same(n, want) || !sameLists(l, sets) {
		t.Fatal(n, l, e)
	}
	if !Is(api.Machine{States: 2, Events: 1, Starts: m.Starts, Arrows: []api.Arrow{{}, {From: 1}, {From: 9}}[:2], Ends: m.Ends}) {
		t.Error("what lies behind a length was read")
	}
	all := append([][]int{n.Starts, n.Ends}, l...)
	for i, one := range all {
		scribble(one, 500+i)
	}
	for i, one := range all {
		if slices.ContainsFunc(one[:cap(one)], func(x int) bool { return x != 500+i }) {
			t.Error("two lists share memory")
		}
	}
	for i := range n.Arrows[:cap(n.Arrows)] {
		n.Arrows[:cap(n.Arrows)][i] = api.Arrow{From: -1}
	}
	if !untouched(m.Starts, []int{0}) || !untouched(m.Ends, []int{1}) || !slices.Equal(arrows, was) {
		t.Error("what was handed in is changed or shared")
	}
	if again, l, e := Make(m); e != api.OK || !same(again, want) || !sameLists(l, sets) {
		t.Error(again, l, e)
	}
}

// P3: one list may stand at several places.
func TestSameList(t *testing.T) {
	l := []int{0, 1}
	m := api.Machine{States: 2, Events: 1, Starts: l, Arrows: []api.Arrow{{To: 1}}, Ends: l}
	check(t, m, table(1, []int{1, 2, 2}, 0, 1), [][]int{{0, 1}, {1}, nil})
	if !slices.Equal(l, []int{0, 1}) {
		t.Error(l)
	}
}
