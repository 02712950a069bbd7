package least

import (
	"math"
	"slices"
	"testing"

	"jalousie/api"
	"jalousie/determine"
	"jalousie/machine"
	"jalousie/reach"
	"jalousie/within"
)

// count answers the row of the numbers below n.
func count(n int) []int {
	var l []int
	for i := range n {
		l = append(l, i)
	}
	return l
}

func same(a, b api.Machine) bool {
	return a.States == b.States && a.Events == b.Events && slices.Equal(a.Starts, b.Starts) &&
		slices.Equal(a.Arrows, b.Arrows) && slices.Equal(a.Ends, b.Ends)
}

// ofArrows is a machine of that many states and events with the start 0, those
// ends, and the arrows whose three numbers are told one behind another.
func ofArrows(states, events int, ends []int, numbers ...int) api.Machine {
	m := api.Machine{States: states, Events: events, Starts: []int{0}, Ends: ends}
	for three := range slices.Chunk(numbers, 3) {
		m.Arrows = append(m.Arrows, api.Arrow{From: three[0], Event: three[1], To: three[2]})
	}
	return m
}

// table is a determined machine of so many events: at from*events+event stands
// where a state leads to. Its start is 0.
func table(events int, to []int, ends ...int) api.Machine {
	m := api.Machine{States: len(to) / events, Events: events, Starts: []int{0}, Ends: ends}
	for i, n := range to {
		m.Arrows = append(m.Arrows, api.Arrow{From: i / events, Event: i % events, To: n})
	}
	return m
}

// only accepts just that word.
func only(events int, word ...int) api.Machine {
	m := api.Machine{States: len(word) + 1, Events: events, Starts: []int{0}, Ends: []int{len(word)}}
	for i, event := range word {
		m.Arrows = append(m.Arrows, api.Arrow{From: i, Event: event, To: i + 1})
	}
	return m
}

func check(t *testing.T, name string, m, want api.Machine) {
	t.Helper()
	n, e := Least(m)
	if e != api.OK || !same(n, want) {
		t.Errorf("%s: Least(%v): %v, %d; asked for: %v", name, m, n, e, want)
	}
	if e == api.OK && !determine.Is(n) {
		t.Errorf("%s: Least(%v): %v is not determined", name, m, n)
	}
}

// H1: by hand.
func TestLeast(t *testing.T) {
	check(t, "even", table(1, []int{1, 2, 1}, 0, 2), table(1, []int{1, 0}, 0))
	check(t, "even, twice as long", table(1, []int{1, 2, 3, 0}, 0, 2), table(1, []int{1, 0}, 0))
	check(t, "by four", table(1, []int{1, 2, 3, 0}, 0), table(1, []int{1, 2, 3, 0}, 0))
	check(t, "once, then on", ofArrows(2, 2, []int{1}, 0, 0, 1, 1, 1, 1), table(2, []int{1, 2, 2, 1, 2, 2}, 1))
	check(t, "two ends alike", ofArrows(3, 2, []int{1, 2}, 0, 0, 1, 0, 1, 2), table(2, []int{1, 1, 2, 2, 2, 2}, 1))
	check(t, "two ends not alike", ofArrows(3, 2, []int{1, 2}, 0, 0, 1, 0, 1, 2, 2, 0, 2),
		table(2, []int{1, 2, 3, 3, 2, 3, 3, 3}, 1, 2))
	check(t, "an end with the start", ofArrows(3, 1, []int{0, 1, 2}, 0, 0, 1, 1, 0, 2, 2, 0, 1), table(1, []int{0}, 0))
	check(t, "many at once", ofArrows(3, 2, []int{2}, 0, 0, 0, 0, 0, 1, 0, 1, 0, 1, 0, 2, 1, 1, 2),
		table(2, []int{1, 0, 2, 3, 2, 3, 1, 0}, 2, 3))
}

// H1: the same words lead from two states to an end, but for the last one of
// those that can be needed, or for one at the last event.
func TestToldLate(t *testing.T) {
	check(t, "a long line", only(1, 0, 0, 0, 0, 0), table(1, []int{1, 2, 3, 4, 5, 6, 6}, 5))
	check(t, "a ring with a way in", table(1, []int{1, 2, 3, 4, 5, 1}, 0, 5), table(1, []int{1, 2, 3, 4, 0}, 0))
	check(t, "a ring with a way in, told late", table(1, []int{1, 2, 3, 4, 5, 2}, 5), table(1, []int{1, 2, 3, 4, 5, 2}, 5))
	check(t, "the first event", only(8, 0), table(8, slices.Concat([]int{1}, slices.Repeat([]int{2}, 23)), 1))
	for event := 1; event < api.MaxEvents; event++ {
		to := slices.Repeat([]int{1}, 24) // 1: from there no end is come to
		to[event] = 2
		check(t, "one event", only(8, event), table(8, to, 2))
	}
	last := table(8, slices.Repeat([]int{0}, 24), 0, 1)
	last.Arrows[0].To, last.Arrows[15].To, last.Arrows[23].To = 1, 2, 2
	check(t, "the last event", last, last)
}

// H1: states are numbered level by level, not the way that is gone down first;
// events rise within each state. So it is when several states become one, and
// whatever the states' numbers were.
func TestOrder(t *testing.T) {
	m := table(2, []int{
		5, 3, // 0
		2, 2, // 1
		2, 2, // 2
		4, 1, // 3
		2, 2, // 4
		1, 2, // 5
	}, 4)
	check(t, "1 and 2 are one", m, table(2, []int{1, 2, 1, 1, 3, 1, 1, 1}, 3))
	m.Ends = []int{1, 4}
	check(t, "1 and 4 are one", m, table(2, []int{1, 2, 3, 4, 3, 3, 4, 4, 4, 4}, 3))
	m.Ends = []int{0, 2}
	check(t, "2 alone", m, table(2, []int{1, 2, 3, 4, 3, 3, 4, 4, 4, 4}, 0, 4))
	later := table(2, []int{3, 1, 3, 0, 5, 5, 2, 4, 2, 2, 5, 5}, 2)
	later.Starts = []int{1}
	check(t, "another start, with one like it", later, table(2, []int{1, 0, 2, 3, 4, 4, 2, 2, 4, 4}, 2))
	later.Ends = []int{0, 2}
	check(t, "another start", later, table(2, []int{1, 2, 3, 4, 1, 0, 5, 5, 3, 3, 5, 5}, 2, 3))
}

// H1: without events, starts, ends or arrows.
func TestEdges(t *testing.T) {
	no := api.Machine{States: 1, Starts: []int{0}}
	yes := api.Machine{States: 1, Starts: []int{0}, Ends: []int{0}}
	check(t, "no events and a start that is no end", no, no)
	check(t, "no events, and another end", api.Machine{States: 6, Starts: []int{0, 2}, Ends: []int{1, 5}}, no)
	check(t, "no events and no start", api.Machine{States: 2, Ends: []int{0, 1}}, no)
	check(t, "no events and an end", yes, yes)
	check(t, "no events and one of several", api.Machine{States: 6, Starts: []int{1, 5}, Ends: []int{2, 5}}, yes)
	for events := 1; events <= api.MaxEvents; events++ {
		none, all := table(events, make([]int, events)), table(events, make([]int, events), 0)
		empty := table(events, slices.Repeat([]int{1}, 2*events), 0)
		check(t, "nothing at all", api.Machine{States: 1, Events: events}, none)
		check(t, "no end", api.Machine{States: 6, Events: events, Starts: count(6), Arrows: []api.Arrow{{To: 1}, {From: 1, To: 4}}}, none)
		check(t, "no start", api.Machine{States: 6, Events: events, Ends: count(6), Arrows: []api.Arrow{{To: 1}, {From: 1, To: 4}}}, none)
		check(t, "an end that is not come to", api.Machine{States: 3, Events: events, Starts: []int{0}, Ends: []int{2}, Arrows: []api.Arrow{{To: 1}}}, none)
		check(t, "just nothing", none, none)
		check(t, "all", all, all)
		check(t, "no arrow", api.Machine{States: 1, Events: events, Starts: []int{0}, Ends: []int{0}}, empty)
		check(t, "no arrow that is gone", api.Machine{States: 3, Events: events, Starts: []int{1}, Ends: []int{0, 1}, Arrows: []api.Arrow{{To: 1}}}, empty)
	}
}

// wrong are machines that may not be.
func wrong() map[string]api.Machine {
	return map[string]api.Machine{
		"nothing":              {},
		"a start alone":        {Starts: []int{0}},
		"less than none":       {States: -1, Events: 2},
		"least number":         {States: math.MinInt, Events: math.MinInt},
		"greatest number":      {States: math.MaxInt, Events: math.MaxInt},
		"257 states":           {States: 257, Events: 2},
		"9 events":             {States: 1, Events: 9, Starts: []int{0}},
		"-1 events":            {States: 1, Events: -1},
		"start beyond":         {States: 1, Events: 2, Starts: []int{1}},
		"start below":          {States: 1, Events: 2, Starts: []int{-1}},
		"starts no row":        {States: 2, Events: 2, Starts: []int{1, 0}},
		"end twice":            {States: 2, Events: 2, Ends: []int{1, 1}},
		"end beyond":           {States: 2, Events: 2, Starts: []int{0}, Ends: []int{2}},
		"end far beyond":       {States: 2, Events: 2, Starts: []int{0}, Ends: []int{math.MaxInt}},
		"arrow to beyond":      ofArrows(1, 2, nil, 0, 0, 1),
		"arrow from below":     ofArrows(1, 2, nil, -1, 0, 0),
		"event beyond":         ofArrows(1, 2, nil, 0, 2, 0),
		"event below":          ofArrows(1, 2, nil, 0, -1, 0),
		"arrow of no event":    ofArrows(1, 0, nil, 0, 0, 0),
		"arrow twice":          ofArrows(1, 2, nil, 0, 0, 0, 0, 0, 0),
		"arrows fall":          ofArrows(1, 2, nil, 0, 1, 0, 0, 0, 0),
		"too great, too":       {States: 7, Events: 2, Ends: []int{7}},
		"much too great, too":  {States: 256, Events: 2, Starts: []int{256}},
		"just not reached, it": ofArrows(2, 1, nil, 1, 0, 2),
	}
}

// H1, P2: what is wrong, in the order in which it is named, and that nothing
// else is answered then.
func TestErrors(t *testing.T) {
	refused := func(name string, m api.Machine, want api.Errno) {
		t.Helper()
		if n, e := Least(m); e != want || !same(n, api.Machine{}) {
			t.Errorf("%s: %v, %d; asked for: %d", name, n, e, want)
		}
	}
	for name, m := range wrong() {
		refused(name, m, api.ErrForm)
	}
	refused("7 states", api.Machine{States: 7, Events: 2, Starts: []int{0}}, api.ErrSize)
	refused("7 in a line", only(2, 0, 1, 0, 1, 1, 0), api.ErrSize)
	refused("7 without events", api.Machine{States: 7}, api.ErrSize)
	refused("as many as may be", api.Machine{States: 256, Events: 8, Starts: count(256), Ends: count(256)}, api.ErrSize)
	great := table(1, []int{0, 0, 0, 0, 0, 0, 0}, 0)
	refused("7 that are one", great, api.ErrSize)
	great.States, great.Arrows = 6, great.Arrows[:6]
	check(t, "6 that are one", great, table(1, []int{0}, 0))
}

// subsets is a machine of 6 states that leads to all 64 sets of them: at event
// 0 each goes on to the next one, the last one to the first one; event 1 does
// so too, but that a last one also stays; at event 2, it goes away.
func subsets() api.Machine {
	m := api.Machine{States: 6, Events: 3, Starts: []int{0}, Ends: []int{5}}
	for from := range 6 {
		next := (from + 1) % 6
		m.Arrows = append(m.Arrows, api.Arrow{From: from, Event: 0, To: next}, api.Arrow{From: from, Event: 1, To: next})
		if from == 5 {
			m.Arrows = append(m.Arrows, api.Arrow{From: from, Event: 1, To: from})
		} else {
			m.Arrows = append(m.Arrows, api.Arrow{From: from, Event: 2, To: next})
		}
	}
	return m
}

// H1, P1: as many states as the least machine can have: each set is told apart
// from all others; it is answered soon.
func TestMostStates(t *testing.T) {
	m := subsets()
	want, sets, e := determine.Make(m)
	if e != api.OK || len(sets) != 64 {
		t.Fatal("the test is wrong: ", len(sets), e)
	}
	for range 100 {
		check(t, "64 sets", m, want)
	}
	m.Ends = nil
	check(t, "no ends", m, table(3, []int{0, 0, 0}))
	m.Ends = count(6)
	checkTurned(t, m)
}

// mixed answers a number that hangs on n, its bits well mixed.
func mixed(n uint64) uint64 {
	n = (n + 1) * 0x9e3779b97f4a7c15
	n = (n ^ n>>29) * 0xbf58476d1ce4e5b9
	return n ^ n>>32
}

// ofBits answers the row of the bits that a number has.
func ofBits(set int) []int {
	var l []int
	for n := range 63 {
		if set>>n&1 == 1 {
			l = append(l, n)
		}
	}
	return l
}

// some answers a machine of that many states and events that hangs on seed; of
// all arrows that it might have about one of each rare is there.
func some(states, events, rare int, seed uint64) api.Machine {
	bits := mixed(seed)
	m := api.Machine{States: states, Events: events, Starts: ofBits(int(bits & (1<<states - 1))), Ends: ofBits(int(bits >> 8 & (1<<states - 1)))}
	for at := range states * events * states {
		if mixed(bits+uint64(at))%uint64(rare) == 0 {
			m.Arrows = append(m.Arrows, api.Arrow{From: at / states / events, Event: at / states % events, To: at % states})
		}
	}
	return m
}

// turned answers the machine that accepts the words of m from behind.
func turned(m api.Machine) api.Machine {
	out := api.Machine{States: m.States, Events: m.Events, Starts: m.Ends, Ends: m.Starts}
	for _, a := range m.Arrows {
		out.Arrows = append(out.Arrows, api.Arrow{From: a.To, Event: a.Event, To: a.From})
	}
	slices.SortFunc(out.Arrows, func(a, b api.Arrow) int {
		return (a.From-b.From)*1_000_000 + (a.Event-b.Event)*1000 + a.To - b.To
	})
	return out
}

// checkTurned asks for what comes of turning a machine and determining it, twice:
// the sets of what is turned then are told apart by the states that they have.
func checkTurned(t *testing.T, m api.Machine) {
	t.Helper()
	once, _, e := determine.Make(turned(m))
	if e != api.OK {
		t.Fatal(m, e)
	}
	want, _, e := determine.Make(turned(once))
	if e != api.OK {
		t.Fatal(m, e)
	}
	check(t, "turned twice", m, want)
}

// H1: of machines of 1 to 6 states and 0 to 8 events.
func TestTurned(t *testing.T) {
	fewer, great := 0, 0
	for seed := range uint64(6000) {
		bits := int(mixed(seed) >> 5 & 0xfffff)
		m := some(1+bits%6, bits>>4%9, 2+bits>>8%7, 11*seed)
		checkTurned(t, m)
		d, _, _ := determine.Make(m)
		n, _ := Least(m)
		if n.States < d.States && n.States > 2 {
			fewer++
		}
		if n.States > 10 {
			great++
		}
	}
	if fewer < 300 || great < 300 {
		t.Error("the test is wrong: ", fewer, great)
	}
}

// words answers all words of so many events with at most that many of them,
// lesser ones first.
func words(events, most int) [][]int {
	all := [][]int{{}}
	for at := 0; at < len(all) && len(all[at]) < most; at++ {
		for event := range events {
			all = append(all, append(slices.Clone(all[at]), event))
		}
	}
	return all
}

// accepted answers a text that tells which of the words m accepts.
func accepted(m api.Machine, words [][]int) string {
	l := make([]byte, len(words))
	for i, word := range words {
		l[i] = 'n'
		if is, _ := machine.Accepts(m, word); is {
			l[i] = 'y'
		}
	}
	return string(l)
}

// checkWords asks by all short words whether the least machine of m has its
// language, whether words tell its states apart, so that none is too many, and
// whether its states are found in their order.
func checkWords(t *testing.T, m api.Machine, words [][]int) {
	t.Helper()
	n, e := Least(m)
	if e != api.OK || !determine.Is(n) || n.Events != m.Events || accepted(n, words) != accepted(m, words) {
		t.Fatalf("Least(%v): %v, %d", m, n, e)
	}
	told := map[string]int{}
	for state := range n.States {
		from := n
		from.Starts = []int{state}
		told[accepted(from, words)]++
	}
	if len(told) != n.States {
		t.Errorf("Least(%v): %v: there are two states for one", m, n)
	}
	found := 0
	for _, word := range words {
		at, _ := machine.After(n, n.Starts, word)
		if at[0] > found {
			t.Errorf("Least(%v): %v: behind %v is the state %d", m, n, word, at[0])
		}
		if at[0] == found {
			found++
		}
	}
	if found != n.States {
		t.Errorf("Least(%v): %v: %d states are found", m, n, found)
	}
}

// H1: the plain words of the promise, of small machines.
func TestWords(t *testing.T) {
	all := [][][]int{words(0, 0), words(1, 20), words(2, 8), words(3, 5)}
	for seed := range uint64(1200) {
		bits := int(mixed(seed) >> 5 & 0xfffff)
		m := some(1+bits%3, bits>>4%4, 2+bits>>8%3, 5*seed)
		checkWords(t, m, all[m.Events])
	}
}

// likeWithin tells by within whether two machines have the same language.
func likeWithin(t *testing.T, a, b api.Machine) bool {
	t.Helper()
	there, _, e := within.Within(a, b)
	back, _, f := within.Within(b, a)
	if e != api.OK || f != api.OK {
		t.Fatal(a, b, e, f)
	}
	return there && back
}

// alike tells whether Least tells the same of both.
func alike(t *testing.T, a, b api.Machine) bool {
	t.Helper()
	x, e := Least(a)
	y, f := Least(b)
	if e != api.OK || f != api.OK {
		t.Fatal(a, b, e, f)
	}
	return same(x, y)
}

// H2: each small machine against many others.
func TestOneForEachLanguage(t *testing.T) {
	for events := range 4 {
		var all []api.Machine
		for seed := range uint64(90) {
			bits := int(mixed(seed) >> 7 & 0xffff)
			all = append(all, some(1+bits%3, events, 2+bits>>4%4, 3*seed+uint64(events)))
		}
		yes, no := 0, 0
		for i, a := range all {
			for _, b := range all[:i] {
				is := likeWithin(t, a, b)
				if alike(t, a, b) != is {
					t.Errorf("%v and %v: the same language: %v", a, b, is)
				}
				if is {
					yes++
				} else {
					no++
				}
			}
		}
		if yes < 300 || no < 300 {
			t.Error("the test is wrong: ", events, yes, no)
		}
	}
}

// renamed answers m with other numbers of its states: n becomes by*n+add.
func renamed(m api.Machine, by, add int) api.Machine {
	rename := func(n int) int { return (by*n + add) % m.States }
	renameAll := func(l []int) []int {
		var out []int
		for _, n := range l {
			out = append(out, rename(n))
		}
		slices.Sort(out)
		return out
	}
	out := api.Machine{States: m.States, Events: m.Events, Starts: renameAll(m.Starts), Ends: renameAll(m.Ends)}
	for _, a := range m.Arrows {
		out.Arrows = append(out.Arrows, api.Arrow{From: rename(a.From), Event: a.Event, To: rename(a.To)})
	}
	slices.SortFunc(out.Arrows, func(a, b api.Arrow) int {
		return (a.From-b.From)*10000 + (a.Event-b.Event)*100 + a.To - b.To
	})
	return out
}

// H2: other machines with m's language, of up to 6 states: with other numbers,
// trimmed, determined, and the least one itself.
func TestSameLanguage(t *testing.T) {
	again := 0
	for seed := range uint64(1500) {
		bits := int(mixed(seed) >> 5 & 0xfffff)
		m := some(1+bits%6, bits>>4%5, 3+bits>>8%5, 13*seed)
		want, e := Least(m)
		if e != api.OK {
			t.Fatal(m, e)
		}
		check(t, "from behind", renamed(m, m.States-1, m.States-1), want)
		check(t, "turned round", renamed(m, 1, 2), want)
		trimmed, _, _ := reach.Trim(m)
		check(t, "trimmed", trimmed, want)
		if d, _, _ := determine.Make(m); d.States <= api.MaxPlant {
			check(t, "determined", d, want)
			check(t, "determined, with other numbers", renamed(d, d.States-1, d.States-1), want)
		}
		if want.States <= api.MaxPlant {
			check(t, "least", want, want)
			again++
		}
	}
	if again < 300 {
		t.Error("the test is wrong: ", again)
	}
}

// H2: one word more or less is another language, be it long.
func TestOtherLanguage(t *testing.T) {
	m := only(2, 0, 1, 1, 0, 1)
	for _, other := range []api.Machine{only(2, 0, 1, 1, 0, 0), only(2, 0, 1, 1, 0), only(2, 1, 1, 1, 0, 1), only(2)} {
		if alike(t, m, other) || !alike(t, other, other) {
			t.Errorf("%v and %v", m, other)
		}
	}
	more := m
	more.Ends = []int{4, 5}
	if alike(t, m, more) {
		t.Error("one word more")
	}
}

// P1: machines of 6 states and 8 events with all arrows are answered soon.
func TestFullest(t *testing.T) {
	m := api.Machine{States: 6, Events: 8, Starts: count(6), Ends: []int{5}}
	for at := range 6 * 8 * 6 {
		m.Arrows = append(m.Arrows, api.Arrow{From: at / 48, Event: at / 6 % 8, To: at % 6})
	}
	for range 200 {
		check(t, "all arrows", m, table(8, make([]int, 8), 0))
	}
}

// behind answers l with other numbers behind its length.
func behind(l []int) []int { return append(slices.Clone(l), 0, 1)[:len(l)] }

// untouched tells whether a list that behind made has all its numbers still.
func untouched(l, was []int) bool {
	return slices.Equal(l[:len(was)+2], append(slices.Clone(was), 0, 1))
}

// scribble writes over all that a list has room for.
func scribble(l []int, n int) {
	l = l[:cap(l)]
	for i := range l {
		l[i] = n
	}
}

// P3: what is handed in stays as it is and is not shared, nor are any two lists
// of what is answered; what lies behind a list's length is not read.
func TestMemory(t *testing.T) {
	arrows := []api.Arrow{{To: 1}, {From: 1, To: 2}, {From: 2, To: 1}, {From: 99}}
	was := slices.Clone(arrows)
	m := api.Machine{States: 3, Events: 1, Starts: behind([]int{0}), Arrows: arrows[:3], Ends: behind([]int{0, 2})}
	want := table(1, []int{1, 0}, 0)
	n, e := Least(m)
	if e != api.OK || !same(n, want) {
		t.Fatal(n, e)
	}
	scribble(n.Starts, 500)
	scribble(n.Ends, 501)
	if slices.Contains(n.Starts[:cap(n.Starts)], 501) {
		t.Error("two lists share memory")
	}
	for i := range n.Arrows[:cap(n.Arrows)] {
		n.Arrows[:cap(n.Arrows)][i] = api.Arrow{From: -1}
	}
	if !untouched(m.Starts, []int{0}) || !untouched(m.Ends, []int{0, 2}) || !slices.Equal(arrows, was) {
		t.Error("what was handed in is changed or shared")
	}
	check(t, "again", m, want)
	check(t, "what it is", want, want)
}

// P3: one list may stand at several places.
func TestSameList(t *testing.T) {
	l := []int{0, 1}
	m := api.Machine{States: 2, Events: 1, Starts: l, Arrows: []api.Arrow{{To: 1}}, Ends: l}
	check(t, "one list", m, table(1, []int{1, 2, 2}, 0, 1))
	if !slices.Equal(l, []int{0, 1}) {
		t.Error(l)
	}
}
