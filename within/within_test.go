package within

import (
	"math"
	"slices"
	"testing"

	"jalousie/api"
	"jalousie/determine"
	"jalousie/machine"
	"jalousie/reach"
)

// count answers the row of the numbers below n.
func count(n int) []int {
	var l []int
	for i := range n {
		l = append(l, i)
	}
	return l
}

// ofArrows is a machine of that many states and events with the start 0, those
// ends, and the arrows whose three numbers are told one behind another.
func ofArrows(states, events int, ends []int, numbers ...int) api.Machine {
	m := api.Machine{States: states, Events: events, Starts: []int{0}, Ends: ends}
	for three := range slices.Chunk(numbers, 3) {
		m.Arrows = append(m.Arrows, api.Arrow{From: three[0], Event: three[1], To: three[2]})
	}
	return m
}

// all accepts each word of so many events.
func all(events int) api.Machine {
	m := api.Machine{States: 1, Events: events, Starts: []int{0}, Ends: []int{0}}
	for event := range events {
		m.Arrows = append(m.Arrows, api.Arrow{Event: event})
	}
	return m
}

// only accepts just that word.
func only(events int, word ...int) api.Machine {
	m := api.Machine{States: len(word) + 1, Events: events, Starts: []int{0}, Ends: []int{len(word)}}
	for i, event := range word {
		m.Arrows = append(m.Arrows, api.Arrow{From: i, Event: event, To: i + 1})
	}
	return m
}

// check asks for true, if want is nil, and else for false and that word.
func check(t *testing.T, name string, a, b api.Machine, want []int) {
	t.Helper()
	is, word, e := Within(a, b)
	if e != api.OK || is != (want == nil) || !slices.Equal(word, want) {
		t.Errorf("%s: %v, %v, %d; asked for: %v", name, is, word, e, want)
	}
}

// G2: by hand.
func TestWithin(t *testing.T) {
	once := ofArrows(2, 2, []int{1}, 0, 0, 1)
	more := ofArrows(2, 2, []int{1}, 0, 0, 1, 1, 1, 1)
	check(t, "more in once", more, once, []int{0, 1})
	check(t, "once in more", once, more, nil)
	check(t, "all in more", all(2), more, []int{})
	check(t, "more in all", more, all(2), nil)
	odd := ofArrows(2, 2, []int{1}, 0, 0, 1, 0, 1, 1, 1, 0, 0, 1, 1, 0)
	even := odd
	even.Ends = []int{0}
	check(t, "odd in even", odd, even, []int{0})
	check(t, "even in odd", even, odd, []int{})
	check(t, "odd in odd", odd, odd, nil)
	check(t, "more in odd", more, odd, []int{0, 1})
	check(t, "odd in more", odd, more, []int{1})
}

// G2: both machines may be in many states at once: a accepts if one of them is
// an end, and b does not accept if none of them is.
func TestManyAtOnce(t *testing.T) {
	twoWays := ofArrows(4, 2, []int{2, 3}, 0, 0, 1, 0, 0, 2, 1, 1, 3, 2, 1, 1)
	check(t, "two ways in one", twoWays, only(2, 0), []int{0, 1})
	check(t, "one of two ways", only(2, 0, 1), twoWays, nil)
	check(t, "the other one", only(2, 0), twoWays, nil)
	check(t, "two ways on", only(2, 0, 1, 1), twoWays, nil)
	check(t, "beyond both ways", only(2, 0, 1, 1, 1), twoWays, []int{0, 1, 1, 1})
	starts := api.Machine{States: 3, Events: 1, Starts: []int{0, 1, 2}, Arrows: []api.Arrow{{From: 1, To: 0}}, Ends: []int{0}}
	check(t, "of several starts", all(1), starts, []int{0, 0})
	check(t, "of several starts, the other way", starts, all(1), nil)
	check(t, "of several starts, in what has one", starts, only(1), []int{0})
}

// choice accepts just those words, which have two events each.
func choice(events int, words ...[2]int) api.Machine {
	m := api.Machine{States: 2 + len(words), Events: events, Starts: []int{0}, Ends: []int{1}}
	for i, word := range words {
		m.Arrows = append(m.Arrows,
			api.Arrow{From: 0, Event: word[0], To: i + 2},
			api.Arrow{From: i + 2, Event: word[1], To: 1})
	}
	slices.SortFunc(m.Arrows, func(a, b api.Arrow) int { return (a.From-b.From)*100 + (a.Event-b.Event)*10 + a.To - b.To })
	return m
}

// G1: fewer events are lesser, whatever they are; of as many the first place
// where they differ tells, not the last one.
func TestLeast(t *testing.T) {
	none := api.Machine{States: 1, Events: 3}
	check(t, "fewer", ofArrows(3, 3, []int{2}, 0, 0, 1, 0, 2, 2, 1, 0, 2), none, []int{2})
	check(t, "the empty one", ofArrows(2, 3, []int{0, 1}, 0, 0, 1), none, []int{})
	check(t, "less at first", choice(3, [2]int{1, 0}, [2]int{0, 2}), none, []int{0, 2})
	check(t, "told in another order", choice(3, [2]int{0, 2}, [2]int{1, 0}), none, []int{0, 2})
	check(t, "then the second", choice(3, [2]int{2, 0}, [2]int{1, 2}, [2]int{1, 1}), none, []int{1, 1})
	check(t, "less is in b, too", choice(3, [2]int{0, 2}, [2]int{1, 2}, [2]int{2, 0}), only(3, 0, 2), []int{1, 2})
	check(t, "fewer is in b, too", ofArrows(3, 3, []int{2}, 0, 0, 1, 0, 2, 2, 1, 1, 2), only(3, 2), []int{0, 1})
	// behind 0 0 and behind 1 the machine is in one state: the word goes on by 1
	meet := ofArrows(4, 2, []int{3}, 0, 0, 1, 0, 1, 2, 1, 0, 2, 2, 0, 3)
	check(t, "two words to one state", meet, api.Machine{States: 1, Events: 2}, []int{1, 0})
}

// G2: without events, starts, ends or arrows.
func TestEdges(t *testing.T) {
	for _, events := range []int{0, 1, api.MaxEvents} {
		nothing := api.Machine{States: 1, Events: events}
		empty := api.Machine{States: 1, Events: events, Starts: []int{0}, Ends: []int{0}}
		noEnd := api.Machine{States: 2, Events: events, Starts: []int{0, 1}}
		noStart := api.Machine{States: 2, Events: events, Ends: []int{0, 1}}
		elsewhere := api.Machine{States: 2, Events: events, Starts: []int{0}, Ends: []int{1}}
		for _, none := range []api.Machine{nothing, noEnd, noStart, elsewhere} {
			for _, other := range []api.Machine{nothing, noEnd, noStart, elsewhere, empty, all(events)} {
				check(t, "nothing in any", none, other, nil)
			}
			check(t, "the empty word in nothing", empty, none, []int{})
			check(t, "all in nothing", all(events), none, []int{})
		}
		check(t, "the empty word in itself", empty, empty, nil)
		check(t, "the empty word in all", empty, all(events), nil)
	}
	empty := api.Machine{States: 1, Events: 8, Starts: []int{0}, Ends: []int{0}}
	check(t, "all in the empty word", all(8), empty, []int{0})
	check(t, "the last event", only(8, 7), empty, []int{7})
}

// wrong are machines that may not be.
func wrong() map[string]api.Machine {
	return map[string]api.Machine{
		"nothing":         {},
		"less than none":  {States: -1, Events: 2},
		"least number":    {States: math.MinInt, Events: math.MinInt},
		"greatest number": {States: math.MaxInt, Events: math.MaxInt},
		"257 states":      {States: 257, Events: 2},
		"9 events":        {States: 1, Events: 9},
		"-1 events":       {States: 1, Events: -1},
		"start beyond":    {States: 1, Events: 2, Starts: []int{1}},
		"starts no row":   {States: 2, Events: 2, Starts: []int{1, 0}},
		"end twice":       {States: 2, Events: 2, Ends: []int{1, 1}},
		"end below":       {States: 2, Events: 2, Ends: []int{-1}},
		"arrow to beyond": ofArrows(1, 2, nil, 0, 0, 1),
		"event beyond":    ofArrows(1, 2, nil, 0, 2, 0),
		"arrow twice":     ofArrows(1, 2, nil, 0, 0, 0, 0, 0, 0),
		"arrows fall":     ofArrows(1, 2, nil, 0, 1, 0, 0, 0, 0),
		"too great, too":  {States: 7, Events: 2, Ends: []int{7}},
	}
}

// G2, P2: what is wrong, in the order in which it is named, and that nothing
// else is answered then.
func TestErrors(t *testing.T) {
	refused := func(name string, a, b api.Machine, want api.Errno) {
		t.Helper()
		for _, two := range [][2]api.Machine{{a, b}, {b, a}} {
			if is, word, e := Within(two[0], two[1]); is || len(word) != 0 || e != want {
				t.Errorf("%s: %v, %v, %d; asked for: %d", name, is, word, e, want)
			}
		}
	}
	great := func(states, events int) api.Machine {
		return api.Machine{States: states, Events: events, Starts: []int{0}, Ends: []int{states - 1}}
	}
	for name, m := range wrong() {
		refused(name, m, all(2), api.ErrForm)
		refused(name+" and itself", m, m, api.ErrForm)
		refused(name+" and other events", m, all(3), api.ErrForm)
		refused(name+" and a great one", m, great(256, 2), api.ErrForm)
	}
	refused("other events", all(2), all(3), api.ErrKind)
	refused("no events", all(0), all(1), api.ErrKind)
	refused("other events, and great", great(7, 2), all(3), api.ErrKind)
	refused("other events, both great", great(7, 2), great(256, 8), api.ErrKind)
	refused("one is great", great(7, 2), all(2), api.ErrSize)
	refused("both are", great(7, 2), great(256, 2), api.ErrSize)
	refused("great, but for what is reached", only(2, 0, 0, 0, 0, 0, 0), all(2), api.ErrSize)
}

// G2: as many states as may be.
func TestMostStates(t *testing.T) {
	five := only(2, 0, 1, 0, 1, 1)
	if five.States != api.MaxPlant {
		t.Fatal("the test is wrong")
	}
	check(t, "in itself", five, five, nil)
	check(t, "in all", five, all(2), nil)
	check(t, "all in it", all(2), five, []int{})
	check(t, "in another one", five, only(2, 0, 1, 0, 1, 0), []int{0, 1, 0, 1, 1})
	last := api.Machine{States: 6, Events: 0, Starts: []int{5}, Ends: []int{5}}
	check(t, "the last state", last, api.Machine{States: 6, Starts: []int{4}, Ends: []int{5}}, []int{})
}

// rings is a machine of one event, of rings side by side, each with a start; of
// each ring all but the state ahead of its start is an end.
func rings(sizes ...int) api.Machine {
	m := api.Machine{Events: 1}
	for _, size := range sizes {
		first := m.States
		m.Starts = append(m.Starts, first)
		for n := range size {
			m.Arrows = append(m.Arrows, api.Arrow{From: first + n, To: first + (n+1)%size})
			if n < size-1 {
				m.Ends = append(m.Ends, first+n)
			}
		}
		m.States += size
	}
	return m
}

// G2: the least word is longer than both machines have states.
func TestLongWords(t *testing.T) {
	check(t, "rings of 2 and 3", all(1), rings(2, 3), slices.Repeat([]int{0}, 5))
	check(t, "rings of 2 and 4", all(1), rings(2, 4), slices.Repeat([]int{0}, 3))
	five := rings(5)
	five.Ends = []int{4}
	check(t, "a ring of 5", five, rings(2, 3), slices.Repeat([]int{0}, 29))
	five.Ends = []int{3}
	check(t, "another one of 5", five, rings(2, 3), slices.Repeat([]int{0}, 23))
	four := rings(4)
	four.Ends = []int{2}
	check(t, "it never leaves", four, rings(2, 3), nil)
}

// words answers all words of so many events with at most that many of them,
// lesser ones first.
func words(events, most int) [][]int {
	all := [][]int{{}}
	for at := 0; at < len(all) && len(all[at]) < most; at++ {
		for event := range events {
			all = append(all, append(slices.Clone(all[at]), event))
		}
	}
	return all
}

// lesser tells of two lists whether x is the lesser one, as G1 says it.
func lesser(x, y []int) bool {
	if len(x) != len(y) {
		return len(x) < len(y)
	}
	for i := range x {
		if x[i] != y[i] {
			return x[i] < y[i]
		}
	}
	return false
}

// parts tells whether a accepts the word, and b does not.
func parts(a, b api.Machine, word []int) bool {
	inA, _ := machine.Accepts(a, word)
	inB, _ := machine.Accepts(b, word)
	return inA && !inB
}

// ofBits answers the row of the bits that a number has.
func ofBits(set int) []int {
	var l []int
	for n := range 63 {
		if set>>n&1 == 1 {
			l = append(l, n)
		}
	}
	return l
}

// mixed answers a number that hangs on n, its bits well mixed.
func mixed(n uint64) uint64 {
	n = (n + 1) * 0x9e3779b97f4a7c15
	n = (n ^ n>>29) * 0xbf58476d1ce4e5b9
	return n ^ n>>32
}

// some answers a machine of that many states and events that hangs on seed; of
// all arrows that it might have about one of each rare is there.
func some(states, events, rare int, seed uint64) api.Machine {
	bits := mixed(seed)
	m := api.Machine{States: states, Events: events, Starts: ofBits(int(bits & (1<<states - 1))), Ends: ofBits(int(bits >> 8 & (1<<states - 1)))}
	for at := range states * events * states {
		if mixed(bits+uint64(at))%uint64(rare) == 0 {
			m.Arrows = append(m.Arrows, api.Arrow{From: at / states / events, Event: at / states % events, To: at % states})
		}
	}
	return m
}

// pairsOf goes through pairs of machines of up to 3 states and 1 to 3 events.
func pairsOf(t *testing.T, most uint64, yield func(a, b api.Machine)) {
	for seed := range most {
		bits := int(mixed(seed) >> 3 & 0xffff)
		events := 1 + bits%3
		a := some(1+bits>>2%3, events, 2+bits>>6%3, 2*seed)
		b := some(1+bits>>4%3, events, 2+bits>>8%3, 2*seed+1)
		if !machine.May(a) || !machine.May(b) {
			t.Fatal("the test is wrong: ", a, b)
		}
		yield(a, b)
	}
}

// G1, G2: against all short words.
func TestShortWords(t *testing.T) {
	all := map[int][][]int{1: words(1, 40), 2: words(2, 6), 3: words(3, 4)}
	yes, no := 0, 0
	pairsOf(t, 6000, func(a, b api.Machine) {
		is, word, e := Within(a, b)
		if e != api.OK || is && len(word) != 0 || !is && !parts(a, b, word) {
			t.Fatalf("Within(%v, %v): %v, %v, %d", a, b, is, word, e)
		}
		for _, other := range all[a.Events] {
			if parts(a, b, other) && (is || lesser(other, word)) {
				t.Fatalf("Within(%v, %v): %v, %v; but %v", a, b, is, word, other)
			}
		}
		if is {
			yes++
		} else {
			no++
		}
	})
	if yes < 500 || no < 500 {
		t.Error("the test is wrong: ", yes, no)
	}
}

// plain answers what Within asks for, by After alone: words are gone through
// lesser ones first, each longer only by one that comes to what no lesser one did.
func plain(a, b api.Machine) (bool, []int) {
	known := map[[2]machine.Set]int{}
	for level := [][]int{{}}; len(level) > 0; {
		var longer [][]int
		for _, word := range level {
			inA, _ := machine.After(a, a.Starts, word)
			inB, _ := machine.After(b, b.Starts, word)
			at := [2]machine.Set{machine.Of(inA), machine.Of(inB)}
			known[at]++
			if known[at] > 1 {
				continue
			}
			if parts(a, b, word) {
				return false, word
			}
			for event := range a.Events {
				longer = append(longer, append(slices.Clone(word), event))
			}
		}
		level = longer
	}
	return true, nil
}

// G2: of greater machines.
func TestPlain(t *testing.T) {
	long := 0
	for seed := range uint64(400) {
		bits := int(mixed(seed) >> 5 & 0xffff)
		a := some(4+bits%3, 1+bits>>4%4, 4+bits>>8%4, 7*seed)
		b := some(4+bits>>2%3, a.Events, 2+bits>>6%4, 7*seed+1)
		b.Ends = count(b.States - 1)
		want, least := plain(a, b)
		is, word, e := Within(a, b)
		if e != api.OK || is != want || !slices.Equal(word, least) {
			t.Fatalf("Within(%v, %v): %v, %v, %d; asked for: %v, %v", a, b, is, word, e, want, least)
		}
		if len(word) > 2 {
			long++
		}
	}
	if long < 20 {
		t.Error("the test is wrong: ", long)
	}
}

// G2: a machine is within itself, and within others with its language, both
// ways; and in what is more.
func TestSameLanguage(t *testing.T) {
	pairsOf(t, 1000, func(a, b api.Machine) {
		check(t, "in itself", a, a, nil)
		trimmed, _, _ := reach.Trim(a)
		check(t, "in what is trimmed", a, trimmed, nil)
		check(t, "what is trimmed", trimmed, a, nil)
		if one, _, e := determine.Make(a); e == api.OK && one.States <= api.MaxPlant {
			check(t, "in what is determined", a, one, nil)
			check(t, "what is determined", one, a, nil)
		}
		both := besideOneAnother(a, b)
		check(t, "in one of both", a, both, nil)
		check(t, "in the other one of both", b, both, nil)
		aInB, _, _ := Within(a, b)
		if is, word, e := Within(both, b); e != api.OK || is != aInB {
			t.Errorf("Within(%v, %v): %v, %v, %d", both, b, is, word, e)
		}
	})
}

// besideOneAnother is a machine that accepts what a or b accepts.
func besideOneAnother(a, b api.Machine) api.Machine {
	m := api.Machine{States: a.States + b.States, Events: a.Events,
		Starts: slices.Clone(a.Starts), Arrows: slices.Clone(a.Arrows), Ends: slices.Clone(a.Ends)}
	for _, n := range b.Starts {
		m.Starts = append(m.Starts, n+a.States)
	}
	for _, n := range b.Ends {
		m.Ends = append(m.Ends, n+a.States)
	}
	for _, w := range b.Arrows {
		m.Arrows = append(m.Arrows, api.Arrow{From: w.From + a.States, Event: w.Event, To: w.To + a.States})
	}
	return m
}

// subsets is a machine of 6 states and 6 events: by the three from first on it
// leads to all sets of states; at the others it stays. It accepts all words that
// come to a set that is not empty.
func subsets(first int) api.Machine {
	m := api.Machine{States: 6, Events: 6, Starts: []int{0}, Ends: count(6)}
	for from := range 6 {
		next := (from + 1) % 6
		for event := range 6 {
			arrow := api.Arrow{From: from, Event: event, To: from}
			switch {
			case event < first || event > first+2:
				m.Arrows = append(m.Arrows, arrow)
			case event == first+1 && from == 5:
				m.Arrows = append(m.Arrows, api.Arrow{From: from, Event: event, To: 0}, arrow)
			case event != first+2 || from != 5:
				arrow.To = next
				m.Arrows = append(m.Arrows, arrow)
			}
		}
	}
	return m
}

// P1, G2: where there are as many pairs as can be, it is answered soon.
func TestMostPairs(t *testing.T) {
	a, b := subsets(0), subsets(3)
	for _, m := range []api.Machine{a, b} {
		if _, sets, e := determine.Make(m); e != api.OK || len(sets) != 64 {
			t.Fatal("the test is wrong: ", len(sets), e)
		}
	}
	if is, word, e := Within(a, b); e != api.OK || is || !slices.Equal(word, []int{3, 3, 3, 3, 3, 5}) {
		t.Error(is, word, e)
	}
	a.Ends, b.Ends = nil, nil
	for range 20 {
		check(t, "nothing is accepted", a, b, nil)
	}
	a.Ends = []int{0}
	check(t, "the empty word", a, b, []int{})
	a, b = subsets(0), subsets(0)
	check(t, "the same in both", a, b, nil)
}

// behind answers l with other numbers behind its length.
func behind(l []int) []int { return append(slices.Clone(l), 0, 1)[:len(l)] }

// untouched tells whether a list that behind made has all its numbers still.
func untouched(l, was []int) bool {
	return slices.Equal(l[:len(was)+2], append(slices.Clone(was), 0, 1))
}

// P3: what is handed in stays as it is and is not shared, and what lies behind
// a list's length is not read.
func TestMemory(t *testing.T) {
	arrows := []api.Arrow{{From: 0, Event: 0, To: 1}, {From: 1, Event: 1, To: 1}, {From: 99}}
	was := slices.Clone(arrows)
	starts, ends := behind([]int{0}), behind([]int{1})
	a := api.Machine{States: 2, Events: 2, Starts: starts, Arrows: arrows[:2], Ends: ends}
	b := api.Machine{States: 2, Events: 2, Starts: starts, Arrows: arrows[:1], Ends: ends}
	is, word, e := Within(a, b)
	if e != api.OK || is || !slices.Equal(word, []int{0, 1}) {
		t.Fatal(is, word, e)
	}
	whole := word[:cap(word)]
	for i := range whole {
		whole[i] = 500
	}
	if !untouched(starts, []int{0}) || !untouched(ends, []int{1}) || !slices.Equal(arrows, was) {
		t.Error("what was handed in is changed or shared")
	}
	check(t, "again", a, b, []int{0, 1})
	check(t, "the other way", b, a, nil)
}
