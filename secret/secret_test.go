package secret

import (
	"math"
	"slices"
	"testing"

	"jalousie/api"
	"jalousie/beside"
	"jalousie/current"
	"jalousie/determine"
	"jalousie/hide"
	"jalousie/least"
	"jalousie/machine"
	"jalousie/row"
)

// count answers the row of the numbers below n.
func count(n int) []int {
	var l []int
	for i := range n {
		l = append(l, i)
	}
	return l
}

// ofArrows is a machine of that many states and events with the start 0, those
// ends, and the arrows whose three numbers are told one behind another.
func ofArrows(states, events int, ends []int, numbers ...int) api.Machine {
	m := api.Machine{States: states, Events: events, Starts: []int{0}, Ends: ends}
	for three := range slices.Chunk(numbers, 3) {
		m.Arrows = append(m.Arrows, api.Arrow{From: three[0], Event: three[1], To: three[2]})
	}
	return m
}

// only is a machine that accepts just that word.
func only(events int, word ...int) api.Machine {
	m := api.Machine{States: len(word) + 1, Events: events, Starts: []int{0}, Ends: []int{len(word)}}
	for i, event := range word {
		m.Arrows = append(m.Arrows, api.Arrow{From: i, Event: event, To: i + 1})
	}
	return m
}

// all is a machine that accepts all words.
func all(events int) api.Machine {
	m := api.Machine{States: 1, Events: events, Starts: []int{0}, Ends: []int{0}}
	for event := range events {
		m.Arrows = append(m.Arrows, api.Arrow{Event: event})
	}
	return m
}

// with is a machine that accepts the words that have one of those events.
func with(events int, of ...int) api.Machine {
	m := ofArrows(2, events, []int{1})
	for from := range 2 {
		for event := range events {
			to := from
			if slices.Contains(of, event) {
				to = 1
			}
			m.Arrows = append(m.Arrows, api.Arrow{From: from, Event: event, To: to})
		}
	}
	return m
}

// without is a machine that accepts the words that have none of those events.
func without(events int, of ...int) api.Machine {
	m := with(events, of...)
	m.Ends = []int{0}
	return m
}

// checkLeak asks for false, if want is nil, and else for true and that list.
func checkLeak(t *testing.T, name string, m, s api.Machine, seen, want []int) {
	t.Helper()
	if is, word, e := Leak(m, s, seen); e != api.OK || is != (want != nil) || !slices.Equal(word, want) {
		t.Errorf("%s: Leak(%v, %v, %v): %v, %v, %d; asked for: %v", name, m, s, seen, is, word, e, want)
	}
}

// checkTold asks for false, if want is nil, and else for true and that list.
func checkTold(t *testing.T, name string, m api.Machine, high, want []int) {
	t.Helper()
	if is, word, e := Told(m, high); e != api.OK || is != (want != nil) || !slices.Equal(word, want) {
		t.Errorf("%s: Told(%v, %v): %v, %v, %d; asked for: %v", name, m, high, is, word, e, want)
	}
}

// leakRefused asks that Leak tells what is wrong, and nothing else.
func leakRefused(t *testing.T, name string, m, s api.Machine, seen []int, want api.Errno) {
	t.Helper()
	if is, word, e := Leak(m, s, seen); is || len(word) != 0 || e != want {
		t.Errorf("%s: Leak(%v, %v, %v): %v, %v, %d; asked for: %d", name, m, s, seen, is, word, e, want)
	}
}

// toldRefused asks that Told tells what is wrong, and nothing else.
func toldRefused(t *testing.T, name string, m api.Machine, high []int, want api.Errno) {
	t.Helper()
	if is, word, e := Told(m, high); is || len(word) != 0 || e != want {
		t.Errorf("%s: Told(%v, %v): %v, %v, %d; asked for: %d", name, m, high, is, word, e, want)
	}
}

// wrong are machines that may not be.
func wrong() map[string]api.Machine {
	return map[string]api.Machine{
		"nothing":         {},
		"less than none":  {States: -1, Events: 2},
		"least number":    {States: math.MinInt, Events: math.MinInt},
		"greatest number": {States: math.MaxInt, Events: math.MaxInt},
		"257 states":      {States: 257, Events: 2},
		"9 events":        {States: 1, Events: 9},
		"-1 events":       {States: 1, Events: -1},
		"start beyond":    {States: 1, Events: 2, Starts: []int{1}},
		"starts no row":   {States: 2, Events: 2, Starts: []int{1, 0}},
		"end twice":       {States: 2, Events: 2, Ends: []int{1, 1}},
		"end below":       {States: 2, Events: 2, Ends: []int{-1}},
		"end beyond":      {States: 2, Events: 2, Ends: []int{2}},
		"arrow to beyond": ofArrows(1, 2, nil, 0, 0, 1),
		"arrow from none": ofArrows(1, 2, nil, -1, 0, 0),
		"event beyond":    ofArrows(1, 2, nil, 0, 2, 0),
		"arrow twice":     ofArrows(1, 2, nil, 0, 0, 0, 0, 0, 0),
		"arrows fall":     ofArrows(1, 2, nil, 0, 1, 0, 0, 0, 0),
		"too great, too":  {States: 7, Events: 2, Ends: []int{7}},
	}
}

// noRows are lists that are no rows below 2.
func noRows() [][]int {
	return [][]int{{2}, {-1}, {0, 2}, {1, 0}, {0, 0}, {0, 1, 1}, {0, 1, 2}, {8}, {math.MaxInt}, {math.MinInt}, {0, api.MaxRow}}
}

// L1, P2: what is wrong, in the order in which it is named.
func TestLeakErrors(t *testing.T) {
	great := func(states, events int) api.Machine {
		return api.Machine{States: states, Events: events, Starts: []int{0}, Ends: []int{0}}
	}
	for name, m := range wrong() {
		for _, seen := range append(noRows(), nil, []int{0}) {
			leakRefused(t, name, m, all(2), seen, api.ErrForm)
			leakRefused(t, name+", as secret", all(2), m, seen, api.ErrForm)
			leakRefused(t, name+" and itself", m, m, seen, api.ErrForm)
			leakRefused(t, name+", other events", m, all(3), seen, api.ErrForm)
			leakRefused(t, name+", other events of the machine", all(3), m, seen, api.ErrForm)
			leakRefused(t, name+", a great secret", m, great(256, 2), seen, api.ErrForm)
			leakRefused(t, name+", of a great machine", great(256, 2), m, seen, api.ErrForm)
		}
	}
	for _, seen := range append(noRows(), nil, []int{0}) {
		leakRefused(t, "other events", all(2), all(3), seen, api.ErrKind)
		leakRefused(t, "fewer events", all(2), all(1), seen, api.ErrKind)
		leakRefused(t, "no events", all(0), all(2), seen, api.ErrKind)
		leakRefused(t, "other events, great", great(7, 2), great(5, 8), seen, api.ErrKind)
	}
	for _, seen := range noRows() {
		leakRefused(t, "no row", all(2), all(2), seen, api.ErrForm)
		leakRefused(t, "no row, great", great(7, 2), all(2), seen, api.ErrForm)
		leakRefused(t, "no row, a great secret", all(2), great(5, 2), seen, api.ErrForm)
		leakRefused(t, "no row, many whereabouts", inRings(2, 3), all(2), seen, api.ErrForm)
	}
	leakRefused(t, "seen of no events", all(0), all(0), []int{0}, api.ErrForm)
	leakRefused(t, "seen 8", all(8), all(8), []int{8}, api.ErrForm)
	for _, seen := range [][]int{nil, {0}, {1}, {0, 1}} {
		leakRefused(t, "7 states", great(7, 2), all(2), seen, api.ErrSize)
		leakRefused(t, "256 states", great(256, 2), all(2), seen, api.ErrSize)
		leakRefused(t, "a secret of 5 states", all(2), great(5, 2), seen, api.ErrSize)
		leakRefused(t, "a secret of 6 states", great(6, 2), great(6, 2), seen, api.ErrSize)
		leakRefused(t, "a secret of 256 states", all(2), great(256, 2), seen, api.ErrSize)
		leakRefused(t, "both", great(7, 2), great(5, 2), seen, api.ErrSize)
		checkLeak(t, "6 states and 4", great(6, 2), great(4, 2), seen, []int{})
	}
}

// inRings is a machine of so many rings of so many states, each with a start; at
// event 0 it goes on.
func inRings(rings, size int) api.Machine {
	m := api.Machine{States: rings * size, Events: 2}
	for n := range rings * size {
		if n%size == 0 {
			m.Starts = append(m.Starts, n)
		}
		m.Arrows = append(m.Arrows, api.Arrow{From: n, To: n - n%size + (n+1)%size})
	}
	return m
}

// L2, P2: what is wrong, in the order in which it is named.
func TestToldErrors(t *testing.T) {
	for name, m := range wrong() {
		for _, high := range append(noRows(), nil, []int{0}) {
			toldRefused(t, name, m, high, api.ErrForm)
		}
	}
	for _, states := range []int{1, 6, 7, 256} {
		m := api.Machine{States: states, Events: 2, Starts: []int{0}, Ends: []int{0}}
		for _, high := range noRows() {
			toldRefused(t, "no row", m, high, api.ErrForm)
		}
		for _, high := range [][]int{nil, {0}, {1}, {0, 1}} {
			if states > api.MaxPlant {
				toldRefused(t, "great", m, high, api.ErrSize)
			} else {
				checkTold(t, "not too great", m, high, nil)
			}
		}
	}
	toldRefused(t, "high of no events", all(0), []int{0}, api.ErrForm)
	toldRefused(t, "high 8", all(8), []int{8}, api.ErrForm)
	toldRefused(t, "great, but for what is reached", only(2, 0, 0, 0, 0, 0, 0), []int{1}, api.ErrSize)
	dense := api.Machine{States: 64, Events: 2, Starts: []int{0}, Ends: []int{63}}
	for n := range 63 {
		dense.Arrows = append(dense.Arrows, api.Arrow{From: n, Event: 1, To: n + 1})
	}
	toldRefused(t, "great, and more hidden", dense, []int{1}, api.ErrSize)
}

// L1: by hand.
func TestLeak(t *testing.T) {
	// 0 -0-> 1 -1-> 1: what has a 0 is secret, and 1 is seen behind it alone
	m := ofArrows(2, 2, []int{0, 1}, 0, 0, 1, 1, 1, 1)
	checkLeak(t, "1 tells of 0", m, with(2, 0), []int{1}, []int{1})
	checkLeak(t, "0 is seen", m, with(2, 0), []int{0}, []int{0})
	checkLeak(t, "all is seen", m, with(2, 0), []int{0, 1}, []int{0})
	checkLeak(t, "nothing is seen", m, with(2, 0), nil, nil)
	checkLeak(t, "that there was no 0", m, without(2, 0), []int{0, 1}, []int{})
	checkLeak(t, "that there was no 0, 0 is seen", m, without(2, 0), []int{0}, []int{})
	checkLeak(t, "that there was no 0, 1 is seen", m, without(2, 0), []int{1}, nil)
	checkLeak(t, "all is secret", m, all(2), nil, []int{})
	checkLeak(t, "all is secret, and seen", m, all(2), []int{0, 1}, []int{})
	checkLeak(t, "a secret that can't be", m, only(2, 1), []int{0, 1}, nil)
	checkLeak(t, "a secret that can be", m, only(2, 0, 1, 1), []int{0, 1}, []int{0, 1, 1})
	checkLeak(t, "a secret that is told", m, only(2, 0, 1, 1), []int{1}, []int{1, 1})
	checkLeak(t, "a secret that is not told", m, only(2, 0, 1, 1), []int{0}, nil)
	// a 2 is possible without a 0, too
	m = ofArrows(3, 3, []int{2}, 0, 0, 1, 0, 2, 2, 1, 1, 1, 1, 2, 2)
	checkLeak(t, "2 does not tell", m, with(3, 0), []int{2}, nil)
	checkLeak(t, "1 tells", m, with(3, 0), []int{1, 2}, []int{1, 2})
	checkLeak(t, "2 with none tells", m, without(3, 0), []int{0, 2}, []int{2})
	checkLeak(t, "2 does not tell of none", m, without(3, 0), []int{1, 2}, nil)
}

// L1: just words that m accepts are secret or open: others tell nothing, and
// take nothing back.
func TestEndsCount(t *testing.T) {
	// behind 0 it is in 1, behind 1 in 2, and behind both by 2 in 3
	fork := func(ends ...int) api.Machine {
		return ofArrows(4, 3, ends, 0, 0, 1, 0, 1, 2, 1, 2, 3, 2, 2, 3)
	}
	checkLeak(t, "both are accepted", fork(3), with(3, 0), []int{2}, nil)
	checkLeak(t, "on their way", fork(1, 2), with(3, 0), []int{2}, nil)
	checkLeak(t, "just one, on its way", fork(1), with(3, 0), []int{2}, []int{})
	checkLeak(t, "just the open one", fork(2), with(3, 0), []int{2}, nil)
	checkLeak(t, "none", fork(), with(3, 0), []int{2}, nil)
	checkLeak(t, "one first, then both", fork(1, 3), with(3, 0), []int{2}, []int{})
	checkLeak(t, "an open one first, then both", fork(2, 3), with(3, 0), []int{2}, nil)
	checkLeak(t, "the empty one is open", fork(0, 1), with(3, 0), []int{2}, nil)
	checkLeak(t, "the empty one is secret", fork(0), without(3, 0), []int{2}, []int{})
	checkLeak(t, "the empty one is secret, and others", fork(0, 2), without(3, 0), []int{2}, []int{})
	checkLeak(t, "the empty one is secret, and not others", fork(0, 1), without(3, 0), []int{2}, nil)
}

// L1: the secret's row counts as a whole: a word is open just if no run of it
// ends in an end of s, whatever other runs do.
func TestSecretOfManyRuns(t *testing.T) {
	m := all(2)
	s := ofArrows(3, 2, []int{2}, 0, 0, 0, 0, 0, 1, 0, 1, 0, 1, 0, 2, 1, 1, 2)
	checkLeak(t, "last but one is 0", m, s, []int{0, 1}, []int{0, 0})
	checkLeak(t, "last but one is 0, without 1", m, s, []int{0}, nil)
	checkLeak(t, "last but one is 0, without 0", m, s, []int{1}, nil)
	s.Starts = []int{0, 1}
	checkLeak(t, "two starts", m, s, []int{0, 1}, []int{0})
	s.Starts = []int{0, 1, 2}
	checkLeak(t, "three starts", m, s, []int{0, 1}, []int{})
	s.Starts = nil
	checkLeak(t, "no start", m, s, []int{0, 1}, nil)
	// m itself may be in several states behind a word, one of which is no end
	both := ofArrows(3, 1, []int{1}, 0, 0, 1, 0, 0, 2)
	checkLeak(t, "an end and none", both, all(1), []int{0}, []int{0})
	checkLeak(t, "open in one of two", both, only(1), []int{0}, nil)
}

// L1: without events, starts, ends or arrows.
func TestLeakEdges(t *testing.T) {
	for _, events := range []int{0, 1, api.MaxEvents} {
		for _, seen := range [][]int{nil, count(events)} {
			nothing := api.Machine{States: 1, Events: events}
			noEnd := api.Machine{States: 2, Events: events, Starts: []int{0, 1}}
			noStart := api.Machine{States: 2, Events: events, Ends: []int{0, 1}}
			elsewhere := api.Machine{States: 2, Events: events, Starts: []int{0}, Ends: []int{1}}
			for _, none := range []api.Machine{nothing, noEnd, noStart, elsewhere} {
				for _, s := range []api.Machine{nothing, noEnd, noStart, elsewhere, only(events), all(events)} {
					checkLeak(t, "it does nothing", none, s, seen, nil)
				}
				checkLeak(t, "no secret", all(events), none, seen, nil)
				checkLeak(t, "no secret of one word", only(events), none, seen, nil)
			}
			checkLeak(t, "the empty word", only(events), only(events), seen, []int{})
			checkLeak(t, "all is secret", all(events), all(events), seen, []int{})
		}
	}
	checkLeak(t, "the empty one among others", all(8), only(8), count(8), []int{})
	checkLeak(t, "the empty one, one is unseen", all(8), only(8), count(7), nil)
	checkLeak(t, "the last event", all(8), only(8, 7), count(8), []int{7})
	checkLeak(t, "the last event is not seen", all(8), only(8, 7), count(7), nil)
	last := api.Machine{States: 6, Events: 1, Starts: []int{4}, Ends: []int{5}, Arrows: []api.Arrow{{From: 4, To: 5}}}
	of := api.Machine{States: 4, Events: 1, Starts: []int{2}, Ends: []int{3}, Arrows: []api.Arrow{{From: 2, To: 3}}}
	checkLeak(t, "the last states", last, of, []int{0}, []int{0})
	checkLeak(t, "the last states, unseen", last, of, nil, []int{})
	of.Ends = []int{2}
	checkLeak(t, "the last states, open", last, of, []int{0}, nil)
}

// G1, L1: fewer events are lesser, whatever they are; of as many the first place
// where they differ tells. Events keep their numbers.
func TestLeast(t *testing.T) {
	words := func(of ...[2]int) api.Machine {
		m := api.Machine{States: 2 + len(of), Events: 8, Starts: []int{0}, Ends: []int{1}}
		for i, word := range of {
			m.Arrows = append(m.Arrows,
				api.Arrow{From: 0, Event: word[0], To: i + 2},
				api.Arrow{From: i + 2, Event: word[1], To: 1})
		}
		slices.SortFunc(m.Arrows, func(a, b api.Arrow) int { return (a.From-b.From)*100 + (a.Event-b.Event)*10 + a.To - b.To })
		return m
	}
	seen := []int{2, 3, 5, 7}
	checkLeak(t, "less at first", words([2]int{3, 2}, [2]int{2, 7}), all(8), seen, []int{2, 7})
	checkLeak(t, "in another order", words([2]int{2, 7}, [2]int{3, 2}), all(8), seen, []int{2, 7})
	checkLeak(t, "then the second", words([2]int{7, 2}, [2]int{3, 7}, [2]int{3, 5}), all(8), seen, []int{3, 5})
	checkLeak(t, "fewer", words([2]int{2, 2}, [2]int{7, 4}), all(8), seen, []int{7})
	checkLeak(t, "fewer still", words([2]int{2, 2}, [2]int{7, 4}, [2]int{0, 1}), all(8), seen, []int{})
	checkLeak(t, "less is open, too", words([2]int{2, 7}, [2]int{3, 2}), with(8, 3), seen, []int{3, 2})
	checkLeak(t, "one of both has a 6", words([2]int{6, 5}, [2]int{5, 6}, [2]int{7, 6}), with(8, 5), seen, []int{5})
	// Told likewise
	low := []int{0, 1, 4, 6}
	checkTold(t, "less at first", words([2]int{3, 1}, [2]int{2, 7}), low, []int{3})
	checkTold(t, "not by itself", words([2]int{3, 2}, [2]int{2, 7}), low, nil)
	checkTold(t, "the first one", words([2]int{7, 1}, [2]int{4, 5}), low, []int{5})
	checkTold(t, "fewer", words([2]int{7, 1}, [2]int{4, 6}), low, []int{})
	longer := ofArrows(6, 8, []int{3}, 0, 3, 1, 0, 5, 4, 1, 4, 2, 2, 2, 3, 4, 2, 5, 5, 6, 3)
	checkTold(t, "two of two", longer, low, []int{3, 2})
}

// subsets is a machine of 6 states and 8 events that is at 0 and in any set of
// the others: by the first three events it comes to all of those sets; at the
// next three it stays; from there on it goes nowhere.
func subsets() api.Machine { return changing(6, 0) }

// subsetsOfSecret is likewise a secret of 4 states; it stays where subsets
// changes, and changes where that one stays.
func subsetsOfSecret() api.Machine { return changing(4, 3) }

// changing is a machine that is at 0 always: at the event first the states
// behind 0 go round, at the next one 1 comes to them, and at the one behind that
// 1 goes from them; at others, of the first six, all stay.
func changing(states, first int) api.Machine {
	m := api.Machine{States: states, Events: 8, Starts: []int{0}}
	for from := range states {
		for event := range 6 {
			to := []int{from}
			switch {
			case event == first && from > 0:
				to = []int{1 + from%(states-1)}
			case event == first+1 && from == 0:
				to = []int{0, 1}
			case event == first+2 && from == 1:
				to = nil
			}
			for _, n := range to {
				m.Arrows = append(m.Arrows, api.Arrow{From: from, Event: event, To: n})
			}
		}
	}
	return m
}

// L1: there may be MaxSets whereabouts, and not one more; the empty ones of a
// list that can't be seen count, too. Too many there are, whatever leaks.
func TestMostWhereabouts(t *testing.T) {
	m, s := subsets(), subsetsOfSecret()
	if n := len(whereabouts(m, s, count(6))); n != api.MaxSets {
		t.Fatal("the test is wrong: ", n)
	}
	m.Ends, s.Ends = []int{5}, []int{3}
	checkLeak(t, "as many as may be", m, s, count(6), []int{1, 0, 0, 0, 0, 4, 3, 3})
	s.Ends = nil
	checkLeak(t, "as many as may be, no leak", m, s, count(6), nil)
	for _, ofM := range [][]int{nil, {0}, {5}, count(6)} {
		for _, ofS := range [][]int{nil, {0}, {3}, count(4)} {
			m.Ends, s.Ends = ofM, ofS
			leakRefused(t, "behind 6 it is nowhere", m, s, count(7), api.ErrSize)
			leakRefused(t, "behind 7 it is nowhere", m, s, []int{0, 1, 2, 3, 4, 5, 7}, api.ErrSize)
			leakRefused(t, "behind both", m, s, count(8), api.ErrSize)
		}
	}
	m.Ends, s.Ends = []int{0}, []int{0}
	checkLeak(t, "all is secret", m, s, count(6), []int{})
	checkLeak(t, "fewer are seen", m, s, []int{0, 1, 3, 6, 7}, []int{})
	s.Starts = nil
	checkLeak(t, "the secret has no start", m, s, count(8), nil)
	m.Starts, s.Starts = nil, []int{0}
	checkLeak(t, "no start", m, s, count(8), nil)
}

// L1: the secret's empty row is one as others are: where m stays at 6, and the
// secret does not, there are 32 whereabouts more, none of them empty.
func TestEmptyRow(t *testing.T) {
	m, s := subsets(), subsetsOfSecret()
	m.Ends, s.Ends = []int{0}, []int{0}
	var arrows []api.Arrow
	for from := range m.States {
		for _, a := range m.Arrows {
			if a.From == from {
				arrows = append(arrows, a)
			}
		}
		arrows = append(arrows, api.Arrow{From: from, Event: 6, To: from})
	}
	m.Arrows = arrows
	leakRefused(t, "all sets, all rows", m, s, count(7), api.ErrSize)
	checkLeak(t, "all sets, all rows, but without 6", m, s, count(6), nil)
	checkLeak(t, "rows change unseen", m, s, []int{0, 1, 2, 6}, []int{})
	s.Ends = nil
	checkLeak(t, "rows change unseen, no leak", m, s, []int{0, 1, 2, 6}, nil)
}

// L1, P1: where there were more arrows between pairs than a machine may have, it
// is answered all the same: m goes from each state at each event to each, and
// the secret has all rows.
func TestManyArrows(t *testing.T) {
	m := api.Machine{States: 6, Events: 8, Starts: count(6), Ends: count(6)}
	for at := range 6 * 8 * 6 {
		m.Arrows = append(m.Arrows, api.Arrow{From: at / 48, Event: at / 6 % 8, To: at % 6})
	}
	// at 0 all go round; at 1 the first one goes to the next one, too; at 2 the
	// first one goes away; at others, and else, they stay
	s := api.Machine{States: 4, Events: 8, Starts: []int{0}, Ends: []int{3}}
	for from := range 4 {
		for event := range 8 {
			switch {
			case event == 0:
				s.Arrows = append(s.Arrows, api.Arrow{From: from, Event: 0, To: (from + 1) % 4})
			case event == 1 && from == 0:
				s.Arrows = append(s.Arrows, api.Arrow{From: 0, Event: 1, To: 0}, api.Arrow{From: 0, Event: 1, To: 1})
			case event != 2 || from != 0:
				s.Arrows = append(s.Arrows, api.Arrow{From: from, Event: event, To: from})
			}
		}
	}
	one, sets, e := determine.Make(s)
	if e != api.OK || len(sets) != 16 {
		t.Fatal("the test is wrong: ", len(sets), e)
	}
	if _, _, e := beside.Beside(m, one, count(8), count(8)); e != api.ErrSize {
		t.Fatal("the test is wrong: ", e)
	}
	checkLeak(t, "all is seen", m, s, count(8), []int{0, 0, 0})
	checkLeak(t, "some is seen", m, s, []int{0, 1}, nil)
	checkLeak(t, "what does nothing is not seen", m, s, []int{0, 1, 2}, []int{0, 0, 0})
	checkLeak(t, "nothing is seen", m, s, nil, nil)
	s.Starts = count(4)
	s.Ends = []int{0, 1, 2}
	checkLeak(t, "all rows at first", m, s, count(8), []int{})
	checkTold(t, "and all is done", m, []int{0}, nil)
	m.Ends = nil
	checkLeak(t, "no end", m, s, count(8), nil)
}

// L1: the least list is long: of a ring of 5, and a secret of a ring of 4.
func TestLongLists(t *testing.T) {
	ring := func(size, events, event, end int) api.Machine {
		m := ofArrows(size, events, []int{end})
		for from := range size {
			for other := range events {
				to := from
				if other == event {
					to = (from + 1) % size
				}
				m.Arrows = append(m.Arrows, api.Arrow{From: from, Event: other, To: to})
			}
		}
		return m
	}
	for m := range 5 {
		for s := range 4 {
			want := slices.Repeat([]int{1}, (m*16+s*5)%20)
			checkLeak(t, "rings", ring(5, 3, 1, m), ring(4, 3, 1, s), []int{1}, append([]int{}, want...))
			checkLeak(t, "rings, all is seen", ring(5, 3, 1, m), ring(4, 3, 1, s), []int{0, 1, 2}, append([]int{}, want...))
		}
	}
	checkLeak(t, "the secret goes round unseen", ring(5, 3, 1, 4), ring(4, 3, 2, 3), []int{1}, nil)
	checkLeak(t, "the machine goes round unseen", ring(5, 3, 1, 4), ring(4, 3, 2, 3), []int{2}, []int{2, 2, 2})
}

// L2: by hand.
func TestTold(t *testing.T) {
	m := ofArrows(2, 2, []int{0, 1}, 0, 0, 1, 1, 1, 1)
	checkTold(t, "1 tells of 0", m, []int{0}, []int{1})
	checkTold(t, "0 does not tell of 1", m, []int{1}, nil)
	checkTold(t, "nothing is high", m, nil, nil)
	checkTold(t, "all is high", m, []int{0, 1}, nil)
	m.Ends = []int{1}
	checkTold(t, "the empty one tells of 0", m, []int{0}, []int{})
	checkTold(t, "0 does not tell of 1, either", m, []int{1}, nil)
	checkTold(t, "all is high, and something was done", m, []int{0, 1}, []int{})
	m.Ends = nil
	checkTold(t, "no end", m, []int{0}, nil)
	checkTold(t, "no end, all is high", m, []int{0, 1}, nil)
	m.Ends, m.Starts = []int{0, 1}, nil
	checkTold(t, "no start", m, []int{0}, nil)
	// a 2 is possible without a 0, too; a 1 is not
	m = ofArrows(3, 3, []int{2}, 0, 0, 1, 0, 2, 2, 1, 1, 1, 1, 2, 2)
	checkTold(t, "1 2", m, []int{0}, []int{1, 2})
	checkTold(t, "0 and 1", m, []int{0, 1}, nil)
	checkTold(t, "1", m, []int{1}, nil)
	checkTold(t, "2", m, []int{2}, []int{})
	checkTold(t, "1 and 2", m, []int{1, 2}, []int{})
	// another run of it does it, too
	m = ofArrows(4, 2, []int{3}, 0, 0, 1, 0, 1, 2, 1, 1, 3, 2, 1, 3)
	checkTold(t, "it tells", m, []int{0}, []int{1})
	m = ofArrows(4, 2, []int{3}, 0, 0, 1, 0, 1, 2, 0, 1, 3, 1, 1, 3)
	checkTold(t, "it may be without", m, []int{0}, nil)
	// 0 has a ring of 2, and 5 comes by the high 1 to a ring of 3, of which 4 ends
	m = ofArrows(6, 2, []int{0, 4}, 0, 0, 1, 1, 0, 0, 2, 0, 3, 3, 0, 4, 4, 0, 2, 5, 1, 2)
	m.Starts = []int{0, 5}
	checkTold(t, "two rings", m, []int{1}, []int{0, 0, 0, 0, 0})
}

// L2: without events, starts, ends or arrows; of all events.
func TestToldEdges(t *testing.T) {
	for _, events := range []int{0, 1, api.MaxEvents} {
		for _, high := range [][]int{nil, count(events)} {
			for _, m := range []api.Machine{
				{States: 1, Events: events},
				{States: 2, Events: events, Starts: []int{0, 1}},
				{States: 2, Events: events, Ends: []int{0, 1}},
				{States: 2, Events: events, Starts: []int{0}, Ends: []int{1}},
				only(events),
				all(events),
			} {
				checkTold(t, "it tells nothing", m, high, nil)
			}
		}
	}
	checkTold(t, "the last event", only(8, 7), []int{7}, []int{})
	checkTold(t, "the last event is low", only(8, 7), count(7), nil)
	checkTold(t, "all are high", only(8, 7), count(8), []int{})
	checkTold(t, "behind the last one", only(8, 7, 3, 5), []int{7}, []int{3, 5})
	checkTold(t, "ahead of the last one", only(8, 3, 5, 7), []int{7}, []int{3, 5})
	checkTold(t, "between", only(8, 3, 0, 5, 0), []int{0, 1}, []int{3, 5})
	last := api.Machine{States: 6, Events: 2, Starts: []int{4}, Ends: []int{5}, Arrows: []api.Arrow{{From: 4, To: 5}}}
	checkTold(t, "the last states", last, []int{0}, []int{})
	checkTold(t, "the last states, low", last, []int{1}, nil)
}

// point is a pair: a state of the machine, and the set of those where its
// secret may be.
type point struct {
	state int
	set   machine.Set
}

// pairsOfList answers the whereabouts of a list, by their plain words: it goes
// along all words of which no more than the list is seen, from pair to pair,
// with so many of the list's numbers seen.
func pairsOfList(m, s api.Machine, seen, list []int) map[point]int {
	type step struct {
		point
		seen int
	}
	var steps []step
	found := map[step]int{}
	add := func(to step) {
		if found[to]++; found[to] == 1 {
			steps = append(steps, to)
		}
	}
	for _, n := range m.Starts {
		add(step{point{n, machine.Of(s.Starts)}, 0})
	}
	pairs := map[point]int{}
	for at := 0; at < len(steps); at++ {
		here := steps[at]
		if here.seen == len(list) {
			pairs[here.point]++
		}
		for _, a := range m.Arrows {
			if a.From != here.state {
				continue
			}
			to := step{point{a.To, stepOf(s, here.set, a.Event)}, here.seen}
			if slices.Contains(seen, a.Event) {
				if here.seen == len(list) || list[here.seen] != a.Event {
					continue
				}
				to.seen++
			}
			add(to)
		}
	}
	return pairs
}

// stepOf answers where the states of a set lead to at an event.
func stepOf(s api.Machine, from machine.Set, event int) machine.Set {
	var to machine.Set
	for _, a := range s.Arrows {
		if a.Event == event && from.Meets(machine.Of([]int{a.From})) {
			to = to.With(a.To)
		}
	}
	return to
}

// leaks tells of the whereabouts of a list whether it leaks.
func leaks(m, s api.Machine, pairs map[point]int) bool {
	secret, open := 0, 0
	for p := range pairs {
		switch {
		case !slices.Contains(m.Ends, p.state):
		case p.set.Meets(machine.Of(s.Ends)):
			secret++
		default:
			open++
		}
	}
	return secret > 0 && open == 0
}

// key is whereabouts as one value: of each state the rows, as bits.
type key [api.MaxPlant]uint16

func keyOf(pairs map[point]int) key {
	var k key
	for p := range pairs {
		k[p.state] |= 1 << p.set[0]
	}
	return k
}

// found is the least list with some whereabouts, and whether it leaks.
type found struct {
	list  []int
	leaks bool
}

// whereabouts answers of all different whereabouts the least list, lesser ones
// first, or some more than MaxSets. Each is found from its list alone, anew.
func whereabouts(m, s api.Machine, seen []int) []found {
	var out []found
	known := map[key]int{}
	add := func(list []int) {
		pairs := pairsOfList(m, s, seen, list)
		k := keyOf(pairs)
		if known[k]++; known[k] == 1 {
			out = append(out, found{list, leaks(m, s, pairs)})
		}
	}
	add([]int{})
	for at := 0; at < len(out) && len(out) <= api.MaxSets; at++ {
		for _, event := range seen {
			add(append(slices.Clone(out[at].list), event))
		}
	}
	return out
}

// ofBits answers the row of the bits that a number has.
func ofBits(set int) []int {
	var l []int
	for n := range 63 {
		if set>>n&1 == 1 {
			l = append(l, n)
		}
	}
	return l
}

// mixed answers a number that hangs on n, its bits well mixed.
func mixed(n uint64) uint64 {
	n = (n + 1) * 0x9e3779b97f4a7c15
	n = (n ^ n>>29) * 0xbf58476d1ce4e5b9
	return n ^ n>>32
}

// some answers a machine of that many states and events that hangs on seed; of
// all arrows that it might have about one of each rare is there.
func some(states, events, rare int, seed uint64) api.Machine {
	bits := mixed(seed)
	m := api.Machine{States: states, Events: events, Starts: ofBits(int(bits & (1<<states - 1))), Ends: ofBits(int(bits >> 8 & (1<<states - 1)))}
	for at := range states * events * states {
		if mixed(bits+uint64(at))%uint64(rare) == 0 {
			m.Arrows = append(m.Arrows, api.Arrow{From: at / states / events, Event: at / states % events, To: at % states})
		}
	}
	if len(m.Starts) == 0 && bits>>20&7 != 0 {
		m.Starts = []int{0}
	}
	return m
}

// machines goes through machines of up to so many states and events, secrets of
// up to so many states, and rows of events.
func machines(t *testing.T, most uint64, states, ofSecret, events int, yield func(m, s api.Machine, seen []int)) {
	t.Helper()
	for seed := range most {
		bits := int(mixed(seed) >> 5 & 0xfffffff)
		m := some(1+bits%states, bits>>4%(events+1), 2+bits>>8%5, 17*seed)
		s := some(1+bits>>11%ofSecret, m.Events, 1+bits>>13%5, 17*seed+1)
		if bits>>26&1 == 0 { // with one start, and one end, lists are longer
			m.Starts, m.Ends = []int{0}, []int{m.States - 1}
		}
		if !machine.May(m) || !machine.May(s) {
			t.Fatal("the test is wrong: ", m, s)
		}
		yield(m, s, ofBits(bits>>16&(1<<m.Events-1)))
	}
}

// words answers all lists of those numbers with at most so many of them, lesser
// ones first.
func words(of []int, most int) [][]int {
	all := [][]int{{}}
	for at := 0; at < len(all) && len(all[at]) < most; at++ {
		for _, n := range of {
			all = append(all, append(slices.Clone(all[at]), n))
		}
	}
	return all
}

// L1, L2: against all words of the machine of up to 7 events. With up to 2 states
// of it, and 1 of the secret, there are at most 4 pairs: so at most 3 unseen
// events are needed ahead of a seen one and behind it.
func TestAllWords(t *testing.T) {
	type sides struct{ secret, open int }
	leak, told, none := 0, 0, 0
	machines(t, 3000, 2, 1, 2, func(m, s api.Machine, seen []int) {
		of, itself := map[[1]int]sides{}, map[[1]int]int{}
		for _, word := range words(count(m.Events), 7) {
			list := hide.Seen(word, seen)
			if len(list) > 1 {
				continue
			}
			is, _ := machine.Accepts(m, word)
			if !is {
				continue
			}
			k := [1]int{-1}
			copy(k[:], list)
			at := of[k]
			if is, _ := machine.Accepts(s, word); is {
				at.secret++
			} else {
				at.open++
			}
			of[k] = at
			if len(word) == len(list) {
				itself[k]++
			}
		}
		lists := words(seen, 1)
		if at := slices.IndexFunc(lists, func(list []int) bool {
			k := [1]int{-1}
			copy(k[:], list)
			return of[k].secret > 0 && of[k].open == 0
		}); at >= 0 {
			leak++
			checkLeak(t, "all words", m, s, seen, lists[at])
		} else if is, list, e := Leak(m, s, seen); e != api.OK || is && len(list) < 2 {
			t.Errorf("Leak(%v, %v, %v): %v, %v, %d", m, s, seen, is, list, e)
		} else {
			none++
		}
		high, _ := row.Less(count(m.Events), seen)
		if at := slices.IndexFunc(lists, func(list []int) bool {
			k := [1]int{-1}
			copy(k[:], list)
			return of[k] != sides{} && itself[k] == 0
		}); at >= 0 {
			told++
			checkTold(t, "all words", m, high, lists[at])
		} else if is, list, e := Told(m, high); e != api.OK || is && len(list) < 2 {
			t.Errorf("Told(%v, %v): %v, %v, %d", m, high, is, list, e)
		}
	})
	if leak < 100 || told < 50 || none < 300 {
		t.Error("the test is wrong: ", leak, told, none)
	}
}

// L1: against the whereabouts of each list by itself, of machines as great as may
// be: the least list, none, or too many.
func TestPlainLeak(t *testing.T) {
	none, empty, short, long, many := 0, 0, 0, 0, 0
	machines(t, 4000, api.MaxPlant, 4, 5, func(m, s api.Machine, seen []int) {
		all := whereabouts(m, s, seen)
		if len(all) > api.MaxSets {
			many++
			leakRefused(t, "too many", m, s, seen, api.ErrSize)
			return
		}
		at := slices.IndexFunc(all, func(f found) bool { return f.leaks })
		if at < 0 {
			none++
			checkLeak(t, "none", m, s, seen, nil)
			return
		}
		checkLeak(t, "the least one", m, s, seen, all[at].list)
		switch len(all[at].list) {
		case 0:
			empty++
		case 1:
			short++
		default:
			long++
		}
	})
	if none < 500 || empty < 200 || short < 100 || long < 30 {
		t.Error("the test is wrong: ", none, empty, short, long, many)
	}
}

// L1: with few arrows, and much that is seen, there are more whereabouts.
func TestPlainMany(t *testing.T) {
	fits, many, most := 0, 0, 0
	for seed := range uint64(80) {
		bits := int(mixed(seed) >> 7 & 0xfffff)
		m := some(6, 4+bits%4, 5+bits>>4%3, 3*seed)
		s := some(4, m.Events, 2+bits>>8%3, 3*seed+1)
		seen := count(m.Events - 1)
		m.Starts, m.Ends = []int{0}, []int{5}
		all := whereabouts(m, s, seen)
		at := slices.IndexFunc(all, func(f found) bool { return f.leaks })
		switch {
		case len(all) > api.MaxSets:
			many++
			leakRefused(t, "too many", m, s, seen, api.ErrSize)
		case at < 0:
			fits++
			checkLeak(t, "none", m, s, seen, nil)
		default:
			fits++
			checkLeak(t, "the least one", m, s, seen, all[at].list)
		}
		if len(all) <= api.MaxSets {
			most = max(most, len(all))
		}
	}
	if fits < 50 || many < 20 || most < 180 {
		t.Error("the test is wrong: ", fits, many, most)
	}
}

// L1: against all short lists: the first one that leaks, or none of them.
func TestShortLists(t *testing.T) {
	const longest = 4
	none, leak := 0, 0
	machines(t, 8000, 4, 3, 3, func(m, s api.Machine, seen []int) {
		lists := words(seen, longest)
		at := slices.IndexFunc(lists, func(list []int) bool { return leaks(m, s, pairsOfList(m, s, seen, list)) })
		if at >= 0 {
			leak++
			checkLeak(t, "short lists", m, s, seen, lists[at])
			return
		}
		none++
		if is, list, e := Leak(m, s, seen); e != api.OK || is && len(list) <= longest {
			t.Errorf("Leak(%v, %v, %v): %v, %v, %d", m, s, seen, is, list, e)
		}
	})
	if none < 200 || leak < 200 {
		t.Error("the test is wrong: ", none, leak)
	}
}

// L1: by the machines of the layers above: what is seen of the secret words, and
// what is seen of the open ones; and a set for each whereabouts.
func TestByOtherLayers(t *testing.T) {
	none, leak := 0, 0
	machines(t, 10000, 4, 3, 3, func(m, s api.Machine, seen []int) {
		one, _, e := determine.Make(s)
		if e != api.OK {
			t.Fatal(s, e)
		}
		events := count(m.Events)
		seenOf := func(s api.Machine) api.Machine {
			both, _, e := beside.Beside(m, s, events, events)
			if e != api.OK {
				t.Fatal(m, s, e)
			}
			n, e := hide.Hide(both, seen)
			if e != api.OK {
				t.Fatal(both, seen, e)
			}
			return n
		}
		other := one
		other.Ends, _ = row.Less(count(one.States), one.Ends)
		secret, open := seenOf(one), seenOf(other)
		// they have the same states and arrows: so their sets are numbered alike
		if _, sets, e := determine.Make(secret); e != api.OK || len(sets) > api.MaxSets {
			leakRefused(t, "too many", m, s, seen, api.ErrSize)
			return
		}
		is, list, e := Leak(m, s, seen)
		if e != api.OK {
			t.Fatalf("Leak(%v, %v, %v): %d", m, s, seen, e)
		}
		renumbered := func(list []int) []int {
			var out []int
			for _, n := range list {
				out = append(out, slices.Index(seen, n))
			}
			return out
		}
		leaks := func(list []int) bool {
			ofSecret, _ := machine.Accepts(secret, renumbered(list))
			ofOpen, _ := machine.Accepts(open, renumbered(list))
			return ofSecret && !ofOpen
		}
		if is && !leaks(list) {
			t.Errorf("Leak(%v, %v, %v): %v, which does not leak", m, s, seen, list)
		}
		for _, lesser := range words(seen, min(4, len(list)+5*boolean(!is))) {
			if is && slices.Equal(lesser, list) {
				break
			}
			if leaks(lesser) {
				t.Errorf("Leak(%v, %v, %v): %v, %v; but %v", m, s, seen, is, list, lesser)
			}
		}
		none += boolean(!is)
		leak += boolean(is)
	})
	if none < 300 || leak < 300 {
		t.Error("the test is wrong: ", none, leak)
	}
}

// boolean answers 1 of true, and 0 of false.
func boolean(is bool) int {
	if is {
		return 1
	}
	return 0
}

// L1: who sees more knows more: what leaks with fewer seen events leaks with more.
func TestMoreSeen(t *testing.T) {
	more := 0
	machines(t, 6000, api.MaxPlant, 4, 4, func(m, s api.Machine, seen []int) {
		before, _, e := Leak(m, s, seen)
		for event := range m.Events {
			wider, _ := row.Join(seen, []int{event})
			is, list, later := Leak(m, s, wider)
			if e == api.OK && before && later == api.OK && !is {
				t.Errorf("Leak(%v, ..): true of %v, %v of %v", m, seen, is, wider)
			}
			if e == api.OK && !before && is && len(list) > 0 {
				more++
			}
		}
	})
	if more < 100 {
		t.Error("the test is wrong: ", more)
	}
}

// L1: what leaks hangs on the languages alone.
func TestSameLanguage(t *testing.T) {
	other := 0
	machines(t, 8000, 4, 3, 3, func(m, s api.Machine, seen []int) {
		is, list, e := Leak(m, s, seen)
		leastM, eM := least.Least(m)
		leastS, eS := least.Least(s)
		if e != api.OK || eM != api.OK || eS != api.OK {
			t.Fatal(m, s, seen, e, eM, eS)
		}
		if !is {
			list = nil
		} else if list == nil {
			list = []int{}
		}
		if leastM.States <= api.MaxPlant {
			other++
			checkLeak(t, "the least machine", leastM, s, seen, list)
		}
		if leastS.States <= most {
			other++
			checkLeak(t, "the least secret", m, leastS, seen, list)
		}
	})
	if other < 2000 {
		t.Error("the test is wrong: ", other)
	}
}

// L1, L2: that something high was done is told just where it leaks that a word
// has something high.
func TestToldByLeak(t *testing.T) {
	told := 0
	machines(t, 4000, api.MaxPlant, 4, 5, func(m, _ api.Machine, high []int) {
		low, _ := row.Less(count(m.Events), high)
		is, list, e := Told(m, high)
		leak, leakList, eLeak := Leak(m, with(m.Events, high...), low)
		if e != api.OK || eLeak == api.OK && (is != leak || !slices.Equal(list, leakList)) {
			t.Errorf("Told(%v, %v): %v, %v, %d; Leak: %v, %v, %d", m, high, is, list, e, leak, leakList, eLeak)
		}
		if eLeak != api.OK && eLeak != api.ErrSize {
			t.Errorf("Leak(%v, .., %v): %d", m, low, eLeak)
		}
		told += boolean(is && len(list) > 0)
	})
	if told < 100 {
		t.Error("the test is wrong: ", told)
	}
}

// plainTold answers what Told asks for, by estimates, list by list: nil, if there
// is no such list. Lists are gone through lesser ones first, each longer only by
// one that comes to what no lesser one did.
func plainTold(m api.Machine, high []int) []int {
	low, _ := row.Less(count(m.Events), high)
	p, ends := api.Plant{Machine: m, Seen: low}, machine.Of(m.Ends)
	known := map[[2]machine.Set]int{}
	for lists := [][]int{{}}; len(lists) > 0; lists = lists[1:] {
		list := lists[0]
		at, _ := current.Estimate(p, list)
		itself, _ := machine.After(m, m.Starts, list)
		sets := [2]machine.Set{machine.Of(at), machine.Of(itself)}
		if known[sets]++; known[sets] > 1 {
			continue
		}
		if sets[0].Meets(ends) && !sets[1].Meets(ends) {
			return list
		}
		for _, event := range low {
			lists = append(lists, append(slices.Clone(list), event))
		}
	}
	return nil
}

// L2: against estimates, of machines as great as may be.
func TestPlainTold(t *testing.T) {
	none, empty, short, long := 0, 0, 0, 0
	machines(t, 5000, api.MaxPlant, 1, api.MaxEvents, func(m, _ api.Machine, high []int) {
		want := plainTold(m, high)
		checkTold(t, "estimates", m, high, want)
		switch {
		case want == nil:
			none++
		case len(want) == 0:
			empty++
		case len(want) == 1:
			short++
		default:
			long++
		}
	})
	if none < 500 || empty < 300 || short < 300 || long < 100 {
		t.Error("the test is wrong: ", none, empty, short, long)
	}
}

// behind answers l with other numbers behind its length.
func behind(l []int) []int { return append(slices.Clone(l), 0, 1)[:len(l)] }

// untouched tells whether a list that behind made has all its numbers still.
func untouched(l, was []int) bool {
	return slices.Equal(l[:len(was)+2], append(slices.Clone(was), 0, 1))
}

// overwrite changes all memory of a list that was answered.
func overwrite(l []int) {
	whole := l[:cap(l)]
	for i := range whole {
		whole[i] = 500
	}
}

// P3: what is handed in stays as it is and is not shared, and what lies behind a
// list's length is not read.
func TestMemory(t *testing.T) {
	arrows := []api.Arrow{{From: 0, Event: 0, To: 1}, {From: 1, Event: 1, To: 1}, {From: 1, Event: 2, To: 0}, {From: 99}}
	was := slices.Clone(arrows)
	starts, ends, all := behind([]int{0}), behind([]int{1}), behind([]int{0, 1})
	seen, high := behind([]int{1}), behind([]int{0})
	m := api.Machine{States: 2, Events: 3, Starts: starts, Arrows: arrows[:2], Ends: all}
	s := api.Machine{States: 2, Events: 3, Starts: starts, Arrows: arrows[:2], Ends: ends}
	for range 2 {
		is, list, e := Leak(m, s, seen)
		if e != api.OK || !is || !slices.Equal(list, []int{1}) {
			t.Fatal(is, list, e)
		}
		overwrite(list)
		is, list, e = Told(m, high)
		if e != api.OK || !is || !slices.Equal(list, []int{1}) {
			t.Fatal(is, list, e)
		}
		overwrite(list)
		for l, want := range map[*[]int][]int{&starts: {0}, &ends: {1}, &all: {0, 1}, &seen: {1}, &high: {0}} {
			if !untouched(*l, want) {
				t.Error("what was handed in is changed or shared: ", *l, want)
			}
		}
		if !slices.Equal(arrows, was) {
			t.Error("the arrows are changed: ", arrows)
		}
	}
}
