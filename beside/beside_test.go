package beside

import (
	"math"
	"slices"
	"testing"

	"jalousie/api"
	"jalousie/machine"
)

// loops is a machine of one state with an arrow at each of the events.
func loops(of int, events ...int) api.Machine {
	m := api.Machine{States: 1, Events: of, Starts: []int{0}, Ends: []int{0}}
	for _, event := range events {
		m.Arrows = append(m.Arrows, api.Arrow{Event: event})
	}
	return m
}

// count answers the row of the numbers below n.
func count(n int) []int {
	var l []int
	for i := range n {
		l = append(l, i)
	}
	return l
}

func same(a, b api.Machine) bool {
	return a.States == b.States && a.Events == b.Events && slices.Equal(a.Starts, b.Starts) &&
		slices.Equal(a.Arrows, b.Arrows) && slices.Equal(a.Ends, b.Ends)
}

func samePairs(a, b [][]int) bool {
	return slices.EqualFunc(a, b, func(x, y []int) bool { return slices.Equal(x, y) })
}

// zero tells whether a machine and a list are those that are told with an error.
func zero(m api.Machine, l [][]int) bool {
	return same(m, api.Machine{}) && len(l) == 0
}

func check(t *testing.T, a, b api.Machine, ofA, ofB []int, want api.Machine, pairs [][]int) {
	t.Helper()
	m, l, e := Beside(a, b, ofA, ofB)
	if e != api.OK || !same(m, want) || !samePairs(l, pairs) {
		t.Errorf("Beside(%v, %v, %v, %v): %v, %v, %d; asked for: %v, %v", a, b, ofA, ofB, m, l, e, want, pairs)
	}
	if e == api.OK && !machine.May(m) {
		t.Errorf("Beside(%v, %v, %v, %v): %v may not be", a, b, ofA, ofB, m)
	}
}

// D1: who goes at an event: both, the one, the other one, nobody.
func TestWhoGoes(t *testing.T) {
	step := api.Machine{States: 2, Events: 1, Starts: []int{0}, Arrows: []api.Arrow{{From: 0, To: 1}}, Ends: []int{1}}
	one := []int{0}
	to := []api.Arrow{{From: 0, To: 1}}
	check(t, step, step, one, one, api.Machine{States: 2, Events: 1, Starts: one, Arrows: to, Ends: []int{1}}, [][]int{{0, 0}, {1, 1}})
	check(t, step, step, one, nil, api.Machine{States: 2, Events: 1, Starts: one, Arrows: to}, [][]int{{0, 0}, {1, 0}})
	check(t, step, step, nil, one, api.Machine{States: 2, Events: 1, Starts: one, Arrows: to}, [][]int{{0, 0}, {0, 1}})
	check(t, step, step, nil, nil, api.Machine{States: 1, Events: 1, Starts: one}, [][]int{{0, 0}})
	still := api.Machine{States: 2, Events: 1, Starts: one, Ends: one}
	check(t, step, still, one, one, api.Machine{States: 1, Events: 1, Starts: one}, [][]int{{0, 0}})
	check(t, still, step, one, one, api.Machine{States: 1, Events: 1, Starts: one}, [][]int{{0, 0}})
	check(t, step, still, one, nil, api.Machine{States: 2, Events: 1, Starts: one, Arrows: to, Ends: []int{1}}, [][]int{{0, 0}, {1, 0}})
}

// D1, D2: the chapter's example, and machines of one state beside each other.
func TestLoops(t *testing.T) {
	for _, c := range []struct {
		a, b               api.Machine
		ofA, ofB, together []int
	}{
		{loops(2, 0), loops(2, 1), []int{0}, []int{1}, []int{0, 1}},
		{loops(2, 0), loops(2, 1), []int{0, 1}, []int{1}, []int{0}},
		{loops(2, 0), loops(2, 1), []int{0, 1}, []int{0, 1}, nil},
		{loops(2, 0), loops(2, 1), []int{1}, []int{0}, nil},
		{loops(2, 0), loops(2, 1), nil, nil, nil},
		{loops(2, 0, 1), loops(2, 0, 1), []int{0}, []int{0, 1}, []int{0, 1}},
		{loops(8, 0, 3, 5, 7), loops(8, 0, 2, 5, 6), []int{0, 3, 5, 7}, []int{0, 1, 2, 6, 7}, []int{0, 2, 3, 5, 6}},
	} {
		check(t, c.a, c.b, c.ofA, c.ofB, loops(c.a.Events, c.together...), [][]int{{0, 0}})
	}
}

// D2: the pairs of starts first; then pair by pair, event by event, rising by
// a's state ahead of b's. Arrows lead back to what was found ahead, too.
func TestOrder(t *testing.T) {
	a := api.Machine{States: 3, Events: 2, Starts: []int{1, 2}, Arrows: []api.Arrow{
		{From: 0, Event: 0, To: 1}, {From: 1, Event: 1, To: 0}, {From: 1, Event: 1, To: 2}, {From: 2, Event: 0, To: 0},
	}, Ends: []int{0, 1}}
	b := api.Machine{States: 3, Events: 2, Starts: []int{0, 2}, Arrows: []api.Arrow{
		{From: 0, Event: 0, To: 0}, {From: 0, Event: 1, To: 1}, {From: 1, Event: 1, To: 0}, {From: 1, Event: 1, To: 2},
		{From: 2, Event: 1, To: 0},
	}, Ends: []int{1, 2}}
	pairs := [][]int{{1, 0}, {1, 2}, {2, 0}, {2, 2}, {0, 1}, {2, 1}, {0, 0}, {0, 2}, {1, 1}}
	check(t, a, b, []int{0, 1}, []int{1}, api.Machine{
		States: 9,
		Events: 2,
		Starts: []int{0, 1, 2, 3},
		Arrows: []api.Arrow{
			{From: 0, Event: 1, To: 4}, {From: 0, Event: 1, To: 5},
			{From: 1, Event: 1, To: 2}, {From: 1, Event: 1, To: 6},
			{From: 2, Event: 0, To: 6},
			{From: 3, Event: 0, To: 7},
			{From: 4, Event: 0, To: 8},
			{From: 5, Event: 0, To: 4},
			{From: 6, Event: 0, To: 0},
			{From: 7, Event: 0, To: 1},
			{From: 8, Event: 1, To: 2}, {From: 8, Event: 1, To: 3}, {From: 8, Event: 1, To: 6}, {From: 8, Event: 1, To: 7},
		},
		Ends: []int{1, 4, 7, 8},
	}, pairs)
}

// D2: where there is no pair, there is one state that is nothing.
func TestNone(t *testing.T) {
	none := loops(3, 0, 2)
	none.Starts = nil
	want := api.Machine{States: 1, Events: 3}
	check(t, none, loops(3, 0), []int{0, 2}, []int{0}, want, nil)
	check(t, loops(3, 0), none, []int{0}, []int{0, 1, 2}, want, nil)
	check(t, none, none, nil, nil, want, nil)
	check(t, api.Machine{States: 1}, api.Machine{States: 256}, nil, nil, api.Machine{States: 1}, nil)
}

// D1: what is wrong is told in the chapter's order.
func TestErrors(t *testing.T) {
	good, other, wrong := loops(2, 0, 1), loops(3, 0), api.Machine{}
	most := loops(2, 0, 1)
	most.States, most.Starts = 256, count(256)
	for _, c := range []struct {
		a, b     api.Machine
		ofA, ofB []int
		want     api.Errno
	}{
		{wrong, good, nil, nil, api.ErrForm},
		{good, wrong, nil, nil, api.ErrForm},
		{wrong, wrong, nil, nil, api.ErrForm},
		{wrong, other, []int{-1}, nil, api.ErrForm},
		{api.Machine{States: 257, Events: 2}, good, nil, nil, api.ErrForm},
		{good, api.Machine{States: 1, Events: 9}, nil, nil, api.ErrForm},
		{good, api.Machine{States: 1, Events: math.MinInt}, nil, nil, api.ErrForm},
		{good, other, nil, nil, api.ErrKind},
		{other, good, nil, nil, api.ErrKind},
		{other, good, []int{2}, nil, api.ErrKind},
		{good, other, []int{7}, []int{1, 0}, api.ErrKind},
		{most, api.Machine{States: 256, Starts: count(256)}, nil, nil, api.ErrKind},
		{good, good, []int{2}, nil, api.ErrForm},
		{good, good, nil, []int{2}, api.ErrForm},
		{good, good, []int{-1}, nil, api.ErrForm},
		{good, good, nil, []int{-1, 0}, api.ErrForm},
		{good, good, []int{1, 0}, nil, api.ErrForm},
		{good, good, nil, []int{0, 0}, api.ErrForm},
		{good, good, []int{0, math.MaxInt}, []int{0}, api.ErrForm},
		{good, good, []int{0}, []int{math.MinInt}, api.ErrForm},
		{most, most, []int{2}, nil, api.ErrForm},
		{most, most, nil, []int{0, 1, 2}, api.ErrForm},
		{most, most, nil, nil, api.ErrSize},
		{api.Machine{States: 1}, api.Machine{States: 1}, []int{0}, nil, api.ErrForm},
		{api.Machine{States: 1}, api.Machine{States: 1}, nil, []int{0}, api.ErrForm},
	} {
		if m, l, e := Beside(c.a, c.b, c.ofA, c.ofB); e != c.want || !zero(m, l) {
			t.Errorf("Beside(%v, %v, %v, %v): %v, %v, %d; asked for: %d", c.a, c.b, c.ofA, c.ofB, m, l, e, c.want)
		}
	}
}

// D1: as many pairs as fit, and one more: among the starts, and behind them.
func TestMostPairs(t *testing.T) {
	a := api.Machine{States: 256, Events: 1, Starts: count(256), Arrows: []api.Arrow{{From: 255, To: 3}}}
	b := api.Machine{States: 2, Events: 1, Starts: []int{0}, Arrows: []api.Arrow{{From: 0, To: 0}}, Ends: []int{0}}
	var pairs [][]int
	for n := range 256 {
		pairs = append(pairs, []int{n, 0})
	}
	check(t, a, b, []int{0}, []int{0}, api.Machine{States: 256, Events: 1, Starts: count(256), Arrows: a.Arrows}, pairs)
	b.Arrows[0].To = 1
	if m, l, e := Beside(a, b, []int{0}, []int{0}); e != api.ErrSize || !zero(m, l) {
		t.Error("257 pairs: ", m.States, len(l), e)
	}
	a = api.Machine{States: 16, Starts: count(16)}
	if m, l, e := Beside(a, a, nil, nil); e != api.OK || m.States != 256 || len(m.Starts) != 256 || len(l) != 256 || !slices.Equal(l[18], []int{1, 2}) {
		t.Error("256 pairs of starts: ", m, l, e)
	}
	b = api.Machine{States: 17, Starts: count(17)}
	if m, l, e := Beside(a, b, nil, nil); e != api.ErrSize || !zero(m, l) {
		t.Error("272 pairs of starts: ", m.States, len(l), e)
	}
}

// D1: as many arrows as fit, and one more.
func TestMostArrows(t *testing.T) {
	b := api.Machine{States: 241, Events: 8, Starts: count(241), Ends: count(241)}
	for n := range 241 {
		for k := range 16 {
			b.Arrows = append(b.Arrows, api.Arrow{From: n, Event: 1 + k%7, To: (n + k) % 241})
		}
	}
	slices.SortFunc(b.Arrows, func(x, y api.Arrow) int { return (x.From-y.From)*1e6 + (x.Event-y.Event)*1e3 + x.To - y.To })
	ofB := []int{1, 2, 3, 4, 5, 6, 7}
	if m, l, e := Beside(loops(8, 0), b, []int{0}, ofB); e != api.ErrSize || !zero(m, l) {
		t.Error("4097 arrows: ", len(m.Arrows), len(l), e)
	}
	if m, _, e := Beside(loops(8, 0), b, nil, ofB); e != api.OK || !same(m, b) {
		t.Error("3856 arrows: ", len(m.Arrows), e)
	}
	b.Arrows = b.Arrows[:len(b.Arrows)-1]
	if m, l, e := Beside(loops(8, 0), b, []int{0}, ofB); e != api.OK || len(m.Arrows) != api.MaxArrows || len(l) != 241 || !machine.May(m) {
		t.Error("4096 arrows: ", len(m.Arrows), len(l), e)
	}
}

// P1: what grows beyond all bounds is left soon.
func TestTooGreat(t *testing.T) {
	m := api.Machine{States: 256, Events: 8, Starts: []int{0}}
	for from := range 2 {
		for event := range 8 {
			for to := range 256 {
				m.Arrows = append(m.Arrows, api.Arrow{From: from, Event: event, To: to})
			}
		}
	}
	for range 100 {
		if n, l, e := Beside(m, m, count(8), count(8)); e != api.ErrSize || !zero(n, l) {
			t.Fatal(n.States, len(l), e)
		}
	}
}

// ofBits answers the row of the bits that a number has.
func ofBits(set int) []int {
	var l []int
	for n := range 8 {
		if set>>n&1 == 1 {
			l = append(l, n)
		}
	}
	return l
}

// small answers a machine of two states and two events.
func small(arrows, starts, ends int) api.Machine {
	m := api.Machine{States: 2, Events: 2, Starts: ofBits(starts), Ends: ofBits(ends)}
	for _, n := range ofBits(arrows) {
		m.Arrows = append(m.Arrows, api.Arrow{From: n >> 2, Event: n >> 1 & 1, To: n & 1})
	}
	return m
}

// goes tells whether a machine may go from a state to another one at an event,
// or may stay there because it takes no part.
func goes(m api.Machine, of []int, from, event, to int) bool {
	if !slices.Contains(of, event) {
		return from == to
	}
	return slices.Contains(m.Arrows, api.Arrow{From: from, Event: event, To: to})
}

// plain answers what Beside asks for, as the document says it: all pairs are
// tried at each step.
func plain(a, b api.Machine, ofA, ofB []int) (api.Machine, [][]int) {
	var pairs [][]int
	find := func(x, y int) int {
		at := slices.IndexFunc(pairs, func(p []int) bool { return p[0] == x && p[1] == y })
		if at < 0 {
			at = len(pairs)
			pairs = append(pairs, []int{x, y})
		}
		return at
	}
	m := api.Machine{Events: a.Events}
	for _, x := range a.Starts {
		for _, y := range b.Starts {
			m.Starts = append(m.Starts, find(x, y))
		}
	}
	for from := 0; from < len(pairs); from++ {
		for event := range a.Events {
			var to []int
			for n := range a.States * b.States {
				x, y := n/b.States, n%b.States
				takes := slices.Contains(ofA, event) || slices.Contains(ofB, event)
				if takes && goes(a, ofA, pairs[from][0], event, x) && goes(b, ofB, pairs[from][1], event, y) {
					to = append(to, find(x, y))
				}
			}
			slices.Sort(to)
			for _, n := range to {
				m.Arrows = append(m.Arrows, api.Arrow{From: from, Event: event, To: n})
			}
		}
	}
	for n, p := range pairs {
		if slices.Contains(a.Ends, p[0]) && slices.Contains(b.Ends, p[1]) {
			m.Ends = append(m.Ends, n)
		}
	}
	m.States = max(1, len(pairs))
	return m, pairs
}

// smallOnes goes through machines of two states and two events beside one
// another: all arrows of the one, many of the other one, all parts that they take.
func smallOnes(step int, yield func(a, b api.Machine, ofA, ofB []int)) {
	for n := 0; n < 256*256*16; n += step {
		mix := n / 16 * 2654435761 >> 7
		a := small(n>>12, mix&3|mix>>2&1, mix>>3&3)
		b := small(n>>4&255, mix>>5&3|mix>>7&2, mix>>8&3)
		yield(a, b, ofBits(n&3), ofBits(n>>2&3))
	}
}

// D1, D2.
func TestSmallMachines(t *testing.T) {
	smallOnes(7, func(a, b api.Machine, ofA, ofB []int) {
		want, pairs := plain(a, b, ofA, ofB)
		check(t, a, b, ofA, ofB, want, pairs)
	})
}

// words answers all words of two events with at most that many of them.
func words(most int) [][]int {
	all := [][]int{nil}
	for at := 0; len(all[at]) < most; at++ {
		all = append(all, append(slices.Clone(all[at]), 0), append(slices.Clone(all[at]), 1))
	}
	return all
}

// part answers what of word is of a row.
func part(word, of []int) []int {
	return slices.DeleteFunc(slices.Clone(word), func(event int) bool { return !slices.Contains(of, event) })
}

// D3.
func TestLanguage(t *testing.T) {
	yes, no := 0, 0
	smallOnes(211, func(a, b api.Machine, ofA, ofB []int) {
		m, _, e := Beside(a, b, ofA, ofB)
		if e != api.OK {
			t.Fatal(e)
		}
		for _, word := range words(5) {
			byA, _ := machine.Accepts(a, part(word, ofA))
			byB, _ := machine.Accepts(b, part(word, ofB))
			of := slices.Concat(ofA, ofB)
			want := byA && byB && len(part(word, of)) == len(word)
			is, e := machine.Accepts(m, word)
			if e != api.OK || is != want {
				t.Errorf("Beside(%v, %v, %v, %v) accepts %v: %v, %d", a, b, ofA, ofB, word, is, e)
			}
			if want {
				yes++
			} else {
				no++
			}
		}
	})
	if yes < 10000 || no < 10000 {
		t.Error("the test is wrong: ", yes, no)
	}
}

// D3: of machines with a word or two of their own, by hand.
func TestShuffle(t *testing.T) {
	a := api.Machine{States: 3, Events: 4, Starts: []int{0}, Arrows: []api.Arrow{{From: 0, Event: 0, To: 1}, {From: 1, Event: 2, To: 2}, {From: 2, Event: 3, To: 2}}, Ends: []int{2}}
	b := api.Machine{States: 3, Events: 4, Starts: []int{0}, Arrows: []api.Arrow{{From: 0, Event: 1, To: 1}, {From: 1, Event: 2, To: 2}, {From: 2, Event: 3, To: 2}}, Ends: []int{2}}
	m, _, e := Beside(a, b, []int{0, 2}, []int{1, 2})
	if e != api.OK {
		t.Fatal(e)
	}
	for _, c := range []struct {
		word []int
		want bool
	}{
		{[]int{0, 1, 2}, true},
		{[]int{1, 0, 2}, true},
		{[]int{0, 2, 1}, false},
		{[]int{0, 2}, false},
		{[]int{1, 2}, false},
		{[]int{0, 1, 2, 2}, false},
		{[]int{0, 1, 2, 3}, false},
		{[]int{0, 1}, false},
		{nil, false},
	} {
		if is, e := machine.Accepts(m, c.word); e != api.OK || is != c.want {
			t.Errorf("%v: %v, %d", c.word, is, e)
		}
	}
}

// behind answers l with other numbers behind its length.
func behind(l []int) []int { return append(slices.Clone(l), -9, 77)[:len(l)] }

// untouched tells whether a list that behind made has all its numbers still.
func untouched(l, was []int) bool {
	return slices.Equal(l[:len(was)+2], append(slices.Clone(was), -9, 77))
}

// scribble writes over all that a list has room for.
func scribble(l []int, n int) {
	l = l[:cap(l)]
	for i := range l {
		l[i] = n
	}
}

// P3: what is handed in stays as it is and is not shared, nor are any two lists
// of what is answered.
func TestMemory(t *testing.T) {
	arrows := []api.Arrow{{From: 0, Event: 0, To: 1}, {From: 1, Event: 1, To: 0}, {From: 99}}
	m := api.Machine{States: 2, Events: 2, Starts: behind([]int{0, 1}), Arrows: arrows[:2], Ends: behind([]int{0, 1})}
	of := behind([]int{0, 1})
	n, l, e := Beside(m, m, of, of)
	if e != api.OK || len(l) != 4 || len(n.Starts) != 4 || len(n.Ends) != 4 || len(n.Arrows) != 2 {
		t.Fatal(n, l, e)
	}
	lists := append(slices.Clone(l), n.Starts, n.Ends)
	for i, list := range lists {
		scribble(list, i+500)
	}
	for i := range n.Arrows[:cap(n.Arrows)] {
		n.Arrows[:cap(n.Arrows)][i] = api.Arrow{From: -1}
	}
	for i, list := range lists {
		if slices.ContainsFunc(list[:cap(list)], func(n int) bool { return n != i+500 }) {
			t.Error("two lists share memory: ", i, list)
		}
	}
	if !untouched(m.Starts, []int{0, 1}) || !untouched(m.Ends, []int{0, 1}) || !untouched(of, []int{0, 1}) ||
		!slices.Equal(arrows, []api.Arrow{{From: 0, Event: 0, To: 1}, {From: 1, Event: 1, To: 0}, {From: 99}}) {
		t.Error("what was handed in is changed or shared")
	}
}
