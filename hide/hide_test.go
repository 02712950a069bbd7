package hide

import (
	"math"
	"slices"
	"testing"

	"jalousie/api"
	"jalousie/machine"
)

// count answers the row of the numbers below n.
func count(n int) []int {
	var l []int
	for i := range n {
		l = append(l, i)
	}
	return l
}

func same(a, b api.Machine) bool {
	return a.States == b.States && a.Events == b.Events && slices.Equal(a.Starts, b.Starts) &&
		slices.Equal(a.Arrows, b.Arrows) && slices.Equal(a.Ends, b.Ends)
}

func check(t *testing.T, m api.Machine, seen []int, want api.Machine) {
	t.Helper()
	n, e := Hide(m, seen)
	if e != api.OK || !same(n, want) {
		t.Errorf("Hide(%v, %v): %v, %d; asked for: %v", m, seen, n, e, want)
	}
	if e == api.OK && !machine.May(n) {
		t.Errorf("Hide(%v, %v): %v may not be", m, seen, n)
	}
}

// E1: of any numbers, in whatever order both lists have them.
func TestSeen(t *testing.T) {
	for _, c := range []struct{ word, seen, want []int }{
		{[]int{1, 0, 1}, []int{1}, []int{1, 1}},
		{[]int{1, 0, 1}, []int{0}, []int{0}},
		{[]int{1, 0, 1}, []int{0, 1}, []int{1, 0, 1}},
		{[]int{1, 0, 1}, nil, nil},
		{[]int{1, 0, 1}, []int{2}, nil},
		{nil, []int{0, 1}, nil},
		{nil, nil, nil},
		{[]int{}, []int{}, nil},
		{[]int{7, 3, 5, 3, 0, 7, 2}, []int{3, 7}, []int{7, 3, 3, 7}},
		{[]int{7, 3, 5, 3, 0, 7, 2}, []int{7, 0, 3}, []int{7, 3, 3, 0, 7}},
		{[]int{7, 3, 5, 3, 0, 7, 2}, []int{2, 2, 7, 7, 2}, []int{7, 7, 2}},
		{[]int{-1, math.MaxInt, 4, math.MinInt}, []int{math.MaxInt, -1, math.MinInt}, []int{-1, math.MaxInt, math.MinInt}},
		{[]int{9, 100, 9}, []int{9}, []int{9, 9}},
	} {
		if l := Seen(c.word, c.seen); !slices.Equal(l, c.want) {
			t.Errorf("Seen(%v, %v): %v; asked for: %v", c.word, c.seen, l, c.want)
		}
	}
}

// E1, P1: long lists.
func TestLongSeen(t *testing.T) {
	const most = 1 << 20
	var word, falling []int
	for n := range most {
		word = append(word, n)
		falling = append(falling, 2*(most-n))
	}
	l := Seen(word, falling)
	if len(l) != most/2-1 || l[0] != 2 || !slices.IsSorted(l) || l[len(l)-1] != most-2 {
		t.Error(len(l))
	}
}

// E2: a way goes by unseen arrows ahead of the seen one and behind it; Ends
// stay as they are.
func TestHide(t *testing.T) {
	m := api.Machine{States: 6, Events: 3, Starts: []int{0}, Arrows: []api.Arrow{
		{From: 0, Event: 1, To: 1}, {From: 1, Event: 1, To: 2}, {From: 2, Event: 2, To: 3},
		{From: 3, Event: 1, To: 4}, {From: 4, Event: 0, To: 5}, {From: 5, Event: 1, To: 0},
	}, Ends: []int{2, 5}}
	check(t, m, []int{0, 2}, api.Machine{States: 6, Events: 2, Starts: []int{0, 1, 2}, Arrows: []api.Arrow{
		{From: 0, Event: 1, To: 3}, {From: 0, Event: 1, To: 4},
		{From: 1, Event: 1, To: 3}, {From: 1, Event: 1, To: 4},
		{From: 2, Event: 1, To: 3}, {From: 2, Event: 1, To: 4},
		{From: 3, Event: 0, To: 0}, {From: 3, Event: 0, To: 1}, {From: 3, Event: 0, To: 2}, {From: 3, Event: 0, To: 5},
		{From: 4, Event: 0, To: 0}, {From: 4, Event: 0, To: 1}, {From: 4, Event: 0, To: 2}, {From: 4, Event: 0, To: 5},
		{From: 5, Event: 1, To: 3}, {From: 5, Event: 1, To: 4},
	}, Ends: []int{2, 5}})
	check(t, m, []int{1}, api.Machine{States: 6, Events: 1, Starts: []int{0}, Arrows: []api.Arrow{
		{From: 0, To: 1},
		{From: 1, To: 2}, {From: 1, To: 3},
		{From: 2, To: 4}, {From: 2, To: 5},
		{From: 3, To: 4}, {From: 3, To: 5},
		{From: 4, To: 0},
		{From: 5, To: 0},
	}, Ends: []int{2, 5}})
}

// E2: where all is seen, the machine stays as it is; where nothing is, it has
// no events.
func TestAllAndNone(t *testing.T) {
	circle := api.Machine{States: 3, Events: 2, Starts: []int{1}, Arrows: []api.Arrow{
		{From: 0, Event: 0, To: 1}, {From: 1, Event: 0, To: 2}, {From: 2, Event: 1, To: 0},
	}, Ends: []int{0}}
	check(t, circle, []int{0, 1}, circle)
	check(t, circle, nil, api.Machine{States: 3, Starts: []int{0, 1, 2}, Ends: []int{0}})
	check(t, circle, []int{}, api.Machine{States: 3, Starts: []int{0, 1, 2}, Ends: []int{0}})
	check(t, api.Machine{States: 1}, nil, api.Machine{States: 1})
	check(t, api.Machine{States: 256, Events: 8, Ends: []int{255}}, count(8), api.Machine{States: 256, Events: 8, Ends: []int{255}})
	circle.Starts, circle.Ends = nil, nil
	check(t, circle, nil, api.Machine{States: 3})
}

// E2: what is wrong, and that nothing else is answered then.
func TestErrors(t *testing.T) {
	good := api.Machine{States: 2, Events: 2, Starts: []int{0}, Arrows: []api.Arrow{{From: 0, Event: 0, To: 1}}}
	great := clique(65)
	crowded := fullest()
	crowded.Arrows = slices.Insert(crowded.Arrows, 0, api.Arrow{})
	for _, c := range []struct {
		m    api.Machine
		seen []int
		want api.Errno
	}{
		{api.Machine{}, nil, api.ErrForm},
		{api.Machine{States: -1}, nil, api.ErrForm},
		{api.Machine{States: math.MinInt}, nil, api.ErrForm},
		{api.Machine{States: 257}, nil, api.ErrForm},
		{api.Machine{States: math.MaxInt, Events: 1}, []int{0}, api.ErrForm},
		{api.Machine{States: 1, Events: 9}, []int{8}, api.ErrForm},
		{api.Machine{States: 1, Events: -1}, nil, api.ErrForm},
		{api.Machine{States: 2, Starts: []int{2}}, nil, api.ErrForm},
		{api.Machine{States: 2, Starts: []int{1, 0}}, nil, api.ErrForm},
		{api.Machine{States: 2, Ends: []int{-1}}, nil, api.ErrForm},
		{api.Machine{States: 2, Ends: []int{1, 1}}, nil, api.ErrForm},
		{api.Machine{States: 2, Arrows: []api.Arrow{{}}}, nil, api.ErrForm},
		{api.Machine{States: 2, Events: 1, Arrows: []api.Arrow{{From: 1}, {From: 0}}}, []int{0}, api.ErrForm},
		{api.Machine{States: 2, Events: 1, Arrows: []api.Arrow{{To: 2}}}, nil, api.ErrForm},
		{api.Machine{States: 2, Events: 1, Arrows: []api.Arrow{{From: math.MaxInt}}}, nil, api.ErrForm},
		{crowded, []int{0}, api.ErrForm},
		{good, []int{2}, api.ErrForm},
		{good, []int{-1}, api.ErrForm},
		{good, []int{1, 0}, api.ErrForm},
		{good, []int{0, 0}, api.ErrForm},
		{good, []int{0, 1, 2}, api.ErrForm},
		{good, []int{math.MinInt, 0}, api.ErrForm},
		{good, []int{0, math.MaxInt}, api.ErrForm},
		{api.Machine{States: 1}, []int{0}, api.ErrForm},
		{great, []int{2}, api.ErrForm},
		{great, []int{1, 1}, api.ErrForm},
		{great, []int{1}, api.ErrSize},
	} {
		if n, e := Hide(c.m, c.seen); e != c.want || !same(n, api.Machine{}) {
			t.Errorf("Hide(%d states, %v): %v, %d; asked for: %d", c.m.States, c.seen, n, e, c.want)
		}
	}
}

// clique is a machine of as many states as may be, of which the first n stand
// in a circle of unseen arrows, at event 0; at event 1, state 0 leads to itself.
func clique(n int) api.Machine {
	m := api.Machine{States: 256, Events: 2, Starts: []int{0}, Ends: []int{n - 1}}
	m.Arrows = []api.Arrow{{From: 0, Event: 0, To: 1}, {From: 0, Event: 1, To: 0}}
	for from := 1; from < n; from++ {
		m.Arrows = append(m.Arrows, api.Arrow{From: from, To: (from + 1) % n})
	}
	return m
}

// E2: as many arrows as fit, and one more.
func TestMostArrows(t *testing.T) {
	m := clique(64)
	want := api.Machine{States: 256, Events: 1, Starts: count(64), Ends: []int{63}}
	for n := range 64 * 64 {
		want.Arrows = append(want.Arrows, api.Arrow{From: n / 64, To: n % 64})
	}
	check(t, m, []int{1}, want)
	m.Arrows = append(m.Arrows, api.Arrow{From: 70, Event: 1, To: 70})
	if n, e := Hide(m, []int{1}); e != api.ErrSize || !same(n, api.Machine{}) {
		t.Error("4097 arrows: ", len(n.Arrows), e)
	}
	check(t, m, nil, api.Machine{States: 256, Starts: count(64), Ends: []int{63}})
	check(t, m, []int{0, 1}, m)
}

// fullest is a machine with as many states, events and arrows as may be.
func fullest() api.Machine {
	m := api.Machine{States: api.MaxStates, Events: api.MaxEvents, Starts: []int{7}, Ends: count(256)}
	for n := range api.MaxStates {
		for event := range api.MaxEvents {
			to := []int{(n + 3*event + 1) % api.MaxStates, (n + 3*event + 100) % api.MaxStates}
			slices.Sort(to)
			m.Arrows = append(m.Arrows, api.Arrow{From: n, Event: event, To: to[0]}, api.Arrow{From: n, Event: event, To: to[1]})
		}
	}
	return m
}

// E2: the greatest machine; where it is all too great, that is found soon (P1).
func TestFullest(t *testing.T) {
	m := fullest()
	if !machine.May(m) || len(m.Arrows) != api.MaxArrows {
		t.Fatal("the test is wrong")
	}
	check(t, m, count(8), m)
	check(t, m, nil, api.Machine{States: 256, Starts: count(256), Ends: count(256)})
	for range 50 {
		if n, e := Hide(m, []int{0, 1, 2, 3, 4, 5, 6}); e != api.ErrSize || !same(n, api.Machine{}) {
			t.Fatal(len(n.Arrows), e)
		}
	}
}

// E2: long unseen ways are gone to their end, in whatever order the states are.
func TestChain(t *testing.T) {
	for _, step := range []int{1, 255, 77, 101} {
		at := func(n int) int { return n * step % 256 }
		m := api.Machine{States: 256, Events: 2, Starts: []int{at(3)}}
		for n := range 255 {
			m.Arrows = append(m.Arrows, api.Arrow{From: at(n), To: at(n + 1)})
		}
		m.Arrows = append(m.Arrows, api.Arrow{From: at(255), Event: 1, To: at(255)})
		slices.SortFunc(m.Arrows, func(a, b api.Arrow) int { return 2*(a.From-b.From) + a.Event - b.Event })
		want := api.Machine{States: 256, Events: 1}
		for n := 3; n < 256; n++ {
			want.Starts = append(want.Starts, at(n))
		}
		slices.Sort(want.Starts)
		for n := range 256 {
			want.Arrows = append(want.Arrows, api.Arrow{From: n, To: at(255)})
		}
		check(t, m, []int{1}, want)
	}
}

// ofBits answers the row of the bits that a number has.
func ofBits(set int) []int {
	var l []int
	for n := range 32 {
		if set>>n&1 == 1 {
			l = append(l, n)
		}
	}
	return l
}

// small answers a machine of that many states and events, by bits.
func small(states, events, arrows, starts, ends int) api.Machine {
	m := api.Machine{States: states, Events: events, Starts: ofBits(starts), Ends: ofBits(ends)}
	for _, n := range ofBits(arrows) {
		m.Arrows = append(m.Arrows, api.Arrow{From: n / states / events, Event: n / states % events, To: n % states})
	}
	return m
}

// smallOnes goes through machines of two states and two or three events, and of
// three states and two events, with all that may be seen of each.
func smallOnes(step int, yield func(m api.Machine, seen []int)) {
	for n := 0; n < 1<<18; n += step {
		mix := n * 2654435761 >> 7
		for _, c := range [][2]int{{2, 2}, {2, 3}, {3, 2}} {
			states, events := c[0], c[1]
			arrows := n & mix >> 9 & (1<<(states*states*events) - 1)
			if n%2 == 0 {
				arrows = n >> 1 & (1<<(states*states*events) - 1)
			}
			m := small(states, events, arrows, mix&(1<<states-1), mix>>3&(1<<states-1))
			for seen := range 1 << events {
				yield(m, ofBits(seen))
			}
		}
	}
}

// words answers all words of so many events with at most that many of them.
func words(events, most int) [][]int {
	all := [][]int{nil}
	for at := 0; at < len(all) && len(all[at]) < most; at++ {
		for event := range events {
			all = append(all, append(slices.Clone(all[at]), event))
		}
	}
	return all
}

// part answers what of word is of a row.
func part(word, of []int) []int {
	return slices.DeleteFunc(slices.Clone(word), func(event int) bool { return !slices.Contains(of, event) })
}

// plain answers what Hide asks for, as the document says it: all words are
// tried that pass through no state twice ahead of the seen event, or behind it.
func plain(m api.Machine, seen []int) api.Machine {
	out := api.Machine{States: m.States, Events: len(seen), Ends: m.Ends}
	starts := map[int]int{}
	arrows := map[api.Arrow]int{}
	for _, word := range words(m.Events, 2*m.States-1) {
		switch is := part(word, seen); len(is) {
		case 0:
			to, _ := machine.After(m, m.Starts, word)
			for _, n := range to {
				starts[n]++
			}
		case 1:
			for from := range m.States {
				to, _ := machine.After(m, []int{from}, word)
				for _, n := range to {
					arrows[api.Arrow{From: from, Event: slices.Index(seen, is[0]), To: n}]++
				}
			}
		}
	}
	for from := range m.States {
		if starts[from] > 0 {
			out.Starts = append(out.Starts, from)
		}
		for event := range seen {
			for to := range m.States {
				if a := (api.Arrow{From: from, Event: event, To: to}); arrows[a] > 0 {
					out.Arrows = append(out.Arrows, a)
				}
			}
		}
	}
	return out
}

// E2.
func TestSmallMachines(t *testing.T) {
	smallOnes(101, func(m api.Machine, seen []int) { check(t, m, seen, plain(m, seen)) })
}

// key tells a word by a number.
func key(word []int) int {
	k := 1
	for _, event := range word {
		k = 9*k + event
	}
	return k
}

// E3: all words of which so little is seen that they can be tried.
func TestLanguage(t *testing.T) {
	const most = 2
	yes, no := 0, 0
	smallOnes(1009, func(m api.Machine, seen []int) {
		n, e := Hide(m, seen)
		if e != api.OK {
			t.Fatal(e)
		}
		accepted := map[int]int{}
		for _, word := range words(m.Events, most+(most+1)*(m.States-1)) {
			if is, _ := machine.Accepts(m, word); is {
				var anew []int
				for _, event := range Seen(word, seen) {
					anew = append(anew, slices.Index(seen, event))
				}
				accepted[key(anew)]++
			}
		}
		for _, word := range words(len(seen), most) {
			is, e := machine.Accepts(n, word)
			if e != api.OK || is != (accepted[key(word)] > 0) {
				t.Errorf("Hide(%v, %v) accepts %v: %v, %d", m, seen, word, is, e)
			}
			if is {
				yes++
			} else {
				no++
			}
		}
	})
	if yes < 1000 || no < 1000 {
		t.Error("the test is wrong: ", yes, no)
	}
}

// behind answers l with other numbers behind its length.
func behind(l []int) []int { return append(slices.Clone(l), 0, 1)[:len(l)] }

// untouched tells whether a list that behind made has all its numbers still.
func untouched(l, was []int) bool {
	return slices.Equal(l[:len(was)+2], append(slices.Clone(was), 0, 1))
}

// scribble writes over all that a list has room for.
func scribble(l []int, n int) {
	l = l[:cap(l)]
	for i := range l {
		l[i] = n
	}
}

// P3: what is handed in stays as it is and is not shared, nor are any two lists
// of what is answered; what lies behind a list's length is not read.
func TestMemory(t *testing.T) {
	arrows := []api.Arrow{{From: 0, Event: 1, To: 1}, {From: 1, Event: 0, To: 0}, {From: 99}}
	m := api.Machine{States: 2, Events: 3, Starts: behind([]int{1}), Arrows: arrows[:2], Ends: behind([]int{1})}
	seen := behind([]int{1, 2})
	want := api.Machine{States: 2, Events: 2, Starts: []int{0, 1}, Arrows: []api.Arrow{
		{From: 0, Event: 0, To: 0}, {From: 0, Event: 0, To: 1}, {From: 1, Event: 0, To: 0}, {From: 1, Event: 0, To: 1},
	}, Ends: []int{1}}
	n, e := Hide(m, seen)
	if e != api.OK || !same(n, want) {
		t.Fatal(n, e)
	}
	scribble(n.Starts, 500)
	scribble(n.Ends, 501)
	for i := range n.Arrows[:cap(n.Arrows)] {
		n.Arrows[:cap(n.Arrows)][i] = api.Arrow{From: -1}
	}
	if n.Starts[0] != 500 || n.Ends[0] != 501 {
		t.Error("two lists share memory")
	}
	if !untouched(m.Starts, []int{1}) || !untouched(m.Ends, []int{1}) || !untouched(seen, []int{1, 2}) ||
		!slices.Equal(arrows, []api.Arrow{{From: 0, Event: 1, To: 1}, {From: 1, Event: 0, To: 0}, {From: 99}}) {
		t.Error("what was handed in is changed or shared")
	}
	if again, e := Hide(m, seen); e != api.OK || !same(again, want) {
		t.Error(again, e)
	}
}

// P3, of Seen.
func TestMemoryOfSeen(t *testing.T) {
	word, seen := behind([]int{3, 2, 3, 4}), behind([]int{4, 3, 2})
	l := Seen(word, seen)
	if !slices.Equal(l, []int{3, 2, 3, 4}) {
		t.Error(l)
	}
	scribble(l, 500)
	if !untouched(word, []int{3, 2, 3, 4}) || !untouched(seen, []int{4, 3, 2}) {
		t.Error("what was handed in is changed or shared: ", word, seen)
	}
	if l := Seen([]int{0, 1, 2}, seen); !slices.Equal(l, []int{2}) {
		t.Error("what lies behind a list is read: ", l)
	}
}
