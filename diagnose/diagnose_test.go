package diagnose

import (
	"math"
	"slices"
	"testing"

	"jalousie/api"
	"jalousie/beside"
	"jalousie/current"
	"jalousie/hide"
	"jalousie/machine"
	"jalousie/reach"
	"jalousie/row"
)

// count answers the row of the numbers below n.
func count(n int) []int {
	var l []int
	for i := range n {
		l = append(l, i)
	}
	return l
}

// ofArrows is a machine of that many states and events with the start 0, and the
// arrows whose three numbers are told one behind another.
func ofArrows(states, events int, numbers ...int) api.Machine {
	m := api.Machine{States: states, Events: events, Starts: []int{0}}
	for three := range slices.Chunk(numbers, 3) {
		m.Arrows = append(m.Arrows, api.Arrow{From: three[0], Event: three[1], To: three[2]})
	}
	return m
}

func check(t *testing.T, name string, m api.Machine, seen, faults []int, want int) {
	t.Helper()
	if d, e := Delay(m, seen, faults); d != want || e != api.OK {
		t.Errorf("%s: Delay(%v, %v, %v): %d, %d; asked for: %d", name, m, seen, faults, d, e, want)
	}
}

// refused asks that Delay tells what is wrong, and nothing else.
func refused(t *testing.T, name string, m api.Machine, seen, faults []int, want api.Errno) {
	t.Helper()
	if d, e := Delay(m, seen, faults); d != 0 || e != want {
		t.Errorf("%s: Delay(%v, %v, %v): %d, %d; asked for: %d", name, m, seen, faults, d, e, want)
	}
}

// wrong are machines that may not be.
func wrong() map[string]api.Machine {
	return map[string]api.Machine{
		"nothing":         {},
		"less than none":  {States: -1, Events: 2},
		"least number":    {States: math.MinInt, Events: math.MinInt},
		"greatest number": {States: math.MaxInt, Events: math.MaxInt},
		"257 states":      {States: 257, Events: 2},
		"9 events":        {States: 1, Events: 9},
		"-1 events":       {States: 1, Events: -1},
		"start beyond":    {States: 1, Events: 2, Starts: []int{1}},
		"starts no row":   {States: 2, Events: 2, Starts: []int{1, 0}},
		"end twice":       {States: 2, Events: 2, Ends: []int{1, 1}},
		"end below":       {States: 2, Events: 2, Ends: []int{-1}},
		"end beyond":      {States: 2, Events: 2, Ends: []int{2}},
		"arrow to beyond": ofArrows(1, 2, 0, 0, 1),
		"arrow from none": ofArrows(1, 2, -1, 0, 0),
		"event beyond":    ofArrows(1, 2, 0, 2, 0),
		"event below":     ofArrows(1, 2, 0, -1, 0),
		"arrow twice":     ofArrows(1, 2, 0, 0, 0, 0, 0, 0),
		"arrows fall":     ofArrows(1, 2, 0, 1, 0, 0, 0, 0),
		"too great, too":  {States: 7, Events: 2, Ends: []int{7}},
	}
}

// noRows are lists that are no rows below 2.
func noRows() [][]int {
	return [][]int{{2}, {-1}, {0, 2}, {1, 0}, {0, 0}, {0, 1, 1}, {0, 1, 2}, {8}, {math.MaxInt}, {math.MinInt}, {0, api.MaxRow}}
}

// M2, P2: what is wrong, in the order in which it is named.
func TestErrors(t *testing.T) {
	rows := [][]int{nil, {}, {0}, {1}, {0, 1}}
	for name, m := range wrong() {
		for _, l := range append(noRows(), rows...) {
			refused(t, name, m, l, l, api.ErrForm)
			refused(t, name, m, l, nil, api.ErrForm)
			refused(t, name, m, nil, l, api.ErrForm)
		}
	}
	for _, states := range []int{1, 6, 7, 256} {
		m := ofArrows(states, 2, 0, 0, 0, 0, 1, 0)
		for _, no := range noRows() {
			for _, l := range append(noRows(), rows...) {
				refused(t, "seen is no row", m, no, l, api.ErrForm)
				refused(t, "faults is no row", m, l, no, api.ErrForm)
			}
		}
		for _, seen := range rows {
			switch {
			case states > api.MaxPlant:
				refused(t, "great", m, seen, []int{0}, api.ErrSize)
			case row.Has(seen, 0):
				check(t, "not too great", m, seen, []int{0}, 0)
			default:
				check(t, "not too great", m, seen, []int{0}, -1)
			}
		}
	}
	none := ofArrows(1, 0)
	refused(t, "seen of no events", none, []int{0}, nil, api.ErrForm)
	refused(t, "a fault of no events", none, nil, []int{0}, api.ErrForm)
	refused(t, "seen 8", ofArrows(1, 8), []int{8}, nil, api.ErrForm)
	refused(t, "fault 8", ofArrows(1, 8), nil, []int{8}, api.ErrForm)
	refused(t, "great, but for what is reached", ofArrows(7, 1), nil, nil, api.ErrSize)
	refused(t, "great, and nothing else", api.Machine{States: 7}, nil, nil, api.ErrSize)
}

// M2: where nothing is faulty, or all that is so is found at once.
func TestNone(t *testing.T) {
	check(t, "no events", ofArrows(1, 0), nil, nil, 0)
	check(t, "no starts", api.Machine{States: 1, Events: 1, Arrows: []api.Arrow{{}}}, nil, []int{0}, 0)
	check(t, "no arrows", ofArrows(6, 8), nil, count(8), 0)
	loop := ofArrows(1, 2, 0, 0, 0, 0, 1, 0)
	for _, seen := range [][]int{nil, {0}, {1}, {0, 1}} {
		check(t, "no faults", loop, seen, nil, 0)
	}
	check(t, "a fault that is seen", loop, []int{0}, []int{0}, 0)
	check(t, "all faults, all seen", loop, []int{0, 1}, []int{0, 1}, 0)
	check(t, "a fault that can't be come to", ofArrows(3, 2, 0, 1, 2, 1, 0, 1), []int{1}, []int{0}, 0)
	// what is unseen and a fault comes but behind a seen fault
	check(t, "found ahead", ofArrows(2, 2, 0, 0, 1, 1, 1, 1), []int{0}, []int{0, 1}, 0)
}

// M1, M2: by hand; event 0 is a fault that is not seen.
func TestDelay(t *testing.T) {
	fault := []int{0}
	check(t, "the example: a loop of a fault", ofArrows(1, 1, 0, 0, 0), nil, fault, -1)
	check(t, "a fault, and nothing else", ofArrows(2, 1, 0, 0, 1), nil, fault, 1)
	check(t, "faults behind the first one", ofArrows(4, 1, 0, 0, 1, 1, 0, 2, 2, 0, 3), nil, fault, 3)
	check(t, "others ahead of it", ofArrows(4, 2, 0, 1, 1, 1, 1, 2, 2, 0, 3), nil, fault, 1)
	check(t, "a seen one ahead of it", ofArrows(3, 2, 0, 1, 1, 1, 0, 2), []int{1}, fault, 1)
	check(t, "unseen ones behind it", ofArrows(4, 2, 0, 0, 1, 1, 1, 2, 2, 1, 3), nil, fault, 3)
	check(t, "a loop behind it", ofArrows(2, 2, 0, 0, 1, 1, 1, 1), nil, fault, -1)
	check(t, "a seen loop behind it", ofArrows(2, 2, 0, 0, 1, 1, 1, 1), []int{1}, fault, 1)
	check(t, "a seen loop there, and without it", ofArrows(2, 2, 0, 0, 1, 0, 1, 0, 1, 1, 1), []int{1}, fault, -1)
	check(t, "an unseen loop just ahead of it", ofArrows(2, 2, 0, 0, 1, 0, 1, 0), nil, fault, 1)
	check(t, "an unseen loop without it", ofArrows(3, 3, 0, 0, 1, 0, 1, 2, 1, 2, 1, 2, 1, 2), []int{2}, fault, 1)
	// without the fault one may see 2 once, or, behind two unseen events, twice
	late := ofArrows(6, 3, 0, 0, 5, 0, 1, 1, 0, 2, 4, 1, 1, 2, 2, 2, 3, 3, 2, 4, 5, 2, 5)
	check(t, "as often as without it", late, []int{2}, fault, 3)
	check(t, "more is seen", late, []int{1, 2}, fault, 2)
	check(t, "nothing is seen", late, nil, fault, -1)
	// seen faults tell all, behind unseen ones too
	check(t, "a seen one behind it", ofArrows(3, 2, 0, 0, 1, 1, 1, 2), []int{1}, []int{0, 1}, 1)
	check(t, "a seen one, that may come alone", ofArrows(3, 2, 0, 0, 1, 0, 1, 2, 1, 1, 2), []int{1}, []int{0, 1}, 1)
	check(t, "the same, no fault", ofArrows(3, 2, 0, 0, 1, 0, 1, 2, 1, 1, 2), []int{1}, []int{0}, 2)
	check(t, "all are faults", ofArrows(2, 2, 0, 0, 1, 0, 1, 0), nil, []int{0, 1}, -1)
	check(t, "all are faults, which end", ofArrows(2, 2, 0, 0, 1, 0, 1, 1), nil, []int{0, 1}, 1)
	// the fault is known only from what can not come behind it
	check(t, "other events", ofArrows(4, 4, 0, 0, 1, 0, 1, 2, 1, 2, 1, 1, 3, 1, 2, 1, 2), []int{1, 2, 3}, fault, 1)
}

// M1: words count, not runs; a word of several runs is in fault once, and each
// of its runs may be gone on with.
func TestRuns(t *testing.T) {
	// the fault leads to 1, which goes on by 1, and to 2, which goes on by 2; without it just 2 can come
	m := ofArrows(4, 3, 0, 0, 1, 0, 0, 2, 0, 2, 3, 1, 1, 1, 2, 2, 2, 3, 2, 3)
	check(t, "two ways", m, []int{1, 2}, []int{0}, -1)
	check(t, "two ways, one end", ofArrows(4, 3, 0, 0, 1, 0, 0, 2, 0, 2, 3, 1, 1, 1, 2, 2, 2), []int{1, 2}, []int{0}, 2)
	// one start has the fault, the other one has not: from it, 1 can come twice
	m = ofArrows(5, 2, 0, 0, 1, 1, 1, 1, 2, 1, 3, 3, 1, 4)
	check(t, "one start", m, []int{1}, []int{0}, 1)
	m.Starts = []int{0, 2}
	check(t, "two starts", m, []int{1}, []int{0}, 3)
	m.Starts = []int{0, 3}
	check(t, "a nearer start", m, []int{1}, []int{0}, 2)
	m.Starts = []int{2}
	check(t, "no fault from there", m, []int{1}, []int{0}, 0)
	// the word without a fault may choose its run as late as it likes
	m = ofArrows(4, 2, 0, 0, 3, 0, 1, 1, 0, 1, 2, 2, 1, 2, 3, 1, 3)
	check(t, "a choice", m, []int{1}, []int{0}, -1)
	m.Arrows = slices.Delete(m.Arrows, 3, 4)
	check(t, "no choice", m, []int{1}, []int{0}, 2)
}

// rounds is a machine without a fault for so many seen events, one behind the
// other, and with one in a ring of so many states, of which one is seen a round.
func rounds(line, ring int) api.Machine {
	m := ofArrows(line+1+ring, 3, 0, 0, line+1)
	for n := range line {
		m.Arrows = append(m.Arrows, api.Arrow{From: n, Event: 2, To: n + 1})
	}
	for n := range ring {
		event := 1
		if n == ring-1 {
			event = 2
		}
		m.Arrows = append(m.Arrows, api.Arrow{From: line + 1 + n, Event: event, To: line + 1 + (n+1)%ring})
	}
	return m
}

// M2: delays that are longer than there are states.
func TestLong(t *testing.T) {
	for line := range 5 {
		for ring := 1; line+1+ring <= api.MaxPlant; ring++ {
			m := rounds(line, ring)
			want := (line + 1) * ring
			check(t, "rounds", m, []int{2}, []int{0}, want)
			check(t, "rounds, nothing seen", m, nil, []int{0}, -1)
			check(t, "rounds, all seen", m, []int{0, 1, 2}, []int{0}, 0)
		}
	}
}

// M2: the longest delays: event 1 is seen and leads from state to state, from the
// first one on; the fault does so, too, from the second one to the last one, and
// back to the first one. So, ahead of each seen event, and behind the last one, it
// goes through all states.
func TestLongest(t *testing.T) {
	for states := 1; states <= api.MaxPlant; states++ {
		m := api.Machine{States: states, Events: 2, Starts: []int{0}}
		for n := range states {
			if n > 0 {
				m.Arrows = append(m.Arrows, api.Arrow{From: n, To: (n + 1) % states})
			}
			if n < states-1 {
				m.Arrows = append(m.Arrows, api.Arrow{From: n, Event: 1, To: n + 1})
			}
		}
		check(t, "from the first one on", m, []int{1}, []int{0}, max(0, states*states-states-1))
		if states > 1 {
			m.Starts = []int{0, 1}
		}
		check(t, "from both", m, []int{1}, []int{0}, states*states-1)
	}
}

// words answers all lists of those numbers with at most so many of them, lesser
// ones first.
func words(of []int, most int) [][]int {
	all := [][]int{{}}
	for at := 0; at < len(all) && len(all[at]) < most; at++ {
		for _, n := range of {
			all = append(all, append(slices.Clone(all[at]), n))
		}
	}
	return all
}

// hasRun tells whether a word has a run from one of m's Starts on.
func hasRun(m api.Machine, word []int) bool {
	l, e := machine.After(m, m.Starts, word)
	return e == api.OK && len(l) > 0
}

// inFault answers how long a word is in fault, and whether it is faulty.
func inFault(word, faults []int) (int, bool) {
	at := slices.IndexFunc(word, func(event int) bool { return slices.Contains(faults, event) })
	return len(word) - 1 - at, at >= 0
}

// faultless answers m without the arrows of faults.
func faultless(m api.Machine, faults []int) api.Machine {
	m.Arrows = slices.DeleteFunc(slices.Clone(m.Arrows), func(a api.Arrow) bool { return slices.Contains(faults, a.Event) })
	return m
}

// isFound tells whether no word without a fault has a run of which list is seen.
func isFound(t *testing.T, m api.Machine, seen, faults, list []int) bool {
	t.Helper()
	l, e := current.Estimate(api.Plant{Machine: faultless(m, faults), Seen: seen}, list)
	if e != api.OK {
		t.Fatal("the test is wrong: ", m, seen, faults, list, e)
	}
	return len(l) == 0
}

// ofBits answers the row of the bits that a number has.
func ofBits(set int) []int {
	var l []int
	for n := range 63 {
		if set>>n&1 == 1 {
			l = append(l, n)
		}
	}
	return l
}

// mixed answers a number that hangs on n, its bits well mixed.
func mixed(n uint64) uint64 {
	n = (n + 1) * 0x9e3779b97f4a7c15
	n = (n ^ n>>29) * 0xbf58476d1ce4e5b9
	return n ^ n>>32
}

// some answers a machine of that many states and events that hangs on seed, with
// about so many arrows of two states each.
func some(states, events, arrows int, seed uint64) api.Machine {
	bits := mixed(seed)
	m := api.Machine{States: states, Events: events, Starts: ofBits(int(bits & (1<<states - 1))), Ends: ofBits(int(bits >> 8 & (1<<states - 1)))}
	for at := range states * events * states {
		if mixed(bits+uint64(at))%uint64(2*states*events) < uint64(arrows) {
			m.Arrows = append(m.Arrows, api.Arrow{From: at / states / events, Event: at / states % events, To: at % states})
		}
	}
	if bits>>24&3 != 0 { // of many starts there are long delays but seldom
		m.Starts = []int{0}
	}
	return m
}

// machines goes through machines of up to so many states and events, and rows of
// events.
func machines(t *testing.T, most uint64, states, events int, yield func(m api.Machine, seen, faults []int)) {
	t.Helper()
	for seed := range most {
		bits := int(mixed(seed) >> 5 & 0xfffffffff)
		m := some(1+bits%states, bits>>4%(events+1), 1+bits>>8%5, 17*seed)
		if !machine.May(m) {
			t.Fatal("the test is wrong: ", m)
		}
		seen, faults := ofBits(bits>>16&(1<<m.Events-1)), ofBits(bits>>24&(1<<m.Events-1))
		if m.Events > 0 && bits>>12&3 != 0 { // with one fault, and much that is seen but it, there are more delays
			faults = []int{bits >> 24 % m.Events}
			seen, _ = row.Join(seen, ofBits(bits>>28&(1<<m.Events-1)))
			seen, _ = row.Less(seen, faults)
		}
		yield(m, seen, faults)
	}
}

// tally counts what was answered: so a test tells whether it tested much.
type tally struct{ never, none, one, more, longest int }

func (c *tally) add(d int) {
	c.longest = max(c.longest, d)
	switch {
	case d < 0:
		c.never++
	case d == 0:
		c.none++
	case d == 1:
		c.one++
	default:
		c.more++
	}
}

func (c *tally) atLeast(t *testing.T, least int) {
	t.Helper()
	if min(c.never, c.none, c.one, c.more) < least {
		t.Error("the test is wrong: ", *c)
	}
}

// byWords answers what Delay asks for, by all words of a machine of up to 2
// states. It has at most 4 pairs of states: so, where words that are not found are
// in fault for ever longer, one is so for 4 events, with at most 3 ahead of its
// first fault; and else those that are so for longest have at most 7 events.
func byWords(t *testing.T, m api.Machine, seen, faults []int) int {
	t.Helper()
	longest := -1
	for _, word := range words(count(m.Events), 8) {
		length, is := inFault(word, faults)
		if is && length > longest && hasRun(m, word) && !isFound(t, m, seen, faults, hide.Seen(word, seen)) {
			longest = length
		}
	}
	if longest >= 4 {
		return -1
	}
	return longest + 1
}

// M1, M2: against all words, of all machines of 2 states and 2 events with a fault.
func TestAllMachines(t *testing.T) {
	var c tally
	for arrows := range 1 << 8 {
		m := api.Machine{States: 2, Events: 2}
		for _, at := range ofBits(arrows) {
			m.Arrows = append(m.Arrows, api.Arrow{From: at / 4, Event: at / 2 % 2, To: at % 2})
		}
		for _, starts := range [][]int{nil, {0}, {1}, {0, 1}} {
			m.Starts = starts
			for _, seen := range [][]int{nil, {0}, {1}, {0, 1}} {
				want := byWords(t, m, seen, []int{0})
				check(t, "all machines", m, seen, []int{0}, want)
				c.add(want)
			}
		}
	}
	c.atLeast(t, 1)
	if c.longest != 3 {
		t.Error("the test is wrong: ", c)
	}
}

// M1, M2: against all words, of some machines of up to 3 events and any faults.
// Of lists of up to 2 seen events the words of up to 5 events tell themselves
// whether they are found.
func TestAllWords(t *testing.T) {
	machines(t, 1000, 2, 3, func(m api.Machine, seen, faults []int) {
		without := map[[2]int]int{}
		for _, word := range words(count(m.Events), 5) {
			list := hide.Seen(word, seen)
			if _, is := inFault(word, faults); !is && len(list) <= 2 && hasRun(m, word) {
				without[keyOf(list)]++
			}
		}
		for _, list := range words(seen, 2) {
			if isFound(t, m, seen, faults, list) != (without[keyOf(list)] == 0) {
				t.Fatal("the test is wrong: ", m, seen, faults, list)
			}
		}
		check(t, "all words", m, seen, faults, byWords(t, m, seen, faults))
	})
}

// keyOf answers a list of up to two events as one value.
func keyOf(list []int) [2]int {
	var k [2]int
	for i, event := range list {
		k[i] = event + 1
	}
	return k
}

// view is where a word may come to, and where words without a fault may of which
// the same is seen.
type view struct{ is, without machine.Set }

// plain answers what Delay asks for, word by word, without twins: words with the
// same view can be gone on with alike.
type plain struct {
	m            api.Machine
	seen, faults []int
	all, without func(s machine.Set, event int) machine.Set
	known        map[view]int // of views of words in fault: what is left
}

const forever = math.MaxInt / 2

func newPlain(m api.Machine, seen, faults []int) *plain {
	return &plain{
		m: m, seen: seen, faults: faults,
		all: machine.Leader(m), without: machine.Leader(faultless(m, faults)),
		known: map[view]int{},
	}
}

// still answers a set of states, and what they come to by unseen events without a
// fault.
func (p *plain) still(s machine.Set) machine.Set {
	for range p.m.States {
		for event := range p.m.Events {
			if !slices.Contains(p.seen, event) {
				s = s.Join(p.without(s, event))
			}
		}
	}
	return s
}

// next answers the view behind an event, and whether there is a word of it that
// is not found.
func (p *plain) next(v view, event int) (view, bool) {
	v.is = p.all(v.is, event)
	if slices.Contains(p.seen, event) {
		v.without = p.still(p.without(v.without, event))
	}
	return v, v.is != machine.Set{} && v.without != machine.Set{}
}

// left answers for how many events words of that view, which are in fault, can be
// gone on with, so that they are not found; forever, if there is no bound: where
// a view comes again, it comes again and again.
func (p *plain) left(v view) int {
	if n, is := p.known[v]; is {
		return n
	}
	p.known[v] = forever // for who comes to it again on the way
	longest := 0
	for event := range p.m.Events {
		if to, is := p.next(v, event); is {
			longest = max(longest, min(forever, p.left(to)+1))
		}
	}
	p.known[v] = longest
	return longest
}

// delay goes through all views of words without a fault, and asks what is left
// behind each first fault.
func (p *plain) delay() int {
	first := machine.Of(p.m.Starts)
	views, known, d := []view{{first, p.still(first)}}, map[view]int{}, 0
	if len(p.m.Starts) == 0 {
		return 0
	}
	for at := 0; at < len(views); at++ {
		for event := range p.m.Events {
			to, is := p.next(views[at], event)
			switch {
			case !is:
			case slices.Contains(p.faults, event):
				d = max(d, min(forever, p.left(to)+1))
			default:
				if known[to]++; known[to] == 1 {
					views = append(views, to)
				}
			}
		}
	}
	if d == forever {
		return -1
	}
	return d
}

// M2: against views, of machines as great as may be.
func TestPlain(t *testing.T) {
	var c tally
	machines(t, 20000, api.MaxPlant, api.MaxEvents, func(m api.Machine, seen, faults []int) {
		want := newPlain(m, seen, faults).delay()
		check(t, "views", m, seen, faults, want)
		c.add(want)
	})
	c.atLeast(t, 300)
	if c.longest < 12 {
		t.Error("the test is wrong: ", c)
	}
}

// counter is a machine that ends where a word is in fault for so many events or
// longer.
func counter(events, least int, faults []int) api.Machine {
	m := api.Machine{States: least + 2, Events: events, Starts: []int{0}, Ends: []int{least + 1}}
	for n := range m.States {
		for event := range events {
			to := min(n+1, least+1)
			if n == 0 && !slices.Contains(faults, event) {
				to = 0
			}
			m.Arrows = append(m.Arrows, api.Arrow{From: n, Event: event, To: to})
		}
	}
	return m
}

// isConfused tells, by the machines of the layers above, whether something is
// seen both of a word that is in fault for so many events or longer and of one
// without a fault; and whether those machines are not too great for it.
func isConfused(m api.Machine, seen, faults []int, least int) (is, fits bool) {
	m.Ends = count(m.States)
	together := func(a, b api.Machine) api.Machine {
		m, _, _ := beside.Beside(a, b, count(a.Events), count(b.Events))
		return m
	}
	// of what does not fit comes a machine that may not be
	late, _ := hide.Hide(together(m, counter(m.Events, least, faults)), seen)
	without, _ := hide.Hide(faultless(m, faults), seen)
	both, _, e := reach.Trim(together(late, without))
	return len(both.Ends) > 0, e == api.OK
}

// M2: what is in fault for the delay is not confused, what is so for one event
// less is; and where there is no delay, what is so for very long.
func TestByOtherLayers(t *testing.T) {
	var c tally
	machines(t, 10000, 4, 4, func(m api.Machine, seen, faults []int) {
		d, e := Delay(m, seen, faults)
		if e != api.OK || d < -1 {
			t.Fatalf("Delay(%v, %v, %v): %d, %d", m, seen, faults, d, e)
		}
		confused, found := d-1, d
		if d < 0 {
			confused = m.States * m.States
		}
		if confused >= 0 {
			if is, fits := isConfused(m, seen, faults, confused); !fits {
				return
			} else if !is {
				t.Errorf("Delay(%v, %v, %v): %d; but what is in fault for %d is found", m, seen, faults, d, confused)
			}
		}
		if found >= 0 {
			if is, fits := isConfused(m, seen, faults, found); !fits {
				return
			} else if is {
				t.Errorf("Delay(%v, %v, %v): %d; but what is in fault for %d is not found", m, seen, faults, d, found)
			}
		}
		c.add(d)
	})
	c.atLeast(t, 60)
	if c.longest < 8 {
		t.Error("the test is wrong: ", c)
	}
}

// The whole: who sees more knows more: a fault is found no later.
func TestSeesMore(t *testing.T) {
	sooner := 0
	machines(t, 3000, api.MaxPlant, 4, func(m api.Machine, _, faults []int) {
		var delays []int
		for set := range 1 << m.Events {
			d, e := Delay(m, ofBits(set), faults)
			if e != api.OK {
				t.Fatal(m, faults, e)
			}
			if d < 0 {
				d = forever
			}
			delays = append(delays, d)
		}
		for set := range delays {
			for less := range set {
				if less&^set == 0 && delays[less] < delays[set] {
					t.Errorf("%v, %v: %d with %v, %d with %v", m, faults, delays[less], ofBits(less), delays[set], ofBits(set))
				}
			}
		}
		if last := delays[len(delays)-1]; last != 0 {
			t.Errorf("%v, %v: %d, where all is seen", m, faults, last)
		}
		if delays[0] == forever && delays[len(delays)-1] == 0 {
			sooner++
		}
	})
	if sooner < 300 {
		t.Error("the test is wrong: ", sooner)
	}
}

// M1: which states are Ends counts for nothing, nor do states that can't be come
// to, nor their numbers, nor those of events.
func TestCountsForNothing(t *testing.T) {
	var c tally
	machines(t, 2000, api.MaxPlant-1, api.MaxEvents, func(m api.Machine, seen, faults []int) {
		want, e := Delay(m, seen, faults)
		if e != api.OK {
			t.Fatal(m, seen, faults, e)
		}
		c.add(want)
		for _, ends := range [][]int{nil, {0}, count(m.States)} {
			m.Ends = ends
			check(t, "other ends", m, seen, faults, want)
		}
		more := m
		more.Arrows = slices.Clone(m.Arrows)
		for event := range m.Events {
			more.Arrows = append(more.Arrows, api.Arrow{From: m.States, Event: event, To: 0}, api.Arrow{From: m.States, Event: event, To: m.States})
		}
		more.States++
		check(t, "a state more", more, seen, faults, want)
		back, backSeen, backFaults := turned(m, seen, faults)
		check(t, "other numbers", back, backSeen, backFaults, want)
	})
	c.atLeast(t, 20)
}

// turned answers all with states and events numbered from behind.
func turned(m api.Machine, seen, faults []int) (api.Machine, []int, []int) {
	from := func(l []int, below int) []int {
		var out []int
		for _, n := range slices.Backward(l) {
			out = append(out, below-1-n)
		}
		return out
	}
	back := api.Machine{States: m.States, Events: m.Events, Starts: from(m.Starts, m.States), Ends: from(m.Ends, m.States)}
	for _, a := range slices.Backward(m.Arrows) {
		back.Arrows = append(back.Arrows, api.Arrow{From: m.States - 1 - a.From, Event: m.Events - 1 - a.Event, To: m.States - 1 - a.To})
	}
	return back, from(seen, m.Events), from(faults, m.Events)
}

// P1: machines of 6 states and 8 events with all arrows are answered.
func TestFullest(t *testing.T) {
	m := api.Machine{States: 6, Events: 8, Starts: count(6), Ends: count(6)}
	for at := range 6 * 8 * 6 {
		m.Arrows = append(m.Arrows, api.Arrow{From: at / 48, Event: at / 6 % 8, To: at % 6})
	}
	for set := range 1 << 8 {
		for fault := range 8 {
			want := -1
			if set>>fault&1 == 1 {
				want = 0
			}
			check(t, "all arrows", m, ofBits(set), []int{fault}, want)
		}
		check(t, "all arrows, no fault", m, ofBits(set), nil, 0)
	}
}

// behind answers l with other numbers behind its length.
func behind(l []int) []int { return append(slices.Clone(l), 0, 1)[:len(l)] }

// untouched tells whether a list that behind made has all its numbers still.
func untouched(l, was []int) bool {
	return slices.Equal(l[:len(was)+2], append(slices.Clone(was), 0, 1))
}

// P3: what is handed in stays as it is, and what lies behind a list's length is
// not read; one list may stand at several places.
func TestMemory(t *testing.T) {
	arrows := []api.Arrow{{From: 0, Event: 0, To: 1}, {From: 0, Event: 1, To: 0}, {From: 1, Event: 1, To: 2}, {From: 2, Event: 2, To: 2}, {From: 99}}
	was := slices.Clone(arrows)
	m := api.Machine{States: 3, Events: 3, Starts: behind([]int{0}), Arrows: arrows[:4], Ends: behind([]int{1})}
	seen, faults := behind([]int{1, 2}), behind([]int{0})
	for range 2 {
		check(t, "memory", m, seen, faults, 2)
		check(t, "less of it", m, seen[:1], faults, -1)
	}
	if !untouched(m.Starts, []int{0}) || !untouched(m.Ends, []int{1}) || !slices.Equal(arrows, was) ||
		!untouched(seen, []int{1, 2}) || !untouched(faults, []int{0}) {
		t.Error("what was handed in is changed")
	}
	l := []int{0}
	one := api.Machine{States: 1, Events: 1, Starts: l, Arrows: []api.Arrow{{}}, Ends: l}
	check(t, "one list", one, l, l, 0)
	check(t, "nothing of it", one, l[:0], l, -1)
}
