package veil

import (
	"math"
	"slices"
	"testing"

	"jalousie/api"
)

// count answers the row of the numbers below n.
func count(n int) []int {
	var l []int
	for i := range n {
		l = append(l, i)
	}
	return l
}

// ofBits answers the row of the bits that a number has.
func ofBits(set int) []int {
	var l []int
	for n := range 63 {
		if set>>n&1 == 1 {
			l = append(l, n)
		}
	}
	return l
}

// ofArrows is a machine of that many states and events, with the start 0, and the
// arrows whose three numbers are told one behind another.
func ofArrows(states, events int, numbers ...int) api.Machine {
	m := api.Machine{States: states, Events: events, Starts: []int{0}}
	for three := range slices.Chunk(numbers, 3) {
		m.Arrows = append(m.Arrows, api.Arrow{From: three[0], Event: three[1], To: three[2]})
	}
	return m
}

func plant(m api.Machine, seen, secret []int) api.Plant {
	return api.Plant{Machine: m, Seen: seen, Secret: secret}
}

// same tells whether two veils are; an empty list may be nil or not.
func same(a, b api.Veil) bool {
	return slices.EqualFunc(a.Nodes, b.Nodes, slices.Equal[[]int]) &&
		slices.EqualFunc(a.Moves, b.Moves, func(a, b api.Move) bool {
			return a.Node == b.Node && a.Event == b.Event && slices.Equal(a.Stay, b.Stay) && a.To == b.To
		})
}

// check asks for a veil.
func check(t *testing.T, name string, p api.Plant, free []int, want api.Veil) {
	t.Helper()
	if v, is, e := Make(p, free); !is || e != api.OK || !same(v, want) {
		t.Errorf("%s: Make(%v, %v): %v, %t, %d; asked for: %v", name, p, free, v, is, e, want)
	}
}

// nothing asks that there is no veil.
func nothing(t *testing.T, name string, p api.Plant, free []int) {
	t.Helper()
	if v, is, e := Make(p, free); is || e != api.OK || !same(v, api.Veil{}) {
		t.Errorf("%s: Make(%v, %v): %v, %t, %d; asked for: nothing", name, p, free, v, is, e)
	}
}

// refused asks for an error, and nothing else.
func refused(t *testing.T, name string, p api.Plant, free []int, want api.Errno) {
	t.Helper()
	if v, is, e := Make(p, free); is || e != want || !same(v, api.Veil{}) {
		t.Errorf("%s: Make(%v, %v): %v, %t, %d; asked for: %d", name, p, free, v, is, e, want)
	}
}

// made answers what Make does where nothing is wrong.
func made(t *testing.T, p api.Plant, free []int) (api.Veil, bool) {
	t.Helper()
	v, is, e := Make(p, free)
	if e != api.OK || !is && !same(v, api.Veil{}) {
		t.Fatalf("Make(%v, %v): %v, %t, %d", p, free, v, is, e)
	}
	return v, is
}

// wrong are plants that may not be; some of them would not be plain either.
func wrong() map[string]api.Plant {
	all := map[string]api.Plant{
		"seen no row":     plant(ofArrows(2, 2), []int{1, 0}, nil),
		"seen beyond":     plant(ofArrows(2, 2), []int{0, 2}, nil),
		"seen below":      plant(ofArrows(2, 2), []int{-1, 0}, nil),
		"seen is a state": plant(ofArrows(3, 2), []int{2}, nil),
		"secret no row":   plant(ofArrows(2, 2), []int{0, 1}, []int{0, 0}),
		"secret beyond":   plant(ofArrows(2, 2), []int{0, 1}, []int{2}),
		"secret below":    plant(ofArrows(2, 2), []int{0, 1}, []int{-1}),
		"secret event":    plant(ofArrows(2, 3), []int{0, 1}, []int{2}),
	}
	for name, m := range map[string]api.Machine{
		"nothing":         {},
		"least number":    {States: math.MinInt, Events: math.MinInt},
		"greatest number": {States: math.MaxInt, Events: math.MaxInt},
		"7 states":        ofArrows(7, 2),
		"257 states":      ofArrows(257, 2),
		"9 events":        ofArrows(2, 9),
		"-1 events":       ofArrows(2, -1),
		"start beyond":    {States: 2, Events: 2, Starts: []int{2}},
		"starts no row":   {States: 2, Events: 2, Starts: []int{1, 0}},
		"start twice":     {States: 2, Events: 2, Starts: []int{0, 0}},
		"end twice":       {States: 2, Events: 2, Ends: []int{1, 1}},
		"arrow to beyond": ofArrows(2, 2, 0, 0, 2),
		"arrow from none": ofArrows(2, 2, -1, 0, 0),
		"event beyond":    ofArrows(2, 2, 0, 2, 0),
		"arrow twice":     ofArrows(2, 2, 0, 0, 0, 0, 0, 0),
		"arrows fall":     ofArrows(2, 2, 0, 1, 0, 0, 0, 0),
		"fall, not plain": ofArrows(2, 2, 0, 0, 1, 0, 0, 0),
	} {
		all[name] = plant(m, nil, nil)
	}
	return all
}

// noRows are lists that are no rows below 2.
func noRows() [][]int {
	return [][]int{{2}, {-1}, {0, 2}, {1, 0}, {0, 0}, {0, 1, 1}, {0, 1, 2}, {8}, {math.MaxInt}, {math.MinInt}, {0, api.MaxRow}}
}

// O2, P2: what has not the form; it is told ahead of what is of another kind.
func TestForm(t *testing.T) {
	for name, p := range wrong() {
		for _, free := range append(noRows(), nil, []int{}, []int{0}, []int{0, 1}) {
			refused(t, name, p, free, api.ErrForm)
		}
	}
	loose := ofArrows(2, 2, 0, 0, 0, 0, 0, 1)
	loose.Starts = []int{0, 1}
	for _, free := range noRows() {
		refused(t, "free is no row", plant(ofArrows(2, 2, 0, 0, 1), []int{0, 1}, nil), free, api.ErrForm)
		refused(t, "free is no row of seen ones", plant(ofArrows(2, 2), nil, nil), free, api.ErrForm)
		refused(t, "free is no row, not plain", plant(loose, nil, nil), free, api.ErrForm)
	}
	refused(t, "free of no events", plant(ofArrows(1, 0), nil, nil), []int{0}, api.ErrForm)
	refused(t, "free is a state", plant(ofArrows(6, 5), count(5), nil), []int{5}, api.ErrForm)
}

// O1, O2: what is of another kind: it may hide what is free, or be not plain.
func TestKind(t *testing.T) {
	m := ofArrows(2, 3, 0, 0, 1, 0, 1, 1, 1, 1, 0)
	refused(t, "free is not seen", plant(m, []int{0}, nil), []int{1}, api.ErrKind)
	refused(t, "free is not seen and has no arrow", plant(m, []int{0, 1}, nil), []int{2}, api.ErrKind)
	refused(t, "nothing is seen", plant(m, nil, nil), []int{0}, api.ErrKind)
	refused(t, "one of the free ones is not seen", plant(m, []int{0, 2}, []int{1}), []int{0, 1, 2}, api.ErrKind)
	noStart := m
	noStart.Starts = nil
	refused(t, "free is not seen, and there is no start", plant(noStart, []int{0}, nil), []int{1}, api.ErrKind)
	two := m
	two.Starts = []int{0, 1}
	refused(t, "two starts", plant(two, count(3), nil), nil, api.ErrKind)
	fork := ofArrows(2, 2, 0, 0, 0, 0, 0, 1)
	refused(t, "two arrows", plant(fork, count(2), nil), nil, api.ErrKind)
	refused(t, "two unseen arrows", plant(fork, nil, nil), nil, api.ErrKind)
	fork.Starts = nil
	refused(t, "two arrows and no start", plant(fork, count(2), nil), nil, api.ErrKind)
	refused(t, "two arrows that are not come to", plant(ofArrows(3, 1, 1, 0, 0, 2, 0, 0, 2, 0, 2), []int{0}, nil), []int{0}, api.ErrKind)
	refused(t, "two arrows to what is secret already", plant(ofArrows(3, 1, 0, 0, 1, 0, 0, 2), []int{0}, []int{0, 1, 2}), nil, api.ErrKind)
	check(t, "the same event elsewhere", plant(ofArrows(2, 1, 0, 0, 1, 1, 0, 1), []int{0}, nil), nil,
		api.Veil{Nodes: [][]int{{0}, {1}}, Moves: []api.Move{{Node: 0, Event: 0, Stay: []int{0}, To: 1}, {Node: 1, Event: 0, Stay: []int{1}, To: 1}}})
	check(t, "another event to the same state", plant(ofArrows(1, 2, 0, 0, 0, 0, 1, 0), []int{0, 1}, nil), nil,
		api.Veil{Nodes: [][]int{{0}}, Moves: []api.Move{{Node: 0, Event: 0, Stay: []int{0}}, {Node: 0, Event: 1, Stay: []int{0}}}})
}

// one is the veil of one node, and no moves.
func one(node ...int) api.Veil { return api.Veil{Nodes: [][]int{node}} }

// O2: where nothing keeps the secret.
func TestNothing(t *testing.T) {
	noStart := ofArrows(2, 2, 0, 0, 1)
	noStart.Starts = nil
	nothing(t, "no start", plant(noStart, []int{0, 1}, nil), []int{0})
	nothing(t, "no start, nothing seen", plant(noStart, nil, nil), nil)
	nothing(t, "no start, all secret", plant(noStart, nil, []int{0, 1}), nil)
	nothing(t, "the start is secret", plant(ofArrows(1, 0), nil, []int{0}), nil)
	nothing(t, "all is secret", plant(ofArrows(2, 1, 0, 0, 1), []int{0}, []int{0, 1}), []int{0})
	nothing(t, "a seen way out comes too late", plant(ofArrows(2, 1, 0, 0, 1), []int{0}, []int{0}), nil)
	step := ofArrows(2, 1, 0, 0, 1)
	nothing(t, "what is not free leads to the secret", plant(step, []int{0}, []int{1}), nil)
	long := ofArrows(6, 2, 0, 0, 1, 1, 0, 2, 2, 1, 3, 3, 0, 4, 4, 0, 5)
	nothing(t, "what is not free leads far", plant(long, []int{0, 1}, []int{5}), nil)
	nothing(t, "unseen events between", plant(long, []int{0}, []int{4, 5}), nil)
	ring := ofArrows(3, 1, 0, 0, 1, 1, 0, 2, 2, 0, 0)
	nothing(t, "a ring", plant(ring, []int{0}, []int{2}), nil)
}

// O2, O3: by hand.
func TestVeil(t *testing.T) {
	check(t, "one state", plant(ofArrows(1, 0), nil, nil), nil, one(0))
	check(t, "the document's example", plant(ofArrows(2, 1, 0, 0, 1), []int{0}, []int{1}), []int{0}, one(0))
	check(t, "an unseen way out of the secret start", plant(ofArrows(2, 1, 0, 0, 1), nil, []int{0}), nil, one(0, 1))
	check(t, "an unseen way into the secret", plant(ofArrows(2, 1, 0, 0, 1), nil, []int{1}), nil, one(0, 1))
	check(t, "what is not come to", plant(ofArrows(3, 1, 1, 0, 2), []int{0}, []int{1, 2}), nil, one(0))
	other := ofArrows(3, 2, 1, 1, 0)
	other.Starts = []int{1}
	check(t, "another start", plant(other, []int{1}, []int{2}), nil,
		api.Veil{Nodes: [][]int{{1}, {0}}, Moves: []api.Move{{Node: 0, Event: 1, Stay: []int{1}, To: 1}}})
	line := ofArrows(4, 3, 0, 0, 1, 1, 1, 2, 2, 2, 3)
	check(t, "the last event is free", plant(line, count(3), []int{3}), count(3),
		api.Veil{Nodes: [][]int{{0}, {1}, {2}}, Moves: []api.Move{{Node: 0, Event: 0, Stay: []int{0}, To: 1}, {Node: 1, Event: 1, Stay: []int{1}, To: 2}}})
	check(t, "only the first event is free", plant(line, count(3), []int{3}), []int{0}, one(0))
	check(t, "the first event is free, the others are unseen", plant(line, []int{0}, []int{3}), []int{0},
		api.Veil{Nodes: [][]int{{0}, {1, 2, 3}}, Moves: []api.Move{{Node: 0, Event: 0, Stay: []int{0}, To: 1}}})
	check(t, "two secrets behind it", plant(line, []int{0, 2}, []int{1, 3}), []int{0}, one(0))
	check(t, "a secret, and a free event behind it", plant(line, []int{0, 2}, []int{1, 3}), []int{0, 2},
		api.Veil{Nodes: [][]int{{0}, {1, 2}}, Moves: []api.Move{{Node: 0, Event: 0, Stay: []int{0}, To: 1}}})
}

// O2, O3: what is free is forbidden in those states alone where it must be.
func TestStay(t *testing.T) {
	// 0 and 1 look alike; event 1 leads from 0 to 2, from 1 to the secret 3
	cover := ofArrows(4, 2, 0, 0, 1, 0, 1, 2, 1, 1, 3)
	check(t, "2 is cover for 3", plant(cover, []int{1}, []int{3}), []int{1},
		api.Veil{Nodes: [][]int{{0, 1}, {2, 3}}, Moves: []api.Move{{Node: 0, Event: 1, Stay: []int{0, 1}, To: 1}}})
	check(t, "event 0 is seen", plant(cover, []int{0, 1}, []int{3}), []int{1},
		api.Veil{Nodes: [][]int{{0}, {1}, {2}}, Moves: []api.Move{{Node: 0, Event: 0, Stay: []int{0}, To: 1}, {Node: 0, Event: 1, Stay: []int{0}, To: 2}}})
	// and event 2, that is not free, leads on from 3, but not from 2
	told := ofArrows(5, 3, 0, 0, 1, 0, 1, 2, 1, 1, 3, 3, 2, 4)
	check(t, "what follows tells", plant(told, []int{1, 2}, []int{4}), []int{1},
		api.Veil{Nodes: [][]int{{0, 1}, {2}}, Moves: []api.Move{{Node: 0, Event: 1, Stay: []int{0}, To: 1}}})
	check(t, "it does not, if it is free", plant(told, []int{1, 2}, []int{4}), []int{1, 2},
		api.Veil{Nodes: [][]int{{0, 1}, {2, 3}}, Moves: []api.Move{{Node: 0, Event: 1, Stay: []int{0, 1}, To: 1}}})
	check(t, "it does not, if it is not seen", plant(told, []int{1}, []int{4}), []int{1},
		api.Veil{Nodes: [][]int{{0, 1}, {2, 3, 4}}, Moves: []api.Move{{Node: 0, Event: 1, Stay: []int{0, 1}, To: 1}}})
	nothing(t, "nothing is free", plant(told, []int{1, 2}, []int{4}), nil)
	// neither 2 alone nor 3 alone is fine, both together are: they cover each other
	both := ofArrows(6, 4, 0, 0, 1, 0, 1, 2, 1, 1, 3, 2, 2, 4, 2, 3, 5, 3, 2, 5, 3, 3, 4)
	check(t, "they cover each other", plant(both, []int{1, 2, 3}, []int{4}), []int{1},
		api.Veil{Nodes: [][]int{{0, 1}, {2, 3}, {4, 5}}, Moves: []api.Move{
			{Node: 0, Event: 1, Stay: []int{0, 1}, To: 1},
			{Node: 1, Event: 2, Stay: []int{2, 3}, To: 2},
			{Node: 1, Event: 3, Stay: []int{2, 3}, To: 2},
		}})
	check(t, "who sees them apart", plant(both, []int{0, 1, 2, 3}, []int{4}), []int{1},
		api.Veil{Nodes: [][]int{{0}, {1}}, Moves: []api.Move{{Node: 0, Event: 0, Stay: []int{0}, To: 1}}})
}

// O3: nodes are numbered as they are found; moves stand in order; rows that are
// come to again are no new nodes.
func TestOrder(t *testing.T) {
	m := ofArrows(4, 3, 0, 0, 3, 0, 1, 0, 0, 2, 1, 1, 0, 2, 1, 2, 3, 2, 1, 1, 3, 2, 0)
	check(t, "order", plant(m, count(3), nil), count(3), api.Veil{Nodes: [][]int{{0}, {3}, {1}, {2}}, Moves: []api.Move{
		{Node: 0, Event: 0, Stay: []int{0}, To: 1},
		{Node: 0, Event: 1, Stay: []int{0}, To: 0},
		{Node: 0, Event: 2, Stay: []int{0}, To: 2},
		{Node: 1, Event: 2, Stay: []int{3}, To: 0},
		{Node: 2, Event: 0, Stay: []int{1}, To: 3},
		{Node: 2, Event: 2, Stay: []int{1}, To: 1},
		{Node: 3, Event: 1, Stay: []int{2}, To: 2},
	}})
	check(t, "event 1 is not seen", plant(m, []int{0, 2}, nil), []int{2}, api.Veil{Nodes: [][]int{{0}, {3}, {1}, {1, 2}}, Moves: []api.Move{
		{Node: 0, Event: 0, Stay: []int{0}, To: 1},
		{Node: 0, Event: 2, Stay: []int{0}, To: 2},
		{Node: 1, Event: 2, Stay: []int{3}, To: 0},
		{Node: 2, Event: 0, Stay: []int{1}, To: 3},
		{Node: 2, Event: 2, Stay: []int{1}, To: 1},
		{Node: 3, Event: 0, Stay: []int{1}, To: 3},
		{Node: 3, Event: 2, Stay: []int{1}, To: 1},
	}})
}

// I1: which states are Ends counts for nothing.
func TestEnds(t *testing.T) {
	m := ofArrows(4, 2, 0, 0, 1, 0, 1, 2, 1, 1, 3)
	for ends := range 16 {
		m.Ends = ofBits(ends)
		check(t, "ends", plant(m, []int{0, 1}, []int{3}), []int{1},
			api.Veil{Nodes: [][]int{{0}, {1}, {2}}, Moves: []api.Move{{Node: 0, Event: 0, Stay: []int{0}, To: 1}, {Node: 0, Event: 1, Stay: []int{0}, To: 2}}})
		nothing(t, "ends", plant(m, []int{0, 1}, []int{3}), nil)
	}
}

// behind answers l with other numbers behind its length.
func behind(l []int) []int { return append(slices.Clone(l), 0, 1)[:len(l)] }

// untouched tells whether a list that behind made has all its numbers still.
func untouched(l, was []int) bool {
	return slices.Equal(l[:len(was)+2], append(slices.Clone(was), 0, 1))
}

// spoil writes over all of a list that is answered, also behind its length.
func spoil(l []int) {
	l = l[:cap(l)]
	for i := range l {
		l[i] = -5
	}
}

// P3: what is handed in stays as it is and is not shared, what lies behind a
// list's length is not read, and no two lists that are answered share memory.
func TestMemory(t *testing.T) {
	arrows := ofArrows(6, 4, 0, 0, 1, 0, 1, 2, 1, 1, 3, 2, 2, 4, 2, 3, 5, 3, 2, 5, 3, 3, 4, 5, 1, 4).Arrows
	was := slices.Clone(arrows)
	p := api.Plant{
		Machine: api.Machine{States: 6, Events: 4, Starts: behind([]int{0}), Arrows: arrows[:7], Ends: behind([]int{1})},
		Seen:    behind([]int{1, 2, 3}), Secret: behind([]int{4}),
	}
	free := behind([]int{1})
	want := api.Veil{Nodes: [][]int{{0, 1}, {2, 3}, {4, 5}}, Moves: []api.Move{
		{Node: 0, Event: 1, Stay: []int{0, 1}, To: 1},
		{Node: 1, Event: 2, Stay: []int{2, 3}, To: 2},
		{Node: 1, Event: 3, Stay: []int{2, 3}, To: 2},
	}}
	for range 2 {
		check(t, "memory", p, free, want)
		check(t, "nothing of it is free, nothing secret", api.Plant{Machine: p.Machine, Seen: p.Seen, Secret: p.Secret[:0]}, free[:0], want)
		v, _ := made(t, p, free)
		for i := range want.Nodes {
			if !slices.Equal(v.Nodes[i], want.Nodes[i]) {
				t.Error("a node shares memory: ", v)
			}
			spoil(v.Nodes[i])
		}
		for i := range want.Moves {
			if !slices.Equal(v.Moves[i].Stay, want.Moves[i].Stay) {
				t.Error("a move shares memory: ", v)
			}
			spoil(v.Moves[i].Stay)
		}
	}
	if !untouched(p.Machine.Starts, []int{0}) || !untouched(p.Machine.Ends, []int{1}) || !slices.Equal(arrows, was) ||
		!untouched(p.Seen, []int{1, 2, 3}) || !untouched(p.Secret, []int{4}) || !untouched(free, []int{1}) {
		t.Error("what was handed in is changed or shared")
	}
	l := []int{0}
	check(t, "one list", plant(api.Machine{States: 2, Events: 1, Starts: l, Arrows: []api.Arrow{{To: 1}}, Ends: l}, l, l[:0]), l,
		api.Veil{Nodes: [][]int{{0}, {1}}, Moves: []api.Move{{Stay: []int{0}, To: 1}}})
	nothing(t, "one list, secret too", plant(api.Machine{States: 2, Events: 1, Starts: l, Ends: l}, l, l), l)
}
