package veil

import (
	"maps"
	"slices"
	"testing"

	"jalousie/api"
	"jalousie/current"
	"jalousie/determine"
	"jalousie/hide"
	"jalousie/machine"
	"jalousie/row"
)

// none is where no arrow leads.
const none = -1

// to answers where a state of a plain plant leads to at an event.
func to(p api.Plant, from, event int) int {
	for _, a := range p.Machine.Arrows {
		if a.From == from && a.Event == event {
			return a.To
		}
	}
	return none
}

// knower tells of a language K the row of a list of seen events, and those states
// of it from which K goes on by a seen event.
type knower struct {
	row  func(list []int) []int
	stay func(list []int, event int) []int
}

// veilOf answers the veil of a language, as the document says it; lists with the
// same row are taken as one.
func veilOf(p api.Plant, k knower) api.Veil {
	lists, v := [][]int{nil}, api.Veil{Nodes: [][]int{k.row(nil)}}
	for at := 0; at < len(lists); at++ {
		for _, event := range p.Seen {
			stay := k.stay(lists[at], event)
			if len(stay) == 0 {
				continue
			}
			list := append(slices.Clone(lists[at]), event)
			next := k.row(list)
			number := slices.IndexFunc(v.Nodes, func(l []int) bool { return slices.Equal(l, next) })
			if number < 0 {
				number = len(v.Nodes)
				v.Nodes, lists = append(v.Nodes, next), append(lists, list)
			}
			v.Moves = append(v.Moves, api.Move{Node: at, Event: event, Stay: stay, To: number})
		}
	}
	return v
}

// tally counts what was answered: so a test tells whether it tested much.
type tally struct{ nothing, whole, less, parted int }

// add counts a veil: there is none, it forbids nothing, it forbids something, or
// it forbids an event in some states of a node and lets it be in others.
func (c *tally) add(p api.Plant, v api.Veil, is bool) {
	if !is {
		c.nothing++
		return
	}
	forbids, parts := false, false
	for n, node := range v.Nodes {
		for _, event := range p.Seen {
			able := slices.DeleteFunc(slices.Clone(node), func(x int) bool { return to(p, x, event) == none })
			move := slices.IndexFunc(v.Moves, func(m api.Move) bool { return m.Node == n && m.Event == event })
			forbids = forbids || move < 0 && len(able) > 0 || move >= 0 && len(v.Moves[move].Stay) < len(able)
			parts = parts || move >= 0 && len(v.Moves[move].Stay) < len(able)
		}
	}
	switch {
	case parts:
		c.parted++
	case forbids:
		c.less++
	default:
		c.whole++
	}
}

func (c *tally) atLeast(t *testing.T, least int) {
	t.Helper()
	if min(c.nothing, c.whole, c.less, c.parted) < least {
		t.Error("the test is wrong: ", *c)
	}
}

// ending is the state where a word's run ends, and what is seen of the word.
type ending struct {
	state int
	seen  string
}

// words is a language; an event of a word is a byte.
type words map[string]ending

// allWords answers all words that have a run in p, which has no rings.
func allWords(p api.Plant) words {
	all := words{}
	var goOn func(word string, at ending)
	goOn = func(word string, at ending) {
		all[word] = at
		for event := range p.Machine.Events {
			next := ending{to(p, at.state, event), at.seen}
			if slices.Contains(p.Seen, event) {
				next.seen += string(rune(event))
			}
			if next.state != none {
				goOn(word+string(rune(event)), next)
			}
		}
	}
	for _, n := range p.Machine.Starts {
		goOn("", ending{state: n})
	}
	return all
}

// open answers how many words of k end outside Secret of which a list is seen.
func (k words) open(p api.Plant) map[string]int {
	open := map[string]int{}
	for _, at := range k {
		if !slices.Contains(p.Secret, at.state) {
			open[at.seen]++
		}
	}
	return open
}

func (k words) has(word string) bool {
	_, is := k[word]
	return is
}

// fits tells whether k, with a word, has what the word begins with, and all that an
// event that is not free makes of it.
func (k words) fits(word string, all words, free []int) bool {
	if word != "" && !k.has(word[:len(word)-1]) {
		return false
	}
	for event := range api.MaxEvents {
		longer := word + string(rune(event))
		if all.has(longer) && !k.has(longer) && !slices.Contains(free, event) {
			return false
		}
	}
	return true
}

// keeps tells whether k is a K that keeps the secret, by the words of O1.
func keeps(p api.Plant, free []int, all, k words) bool {
	open := k.open(p)
	for word, at := range k {
		if !k.fits(word, all, free) || open[at.seen] == 0 {
			return false
		}
	}
	return k.has("")
}

// byAll answers all words that any K has that keeps the secret: all are tried.
func byAll(p api.Plant, free []int, all words) words {
	var list []string
	for word := range all {
		list = append(list, word)
	}
	union := words{}
	for set := range 1 << len(list) {
		k := words{}
		for _, n := range ofBits(set) {
			k[list[n]] = all[list[n]]
		}
		if keeps(p, free, all, k) {
			maps.Copy(union, k)
		}
	}
	return union
}

// byTaking takes from all words those that no K can have that keeps the secret,
// until there are no more.
func byTaking(p api.Plant, free []int, all words) words {
	k := maps.Clone(all)
	for before := -1; before != len(k); {
		before = len(k)
		open := k.open(p)
		maps.DeleteFunc(k, func(word string, at ending) bool {
			return !k.fits(word, all, free) || open[at.seen] == 0
		})
	}
	return k
}

// ofWords tells what a finite language is; it asks that words of which the same
// is seen, and that end in the same state, are gone on from alike.
func ofWords(t *testing.T, p api.Plant, k words) knower {
	t.Helper()
	ends := func(list []int, event int) (int, int) {
		seen, states, goOn, stuck := "", 0, 0, 0
		for _, n := range list {
			seen += string(rune(n))
		}
		for word, at := range k {
			switch bit := 1 << at.state; {
			case at.seen != seen:
				continue
			case k.has(word + string(rune(event))):
				goOn |= bit
			default:
				stuck |= bit
			}
			states |= 1 << at.state
		}
		if goOn&stuck != 0 {
			t.Error("words are not gone on from alike: ", p, k, list, event)
		}
		return states, goOn
	}
	return knower{
		row:  func(list []int) []int { states, _ := ends(list, api.MaxEvents); return ofBits(states) },
		stay: func(list []int, event int) []int { _, goOn := ends(list, event); return ofBits(goOn) },
	}
}

// hold holds Make against what is known of the greatest K, if there is one.
func hold(t *testing.T, p api.Plant, free []int, is bool, k knower) {
	t.Helper()
	if !is {
		nothing(t, "by the document's words", p, free)
		return
	}
	check(t, "by the document's words", p, free, veilOf(p, k))
}

// goes tells whether a veil lets a plant go on from a state at an event, when it is
// at a node, and to which node.
func goes(p api.Plant, v api.Veil, node, state, event int) (int, bool) {
	if !slices.Contains(p.Seen, event) {
		return node, true
	}
	for _, m := range v.Moves {
		if m.Node == node && m.Event == event {
			return m.To, slices.Contains(m.Stay, state)
		}
	}
	return 0, false
}

// lets tells whether a veil lets a plant do a word that has a run.
func lets(p api.Plant, v api.Veil, word string) bool {
	node, is := 0, true
	state := p.Machine.Starts[0]
	for _, event := range word {
		if node, is = goes(p, v, node, state, int(event)); !is {
			return false
		}
		state = to(p, state, int(event))
	}
	return true
}

// byWords holds Make against all words, of a plant without rings. Where there are
// at most few words, all languages are tried.
func byWords(t *testing.T, p api.Plant, free []int, few int) {
	t.Helper()
	all := allWords(p)
	k := byTaking(p, free, all)
	if len(k) > 0 && !keeps(p, free, all, k) {
		t.Error("the test is wrong: ", p, free, k)
	}
	if len(all) <= few {
		if union := byAll(p, free, all); !maps.Equal(k, union) {
			t.Error("the test is wrong: ", p, free, k, union)
		}
	}
	hold(t, p, free, len(k) > 0, ofWords(t, p, k))
	v, is := made(t, p, free)
	for word := range all {
		if is && lets(p, v, word) != k.has(word) {
			t.Errorf("Make(%v, %v): %v: what of the word %v?", p, free, v, []byte(word))
		}
	}
}

// mixed answers a number that hangs on n, its bits well mixed.
func mixed(n uint64) uint64 {
	n = (n + 1) * 0x9e3779b97f4a7c15
	n = (n ^ n>>29) * 0xbf58476d1ce4e5b9
	return n ^ n>>32
}

// part answers those numbers of a row of which, hanging on seed, so many of 16 are in.
func part(seed uint64, l []int, of16 int) []int {
	return slices.DeleteFunc(slices.Clone(l), func(n int) bool { return int(mixed(seed+uint64(n))%16) >= of16 })
}

// shape says what plants are made of: up to so many states and events; how many of
// 16 places for arrows have one, at events that are not seen, that are seen and
// not free, and that are free; of 16 states so many are secret; and whether there
// may be rings.
type shape struct {
	states, events       int
	unseen, forced, free int
	secret               int
	rings                bool
}

// some answers a plain plant and what is free, hanging on seed. It begins at any
// state; without rings, arrows lead onwards from there. About a third of the events
// are free, a third are not seen. Great plants are made more often than small ones.
func (s shape) some(seed uint64) (api.Plant, []int) {
	draw := func(of int, below uint64) int { return int(mixed(mixed(seed)+uint64(of)) >> 9 % below) }
	states := 2 + max(draw(1, uint64(s.states-1)), draw(2, uint64(s.states-1)))
	events := 1 + max(draw(3, uint64(s.events)), draw(4, uint64(s.events)))
	first := draw(5, uint64(states))
	m := api.Machine{States: states, Events: events, Starts: []int{first}, Ends: part(seed, count(states), 8)}
	var seen, free []int
	density, shift := [3]int{s.unseen, s.forced, s.free}, draw(6, 3)
	for event := range events {
		role := (event + shift) % 3
		if role != 0 {
			seen = append(seen, event)
		}
		if role == 2 {
			free = append(free, event)
		}
	}
	for from := range states {
		rank := (from - first + states) % states
		for event := range events {
			at := 100 + from*api.MaxEvents + event
			if draw(at, 16) >= density[(event+shift)%3] || !s.rings && rank == states-1 {
				continue
			}
			step := draw(at+100, uint64(states))
			if !s.rings {
				step = 1 + draw(at+100, uint64(states-1-rank))
			}
			m.Arrows = append(m.Arrows, api.Arrow{From: from, Event: event, To: (from + step) % states})
		}
	}
	return api.Plant{Machine: m, Seen: seen, Secret: part(mixed(seed+3), count(states), s.secret)}, free
}

// plants goes through plants of a shape.
func plants(t *testing.T, most uint64, s shape, yield func(p api.Plant, free []int)) {
	t.Helper()
	for seed := range most {
		p, free := s.some(31 * seed)
		if !current.May(p) || !row.Is(free, p.Machine.Events) {
			t.Fatal("the test is wrong: ", p, free)
		}
		yield(p, free)
	}
}

// O1, O2, O3: of plants without rings, against all words, and all languages where
// there are few words.
func TestWords(t *testing.T) {
	var c tally
	for _, s := range []shape{{4, 6, 6, 4, 12, 4, false}, {5, 8, 8, 2, 12, 8, false}, {6, 8, 8, 1, 12, 6, false}, {6, 8, 3, 2, 12, 8, false}} {
		plants(t, 4000, s, func(p api.Plant, free []int) {
			byWords(t, p, free, 8)
			v, is := made(t, p, free)
			c.add(p, v, is)
		})
	}
	c.atLeast(t, 25)
}

// O1, O2, O3: of all plants of 3 states and 2 events whose arrows lead to greater
// states, with all that may be seen, free and secret.
func TestAllWords(t *testing.T) {
	targets := [][]int{{none, 1, 2}, {none, 2}}
	for arrows := range 3 * 3 * 2 * 2 {
		m := api.Machine{States: 3, Events: 2, Starts: []int{0}}
		left := arrows
		for from, to := range targets {
			for event := range 2 {
				if n := to[left%len(to)]; n != none {
					m.Arrows = append(m.Arrows, api.Arrow{From: from, Event: event, To: n})
				}
				left /= len(to)
			}
		}
		all(m, func(p api.Plant, free []int) { byWords(t, p, free, 9) })
	}
}

// all goes through all plants of a machine, and all that may be free.
func all(m api.Machine, yield func(p api.Plant, free []int)) {
	for secret := range 1 << m.States {
		for seen := range 1 << m.Events {
			for free := range 1 << m.Events {
				if free&^seen == 0 {
					yield(plant(m, ofBits(seen), ofBits(secret)), ofBits(free))
				}
			}
		}
	}
}

// cells are the lists of up to so many seen events, and of each list the states in
// which words may end of which that is seen; some are taken away, as no K that
// keeps the secret has such a word. The list of an event behind another list has
// the number of that one, times how many events are seen, and the event's place
// behind 1 more.
type cells struct {
	api.Plant
	free        []int
	deep, inner int // how many lists there are, and how many that are not of the greatest length
	taken       [][6]bool
	come        [][6]bool
}

func newCells(p api.Plant, free []int, depth int) *cells {
	c := &cells{Plant: p, free: free}
	for range depth + 1 {
		c.inner, c.deep = c.deep, c.deep*len(p.Seen)+1
	}
	c.taken = make([][6]bool, c.deep)
	for c.step() {
	}
	return c
}

// number answers a list's number.
func (c *cells) number(list []int) int {
	n := 0
	for _, event := range list {
		n = n*len(c.Seen) + 1 + slices.Index(c.Seen, event)
	}
	return n
}

// leads answers the cell that one leads to at an event, and whether there is one.
func (c *cells) leads(list, state, event int) (int, int, bool) {
	next := to(c.Plant, state, event)
	place := slices.Index(c.Seen, event)
	if next == none || place >= 0 && list >= c.inner {
		return 0, 0, false
	}
	if place < 0 {
		return list, next, true
	}
	return list*len(c.Seen) + 1 + place, next, true
}

// find finds the cells that are come to along those that are not taken away.
func (c *cells) find() {
	c.come = make([][6]bool, c.deep)
	var visit func(list, state int)
	visit = func(list, state int) {
		if c.taken[list][state] || c.come[list][state] {
			return
		}
		c.come[list][state] = true
		for event := range c.Machine.Events {
			if l, s, is := c.leads(list, state, event); is {
				visit(l, s)
			}
		}
	}
	for _, n := range c.Machine.Starts {
		visit(0, n)
	}
}

// step takes cells away, and tells whether there were such.
func (c *cells) step() bool {
	c.find()
	again := false
	for list := range c.come {
		open := false
		for state := range c.Machine.States {
			open = open || c.come[list][state] && !slices.Contains(c.Secret, state)
		}
		for state := range c.Machine.States {
			if c.come[list][state] && (!open || c.forced(list, state)) {
				c.taken[list][state] = true
				again = true
			}
		}
	}
	return again
}

// forced tells whether an event that is not free leads from a cell to one that is
// taken away.
func (c *cells) forced(list, state int) bool {
	for event := range c.Machine.Events {
		if l, s, is := c.leads(list, state, event); is && c.taken[l][s] && !slices.Contains(c.free, event) {
			return true
		}
	}
	return false
}

// knower tells what the cells do.
func (c *cells) knower() knower {
	pick := func(list []int, is func(list, state int) bool) []int {
		var l []int
		for state := range c.Machine.States {
			if n := c.number(list); c.come[n][state] && is(n, state) {
				l = append(l, state)
			}
		}
		return l
	}
	return knower{
		row: func(list []int) []int { return pick(list, func(int, int) bool { return true }) },
		stay: func(list []int, event int) []int {
			return pick(list, func(n, state int) bool {
				l, s, is := c.leads(n, state, event)
				return is && c.come[l][s]
			})
		},
	}
}

// byCells holds Make against the cells, with lists of up to depth events, and
// tells whether these are long enough. A way on that tells the secret takes no row
// twice that does not: so what is told of a list holds, where so many events more
// than there are such rows are behind it.
func byCells(t *testing.T, p api.Plant, free []int, depth int) bool {
	t.Helper()
	c := newCells(p, free, depth)
	k := c.knower()
	rows, b := 0, newByBits(p, free)
	for set := range 1 << p.Machine.States {
		if set&^b.secret != 0 && b.unseen(set) == set {
			rows++
		}
	}
	enough, stay := depth >= rows, k.stay
	k.stay = func(list []int, event int) []int {
		if len(list)+1+rows > depth {
			enough = false
			return nil
		}
		return stay(list, event)
	}
	v := veilOf(p, k)
	if !enough {
		return false
	}
	if !slices.Contains(c.come[0][:], true) {
		nothing(t, "by cells", p, free)
	} else {
		check(t, "by cells", p, free, v)
	}
	return true
}

// O1, O2, O3: of all plain machines of 2 states and 2 events, with rings.
func TestAllCells(t *testing.T) {
	for arrows := range 81 {
		for start := range 3 {
			m := api.Machine{States: 2, Events: 2, Starts: []int{start}}
			if start == 2 {
				m.Starts = nil
			}
			left := arrows
			for at := range 4 {
				if left%3 < 2 {
					m.Arrows = append(m.Arrows, api.Arrow{From: at / 2, Event: at % 2, To: left % 3})
				}
				left /= 3
			}
			all(m, func(p api.Plant, free []int) {
				if !byCells(t, p, free, 7) {
					t.Error("the test is wrong: ", p, free)
				}
			})
		}
	}
}

// O1, O2, O3: of plants with rings; lists are shorter, where more events are seen.
func TestCells(t *testing.T) {
	var c tally
	for _, s := range []shape{{3, 8, 4, 4, 12, 6, true}, {4, 4, 4, 4, 12, 4, true}, {4, 6, 4, 3, 12, 8, true}, {5, 4, 4, 4, 12, 8, true}} {
		plants(t, 4000, s, func(p api.Plant, free []int) {
			depths := []int{40, 40, 10, 7, 6, 5, 0, 0, 0}
			if byCells(t, p, free, depths[len(p.Seen)]) {
				v, is := made(t, p, free)
				c.add(p, v, is)
			}
		})
	}
	c.atLeast(t, 10)
}

// byBits tells of sets of states, as the bits of a number, what Make does.
type byBits struct {
	api.Plant
	free, secret int
	known        map[int]bool
}

func newByBits(p api.Plant, free []int) *byBits {
	return &byBits{Plant: p, free: bitsOf(free), secret: bitsOf(p.Secret), known: map[int]bool{}}
}

// bitsOf answers the number that has the bits of a row.
func bitsOf(l []int) int {
	set := 0
	for _, n := range l {
		set |= 1 << n
	}
	return set
}

// unseen answers a set, with what unseen events lead to from it.
func (b *byBits) unseen(set int) int {
	for range b.Machine.States {
		for _, a := range b.Machine.Arrows {
			if set>>a.From&1 == 1 && !slices.Contains(b.Seen, a.Event) {
				set |= 1 << a.To
			}
		}
	}
	return set
}

// after answers where a set leads to at a seen event, and those of it that go.
func (b *byBits) after(set, event int) (int, int) {
	next, able := 0, 0
	for _, a := range b.Machine.Arrows {
		if a.Event == event && set>>a.From&1 == 1 {
			next |= 1 << a.To
			able |= 1 << a.From
		}
	}
	return b.unseen(next), able
}

// tells tells whether some list of seen events that are not free leads from a set
// to where all is secret.
func (b *byBits) tells(set int) bool {
	if is, known := b.known[set]; known {
		return is
	}
	found := []int{set}
	for at := 0; at < len(found); at++ {
		if found[at]&^b.secret == 0 {
			b.known[set] = true
			return true
		}
		for _, event := range b.Seen {
			next, able := b.after(found[at], event)
			if b.free>>event&1 == 0 && able != 0 && !slices.Contains(found, next) {
				found = append(found, next)
			}
		}
	}
	b.known[set] = false
	return false
}

// stay answers what of a set may go on at a seen event.
func (b *byBits) stay(set, event int) int {
	_, able := b.after(set, event)
	if b.free>>event&1 == 0 {
		return able
	}
	out := 0
	for some := able; some > 0; some = (some - 1) & able {
		if next, _ := b.after(some, event); !b.tells(next) {
			out |= some
		}
	}
	return out
}

// first answers the set of the empty list.
func (b *byBits) first() int { return b.unseen(bitsOf(b.Machine.Starts)) }

// knower tells what the bits do.
func (b *byBits) knower() knower {
	at := func(list []int) int {
		set := b.first()
		for _, event := range list {
			set, _ = b.after(b.stay(set, event), event)
		}
		return set
	}
	return knower{
		row:  func(list []int) []int { return ofBits(at(list)) },
		stay: func(list []int, event int) []int { return ofBits(b.stay(at(list), event)) },
	}
}

// held holds Make against the bits, and answers what it answers.
func held(t *testing.T, p api.Plant, free []int) (api.Veil, bool) {
	t.Helper()
	b := newByBits(p, free)
	hold(t, p, free, len(p.Machine.Starts) > 0 && !b.tells(b.first()), b.knower())
	return made(t, p, free)
}

// great are shapes of the greatest plants.
func great() []shape {
	return []shape{{6, 8, 3, 4, 12, 2, true}, {6, 8, 4, 4, 12, 4, true}, {6, 8, 3, 6, 12, 6, true}, {6, 6, 6, 3, 12, 6, true}, {5, 8, 4, 6, 12, 8, true}}
}

// O2, O3: of plants of up to 6 states and 8 events.
func TestGreat(t *testing.T) {
	var c tally
	most := 0
	for _, s := range great() {
		plants(t, 2000, s, func(p api.Plant, free []int) {
			v, is := held(t, p, free)
			c.add(p, v, is)
			most = max(most, len(v.Nodes))
		})
	}
	c.atLeast(t, 100)
	if most < 30 {
		t.Error("the test is wrong: ", most)
	}
}

// O3, P1: as many nodes as can be: an unseen arrow is needed for rows of several
// states, here from 0 to 1, so of the 63 rows those have no node that have 0 and
// not 1. Event 1 leads from each state to the next, each other one stays in all
// states but one.
func TestMost(t *testing.T) {
	m := ofArrows(6, 8, 0, 0, 1)
	for n := range 6 {
		m.Arrows = append(m.Arrows, api.Arrow{From: n, Event: 1, To: (n + 1) % 6})
		for event := 2; event < 8; event++ {
			if event != n+2 {
				m.Arrows = append(m.Arrows, api.Arrow{From: n, Event: event, To: n})
			}
		}
	}
	for secret := range 1 << 6 {
		for _, free := range [][]int{nil, {1}, {2, 4, 6}, {3, 5, 7}, count(8)[1:]} {
			p := plant(m, count(8)[1:], ofBits(secret))
			if v, is := held(t, p, free); secret == 0 && (!is || len(v.Nodes) != 47) {
				t.Errorf("Make(%v): %d nodes", p, len(v.Nodes))
			}
		}
	}
}

// pair is a node and a state.
type pair struct{ node, state int }

// veiled answers the machine that does what a veil lets a plant do, and the pairs
// that are its states. It asks that nothing is forbidden but what is free.
func veiled(t *testing.T, p api.Plant, free []int, v api.Veil) (api.Machine, []pair) {
	t.Helper()
	m := api.Machine{Events: p.Machine.Events, Starts: []int{0}}
	pairs := []pair{{0, p.Machine.Starts[0]}}
	for at := 0; at < len(pairs); at++ {
		for event := range p.Machine.Events {
			next := to(p, pairs[at].state, event)
			if next == none {
				continue
			}
			node, is := goes(p, v, pairs[at].node, pairs[at].state, event)
			if !is {
				if !slices.Contains(free, event) {
					t.Errorf("Make(%v, %v): %v: event %d is forbidden", p, free, v, event)
				}
				continue
			}
			number := slices.Index(pairs, pair{node, next})
			if number < 0 {
				number = len(pairs)
				pairs = append(pairs, pair{node, next})
			}
			m.Arrows = append(m.Arrows, api.Arrow{From: at, Event: event, To: number})
		}
	}
	m.States = len(pairs)
	return m, pairs
}

// O1, O2, O3: who sees what a veil lets a plant do never knows that it is in
// Secret; and the nodes are what they can know, as the packages hide and determine
// tell it.
func TestVeiled(t *testing.T) {
	tested := 0
	for _, s := range great() {
		plants(t, 300, s, func(p api.Plant, free []int) {
			v, is := made(t, p, free)
			if !is {
				return
			}
			m, pairs := veiled(t, p, free, v)
			h, e := hide.Hide(m, p.Seen)
			if e != api.OK {
				return
			}
			_, sets, e := determine.Make(h)
			if e != api.OK {
				return
			}
			sets = slices.DeleteFunc(sets, func(l []int) bool { return len(l) == 0 })
			var nodes [][]int
			for n, set := range sets {
				row := 0
				for _, number := range set {
					row |= 1 << pairs[number].state
					if pairs[number].node != n {
						t.Errorf("Make(%v, %v): %v: nodes are not numbered as they are found", p, free, v)
					}
				}
				if row&^bitsOf(p.Secret) == 0 {
					t.Errorf("Make(%v, %v): %v: the secret is told", p, free, v)
				}
				nodes = append(nodes, ofBits(row))
			}
			if !slices.EqualFunc(nodes, v.Nodes, slices.Equal[[]int]) {
				t.Errorf("Make(%v, %v): %v: but the rows are %v", p, free, v, nodes)
			}
			tested++
		})
	}
	if tested < 700 {
		t.Error("the test is wrong: ", tested)
	}
}

// lesser tells whether of two plants, that differ but in what is seen and secret,
// what the first one's veil lets be the second one's does; and whether that is all
// that it does.
func lesser(p, q api.Plant, v, w api.Veil) (is, both bool) {
	type place struct{ one, other, state int }
	is, both = true, true
	places := []place{{0, 0, p.Machine.Starts[0]}}
	for at := 0; at < len(places); at++ {
		here := places[at]
		for event := range p.Machine.Events {
			state := to(p, here.state, event)
			if state == none {
				continue
			}
			one, first := goes(p, v, here.one, here.state, event)
			other, second := goes(q, w, here.other, here.state, event)
			is, both = is && (!first || second), both && first == second
			if next := (place{one, other, state}); first && second && !slices.Contains(places, next) {
				places = append(places, next)
			}
		}
	}
	return is, both
}

// O2: who can forbid more, who has less to keep secret, and who is seen less may
// do all that they could, or more.
func TestMoreAndLess(t *testing.T) {
	var more [3]int
	for _, s := range great()[:3] {
		plants(t, 1500, s, func(p api.Plant, free []int) {
			for kind := range more {
				q, able := p, free
				switch kind {
				case 0:
					able = p.Seen
				case 1:
					q.Secret = p.Secret[:len(p.Secret)/2]
				case 2:
					q.Seen = slices.DeleteFunc(slices.Clone(p.Seen), func(n int) bool { return n%2 == 1 && !slices.Contains(free, n) })
				}
				v, is := made(t, p, free)
				w, too := made(t, q, able)
				if is && !too {
					t.Errorf("Make(%v, %v): %v; Make(%v, %v): nothing", p, free, v, q, able)
				}
				if !is || !too {
					continue
				}
				fine, both := lesser(p, q, v, w)
				if !fine {
					t.Errorf("Make(%v, %v): %v; Make(%v, %v): %v: less", p, free, v, q, able, w)
				}
				if !both {
					more[kind]++
				}
			}
		})
	}
	if slices.Min(more[:]) < 20 {
		t.Error("the test is wrong: ", more)
	}
}

// O2: where nothing leaks (I3), nothing is forbidden, whatever is free; where
// something does, nothing is kept if nothing is free. The nodes are the estimates
// then, and stay what they are.
func TestLeak(t *testing.T) {
	leaks, safe := 0, 0
	for _, s := range great() {
		plants(t, 600, s, func(p api.Plant, free []int) {
			leak, _, e := current.Leak(p)
			if e != api.OK {
				t.Fatal("the test is wrong: ", p, e)
			}
			if leak {
				leaks++
				nothing(t, "it leaks, and nothing is free", p, nil)
				return
			}
			safe++
			v, is := made(t, p, nil)
			if !is {
				t.Errorf("Make(%v, nothing): nothing, but nothing leaks", p)
			}
			check(t, "nothing leaks", p, free, v)
			check(t, "nothing leaks, and all is free", p, p.Seen, v)
			var rows [][]int
			places, _ := current.Estimates(p)
			for _, here := range places {
				if here.Set != (machine.Set{}) {
					rows = append(rows, here.Row())
				}
			}
			if !slices.EqualFunc(rows, v.Nodes, slices.Equal[[]int]) {
				t.Errorf("Make(%v, nothing): %v; but the estimates are %v", p, v, rows)
			}
		})
	}
	if min(leaks, safe) < 300 {
		t.Error("the test is wrong: ", leaks, safe)
	}
}
