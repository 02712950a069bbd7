package text

import (
	"regexp"
	"slices"
	"strings"
	"testing"

	"jalousie/api"
)

var (
	anyToken = regexp.MustCompile(`^(?:[a-zA-Z][a-zA-Z0-9_]*|[;,])`)
	// whole is a project whose tokens have one blank behind each.
	whole = regexp.MustCompile(strings.ReplaceAll("^states N+; events N*; seen N*; free N*; faults N*; secret N*; starts N*; ends N*; "+
		"arrows (?:NNN(?:, NNN)*)?; $", "N", "(?:[a-zA-Z][a-zA-Z0-9_]* )"))
	heads = []string{"states", "events", "seen", "free", "faults", "secret", "starts", "ends", "arrows"}
)

// plainTokens answers the tokens of s, and the first fault of them.
func plainTokens(s string) ([]api.Token, api.Fault) {
	var out []api.Token
	for at := 0; at < len(s); {
		if strings.HasPrefix(s[at:], " ") || strings.HasPrefix(s[at:], "\n") {
			at++
			continue
		}
		text := anyToken.FindString(s[at:])
		if text == "" {
			return nil, api.Fault{Code: api.ErrForm, At: at}
		}
		if len(text) > 16 {
			return nil, api.Fault{Code: api.ErrSize, At: at}
		}
		out = append(out, api.Token{Text: text, At: at})
		at += len(text)
	}
	return out, api.Fault{}
}

// endings are what may stand behind the beginning of a project, so that each
// beginning is one of a project with one of them.
func endings() []string {
	rests := []string{""}
	for _, head := range slices.Backward(heads) {
		part := head + " ; "
		if head == "states" {
			part = "states a ; "
		}
		rests = append(rests, part+rests[len(rests)-1])
	}
	var out []string
	for _, rest := range rests {
		out = append(out, rest)
		for names := range 4 {
			out = append(out, strings.Repeat("a ", names)+"; "+rest)
		}
	}
	return out
}

// begins tells whether a project begins with tokens that have one blank behind each.
func begins(text string, endings []string) bool {
	return slices.ContainsFunc(endings, func(end string) bool { return whole.MatchString(text + end) })
}

// plainForm answers the first fault of the form of tokens, by the words of P3:
// where is the first one behind whose ones ahead, and with which, no project begins?
func plainForm(tokens []api.Token, size int, endings []string) api.Fault {
	text := ""
	for _, t := range tokens {
		text += t.Text + " "
	}
	if whole.MatchString(text) {
		return api.Fault{}
	}
	// what begins with something that no project begins with begins none
	first, _ := slices.BinarySearchFunc(tokens, false, func(t api.Token, _ bool) int {
		ahead := ""
		for _, u := range tokens {
			if u.At <= t.At {
				ahead += u.Text + " "
			}
		}
		if begins(ahead, endings) {
			return -1
		}
		return 1
	})
	if first < len(tokens) {
		return api.Fault{Code: api.ErrForm, At: tokens[first].At}
	}
	return api.Fault{Code: api.ErrForm, At: size}
}

// place is a name, and where it stands: in which part, as the how manieth.
type place struct {
	api.Token
	part, at int
}

// places answers the names of the tokens of a project, without the words of the form.
func places(tokens []api.Token) []place {
	var out []place
	part, at := 0, -1
	for _, t := range tokens {
		switch {
		case t.Text == ";":
			part, at = part+1, -1
		case t.Text == ",":
		default:
			if at >= 0 {
				out = append(out, place{t, part, at})
			}
			at++
		}
	}
	return out
}

// namesOf answers the names that stand in a part.
func namesOf(all []place, part int) []string {
	var out []string
	for _, p := range all {
		if p.part == part {
			out = append(out, p.Text)
		}
	}
	return out
}

// namedIn tells in which part the name is to be that stands in a place.
func (p place) namedIn() int {
	switch heads[p.part] {
	case "seen", "free", "faults":
		return 1
	case "arrows":
		return p.at % 3 % 2
	}
	return 0
}

// plainNames answers the first fault of names, by the words of P3.
func plainNames(all []place) api.Fault {
	for _, p := range all {
		names := namesOf(all, p.part)
		ahead := names[:p.at]
		known := slices.Contains(namesOf(all, p.namedIn()), p.Text)
		twice := slices.Contains(ahead, p.Text)
		code := api.OK
		switch {
		case p.part == 0 && twice, p.part == 1 && twice:
			code = api.ErrTwice
		case p.part == 0 && len(ahead) >= 6, p.part == 1 && len(ahead) >= 8:
			code = api.ErrSize
		case p.part >= 2 && !known:
			code = api.ErrName
		case p.part >= 2 && p.part < 8 && twice:
			code = api.ErrTwice
		case p.part == 8 && p.at%3 == 0 && arrowTwice(names, p.at):
			code = api.ErrTwice
		}
		if code != api.OK {
			return api.Fault{Code: code, At: p.At}
		}
	}
	return api.Fault{}
}

// arrowTwice tells whether the three names from at on stand ahead as three, too.
func arrowTwice(names []string, at int) bool {
	for i := 0; i < at; i += 3 {
		if slices.Equal(names[i:i+3], names[at:at+3]) {
			return true
		}
	}
	return false
}

// plainProject answers the project of names without a fault, by the words of P2.
func plainProject(all []place) api.Project {
	states, events := namesOf(all, 0), namesOf(all, 1)
	rowOf := func(names, part []string) []int {
		var l []int
		for n, s := range names {
			if slices.Contains(part, s) {
				l = append(l, n)
			}
		}
		return l
	}
	var arrows []api.Arrow
	for from, a := range states {
		for event, x := range events {
			for to, b := range states {
				for three := range slices.Chunk(namesOf(all, 8), 3) {
					if slices.Equal(three, []string{a, x, b}) {
						arrows = append(arrows, api.Arrow{From: from, Event: event, To: to})
					}
				}
			}
		}
	}
	return api.Project{
		States: states, Events: events,
		Seen: rowOf(events, namesOf(all, 2)), Free: rowOf(events, namesOf(all, 3)), Faults: rowOf(events, namesOf(all, 4)),
		Secret: rowOf(states, namesOf(all, 5)),
		Machine: api.Machine{
			States: len(states), Events: len(events),
			Starts: rowOf(states, namesOf(all, 6)), Ends: rowOf(states, namesOf(all, 7)), Arrows: arrows,
		},
	}
}

// plain answers what Parse is to answer.
func plain(s string, endings []string) (api.Project, api.Fault) {
	if len(s) > api.MaxText {
		return api.Project{}, api.Fault{Code: api.ErrSize}
	}
	tokens, f := plainTokens(s)
	if f != (api.Fault{}) {
		return api.Project{}, f
	}
	if f := plainForm(tokens, len(s), endings); f != (api.Fault{}) {
		return api.Project{}, f
	}
	all := places(tokens)
	if f := plainNames(all); f != (api.Fault{}) {
		return api.Project{}, f
	}
	return plainProject(all), api.Fault{}
}

// byWords holds Parse against plain, and answers the fault.
func byWords(t *testing.T, s string, endings []string) api.Fault {
	t.Helper()
	p, f := Parse(s)
	if want, fault := plain(s, endings); f != fault || !same(p, want) {
		t.Errorf("Parse(%q): %v, %v; asked for: %v, %v", s, p, f, want, fault)
	}
	if f == (api.Fault{}) {
		again(t, p)
	}
	return f
}

// again asks that Print answers the text of p, and that this is read as p.
func again(t *testing.T, p api.Project) {
	t.Helper()
	printed(t, p, plainText(p, false))
}

// P3: all texts of one byte and of two, and all beginnings and ends of a text.
func TestShortTexts(t *testing.T) {
	all := endings()
	for a := range 256 {
		byWords(t, string([]byte{byte(a)}), all)
		for b := range 256 {
			if _, f := Parse(string([]byte{byte(a), byte(b)})); f.Code == api.OK {
				t.Error("a text of two bytes is read: ", a, b)
			}
		}
	}
	_, s := rich()
	for _, s := range []string{s, example, "states states;events seen;seen seen;free;faults;secret states;starts states;ends;arrows states seen states;"} {
		for at := range len(s) + 1 {
			byWords(t, s[:at], all)
			byWords(t, s[at:], all)
			byWords(t, s[:at]+" ", all)
			byWords(t, s+s[at:], all)
		}
	}
}

// P1, P3: a text with each byte taken out, or with another one in its place or ahead of it.
func TestOtherBytes(t *testing.T) {
	all := endings()
	const bytes = "\x00\t\n\r !,-./059:;@AZ[_`abxz{\x7f\x80\xc3\xff"
	found := map[api.Errno]int{}
	for at := range len(example) {
		found[byWords(t, example[:at]+example[at+1:], all).Code]++
		for _, b := range []byte(bytes) {
			found[byWords(t, example[:at]+string([]byte{b})+example[at+1:], all).Code]++
			found[byWords(t, example[:at]+string([]byte{b})+example[at:], all).Code]++
		}
	}
	if found[api.OK] < 100 || found[api.ErrForm] < 1000 || found[api.ErrName] < 100 || found[api.ErrTwice] < 1 {
		t.Error("the test is wrong: ", found)
	}
}

// mixed answers a number that hangs on n, its bits well mixed.
func mixed(n uint64) uint64 {
	n = (n + 1) * 0x9e3779b97f4a7c15
	n = (n ^ n>>29) * 0xbf58476d1ce4e5b9
	return n ^ n>>32
}

// dice answers a closure that answers a number below below, another one each time,
// which hangs on seed.
func dice(seed uint64) func(below int) int {
	state := mixed(seed)
	return func(below int) int {
		state = mixed(state)
		return int(state >> 20 % uint64(below))
	}
}

// shuffled answers some of l, in some order; now and then with one of it twice, or with
// a name that is not among it.
func shuffled(throw func(below int) int, l []string, most, odd int) []string {
	var out []string
	left := slices.Clone(l)
	for range throw(most + 1) {
		if len(left) == 0 {
			break
		}
		at := throw(len(left))
		out = append(out, left[at])
		if throw(odd) > 0 {
			left = slices.Delete(left, at, at+1)
		}
	}
	if throw(odd) == 0 {
		out = slices.Insert(out, throw(len(out)+1), pool()[throw(len(pool()))])
	}
	return out
}

// pool answers names, and among them such as look like words of the form.
func pool() []string {
	return []string{"a", "b", "c", "d", "e", "A", "a1", "a_", "x", "y", "z", "X", "states", "events", "seen", "arrows", "ends", "abcdefghijklmnop"}
}

// someTokens answers tokens of a text that hang on seed; it has a fault, or some, the
// more likely the lesser odd is.
func someTokens(throw func(below int) int, odd int) []string {
	states := shuffled(throw, pool(), 6, odd)
	if len(states) == 0 && throw(odd) > 0 {
		states = []string{"a"}
	}
	events := shuffled(throw, pool(), 8, odd)
	var out []string
	part := func(head string, names []string) {
		out = append(out, head)
		out = append(out, names...)
		out = append(out, ";")
	}
	part("states", states)
	part("events", events)
	for _, head := range heads[2:8] {
		from := states
		if head == "seen" || head == "free" || head == "faults" {
			from = events
		}
		part(head, shuffled(throw, from, 4, 6*odd))
	}
	var arrows []string
	for n := range throw(8) {
		if len(states) == 0 || len(events) == 0 {
			break
		}
		if n > 0 {
			arrows = append(arrows, ",")
		}
		arrows = append(arrows, states[throw(len(states))], events[throw(len(events))], states[throw(len(states))])
		if throw(6*odd) == 0 {
			arrows[throw(len(arrows))] = pool()[throw(len(pool()))]
		}
	}
	part("arrows", arrows)
	return out
}

// disturb changes one token: takes it out, puts another one there, or says it twice.
func disturb(throw func(below int) int, tokens []string) []string {
	others := append(pool(), ";", ",", "free", "faults", "secret", "starts", "abcdefghijklmnopq", "9", "_", ".")
	at := throw(len(tokens))
	switch throw(4) {
	case 0:
		return slices.Delete(tokens, at, at+1)
	case 1:
		return slices.Insert(tokens, at, tokens[at])
	case 2:
		return slices.Insert(tokens, at, others[throw(len(others))])
	}
	tokens[at] = others[throw(len(others))]
	return tokens
}

// spaced answers the text of tokens, with blanks here and there.
func spaced(throw func(below int) int, tokens []string) string {
	blanks := []string{" ", "\n", "  ", " \n"}
	s := ""
	for n, u := range tokens {
		if n > 0 && !strings.ContainsAny(u+tokens[n-1], ";,") || throw(3) == 0 {
			s += blanks[throw(len(blanks))]
		}
		s += u
	}
	if throw(3) == 0 {
		s += blanks[throw(len(blanks))]
	}
	return s
}

// P1, P2, P3, P5: many texts, some of which are of projects, with names, with and
// without what is wrong.
func TestSomeTexts(t *testing.T) {
	all := endings()
	found := map[api.Errno]int{}
	for seed := range uint64(8000) {
		throw := dice(seed)
		tokens := someTokens(throw, 5+int(seed%4)*30)
		if seed%3 == 0 {
			tokens = disturb(throw, tokens)
		}
		found[byWords(t, spaced(throw, tokens), all).Code]++
	}
	if found[api.OK] < 2000 || found[api.ErrForm] < 1000 || min(found[api.ErrName], found[api.ErrTwice]) < 300 || found[api.ErrSize] < 30 {
		t.Error("the test is wrong: ", found)
	}
}

// ofBits answers the row of the bits that a number has.
func ofBits(set int) []int {
	var l []int
	for n := range 63 {
		if set>>n&1 == 1 {
			l = append(l, n)
		}
	}
	return l
}

// P4, P5: all projects of two states and one event.
func TestAllProjects(t *testing.T) {
	for rows := range 1 << 9 {
		for arrows := range 1 << 4 {
			p := ofNames("b a", "x")
			p.Seen, p.Free, p.Faults = ofBits(rows&1), ofBits(rows>>1&1), ofBits(rows>>2&1)
			p.Secret, p.Machine.Starts, p.Machine.Ends = ofBits(rows>>3&3), ofBits(rows>>5&3), ofBits(rows>>7)
			for _, n := range ofBits(arrows) {
				p.Machine.Arrows = append(p.Machine.Arrows, api.Arrow{From: n / 2, To: n % 2})
			}
			again(t, p)
		}
	}
}
