package text

import (
	"math"
	"slices"
	"strings"
	"testing"
	"unsafe"

	"jalousie/api"
)

const example = "states a b;events x;seen x;free;faults;secret b;starts a;ends;arrows a x b;"

// same tells whether two projects are the same, empty lists being nil or not.
func same(a, b api.Project) bool {
	return slices.Equal(a.States, b.States) && slices.Equal(a.Events, b.Events) &&
		a.Machine.States == b.Machine.States && a.Machine.Events == b.Machine.Events &&
		slices.Equal(a.Machine.Starts, b.Machine.Starts) && slices.Equal(a.Machine.Ends, b.Machine.Ends) &&
		slices.Equal(a.Machine.Arrows, b.Machine.Arrows) &&
		slices.Equal(a.Seen, b.Seen) && slices.Equal(a.Free, b.Free) &&
		slices.Equal(a.Faults, b.Faults) && slices.Equal(a.Secret, b.Secret)
}

// ofNames is a project of these names, and of nothing else.
func ofNames(states, events string) api.Project {
	p := api.Project{States: strings.Fields(states), Events: strings.Fields(events)}
	p.Machine.States, p.Machine.Events = len(p.States), len(p.Events)
	return p
}

// parsed asks that s is the text of want.
func parsed(t *testing.T, s string, want api.Project) {
	t.Helper()
	if p, f := Parse(s); f != (api.Fault{}) || !same(p, want) {
		t.Errorf("Parse(%q): %v, %v; asked for: %v", s, p, f, want)
	}
}

// refused asks that s is no text of a project, for what is wrong where the sign ^
// stands in it, which is taken out.
func refused(t *testing.T, marked string, code api.Errno) {
	t.Helper()
	s := strings.Replace(marked, "^", "", 1)
	want := api.Fault{Code: code, At: strings.Index(marked, "^")}
	if p, f := Parse(s); f != want || !same(p, api.Project{}) {
		t.Errorf("Parse(%q): %v, %v; asked for: %v", s, p, f, want)
	}
}

// printed asks that p has the text want, and that this is read as p.
func printed(t *testing.T, p api.Project, want string) {
	t.Helper()
	if s, e := Print(p); e != api.OK || s != want {
		t.Errorf("Print(%v): %q, %d; asked for: %q", p, s, e, want)
	}
	parsed(t, want, p)
}

// unprinted asks that p has no text.
func unprinted(t *testing.T, name string, p api.Project, want api.Errno) {
	t.Helper()
	if s, e := Print(p); e != want || s != "" {
		t.Errorf("%s: Print(%v): %q, %d; asked for: %d", name, p, s, e, want)
	}
}

// rich is a project with something in each part, and its text in Print's order.
func rich() (api.Project, string) {
	p := ofNames("c a b", "y x z")
	p.Seen, p.Free, p.Faults = []int{0, 2}, []int{2}, []int{1}
	p.Secret, p.Machine.Starts, p.Machine.Ends = []int{1, 2}, []int{0}, []int{0, 1, 2}
	p.Machine.Arrows = []api.Arrow{{From: 0, Event: 0, To: 1}, {From: 0, Event: 0, To: 2}, {From: 0, Event: 2, To: 0}, {From: 1, Event: 1, To: 2}, {From: 2, Event: 0, To: 0}}
	return p, "states c a b ; events y x z ; seen y z ; free z ; faults x ; secret a b ; starts c ; ends c a b ; " +
		"arrows c y a , c y b , c z c , a x b , b y c ;"
}

// P1, P2, P4: the chapter's example.
func TestExample(t *testing.T) {
	p := ofNames("a b", "x")
	p.Seen, p.Secret, p.Machine.Starts = []int{0}, []int{1}, []int{0}
	p.Machine.Arrows = []api.Arrow{{From: 0, Event: 0, To: 1}}
	parsed(t, example, p)
	printed(t, p, "states a b ; events x ; seen x ; free ; faults ; secret b ; starts a ; ends ; arrows a x b ;")
}

// P2, P4: rows and arrows are in their order, however they stand in the text;
// states and events are numbered as they stand.
func TestOrder(t *testing.T) {
	p, s := rich()
	printed(t, p, s)
	parsed(t, "states c a b;events y x z;seen z y;free z;faults x;secret b a;starts c;ends b c a;arrows b y c,a x b,c z c,c y b,c y a;", p)
	parsed(t, "states c a b;events y x z;seen z y;free z;faults x;secret b a;starts c;ends a b c;arrows c z c,c y b,b y c,c y a,a x b;", p)
	// an arrow's first and third names are states, the second one is an event
	q := ofNames("a b", "b a")
	q.Machine.Arrows = []api.Arrow{{From: 0, Event: 0, To: 0}, {From: 0, Event: 1, To: 1}, {From: 1, Event: 0, To: 1}}
	printed(t, q, "states a b ; events b a ; seen ; free ; faults ; secret ; starts ; ends ; arrows a b a , a a b , b b b ;")
	q.Seen, q.Free, q.Faults, q.Secret, q.Machine.Starts, q.Machine.Ends = []int{0}, []int{1}, []int{0, 1}, []int{0}, []int{1}, []int{0, 1}
	printed(t, q, "states a b ; events b a ; seen b ; free a ; faults b a ; secret a ; starts b ; ends a b ; arrows a b a , a a b , b b b ;")
}

// P1: what is a name.
func TestNames(t *testing.T) {
	for _, s := range []string{"a", "z", "A", "Z", "aZ09_", "a_", "a__0", "Z9", "abcdefghijklmnop", "A_23456789012345"} {
		parsed(t, "states "+s+";events "+s+";seen;free;faults;secret;starts;ends;arrows;", ofNames(s, s))
	}
	parsed(t, "states a A a0 a_ aa;events;seen;free;faults;secret;starts;ends;arrows;", ofNames("a A a0 a_ aa", ""))
	// names that look like the words of the form
	p := ofNames("states events seen free faults secret", "starts ends arrows states a A")
	p.Seen, p.Secret = []int{3}, []int{0, 5}
	p.Machine.Ends = []int{1}
	p.Machine.Arrows = []api.Arrow{{From: 0, Event: 3, To: 0}, {From: 5, Event: 2, To: 1}}
	printed(t, p, "states states events seen free faults secret ; events starts ends arrows states a A ; seen states ; free ; "+
		"faults ; secret states secret ; starts ; ends events ; arrows states states states , secret arrows events ;")
	refused(t, "states states events x;^seen;free;faults;secret;starts;ends;arrows;", api.ErrForm)
}

// P1: where blanks may stand.
func TestBlanks(t *testing.T) {
	p, s := rich()
	for _, blank := range []string{" ", "\n", "  ", "\n\n", " \n \n ", strings.Repeat(" ", 50)} {
		parsed(t, strings.ReplaceAll(s, " ", blank), p)
		parsed(t, blank+s, p)
		parsed(t, s+blank, p)
	}
	tight := strings.NewReplacer(" ; ", ";", " , ", ",", " ;", ";").Replace(s)
	parsed(t, tight, p)
	parsed(t, strings.ReplaceAll(tight, ";", "\n;"), p)
	parsed(t, strings.ReplaceAll(tight, ",", ",\n"), p)
	for _, other := range []string{"\t", "\r", "\v", "\f", "\x00", "\u00a0", "\u2028", "\x85", "\x1f", "!"} {
		refused(t, "states^"+other+"a;", api.ErrForm)
		refused(t, "^"+other+s, api.ErrForm)
		refused(t, s+"^"+other, api.ErrForm)
	}
}

// P3: a text that is too long, whatever else is wrong.
func TestMaxText(t *testing.T) {
	p, s := rich()
	full := s + strings.Repeat(" ", api.MaxText-len(s))
	parsed(t, full, p)
	parsed(t, strings.Repeat("\n", api.MaxText-len(s))+s, p)
	refused(t, "^"+full+" ", api.ErrSize)
	refused(t, "^"+full+";", api.ErrSize)
	refused(t, "^"+strings.Repeat("?", api.MaxText+1), api.ErrSize)
	refused(t, "^"+strings.Repeat(" ", api.MaxText+1), api.ErrSize)
	refused(t, "^"+strings.Repeat("a", 1<<24), api.ErrSize)
	refused(t, "^"+strings.Repeat("?", api.MaxText), api.ErrForm)
	refused(t, "^"+strings.Repeat("a", api.MaxText), api.ErrSize)
	refused(t, "^"+strings.Repeat("a ", api.MaxText/2), api.ErrForm)
	refused(t, strings.Repeat(" ", api.MaxText)+"^", api.ErrForm)
	refused(t, full[:api.MaxText-1]+"^?", api.ErrForm)
}

// P3: bytes with which no token begins, and names that are too long: the first
// one, ahead of all else that is wrong.
func TestTokens(t *testing.T) {
	for _, b := range []string{"0", "9", "_", ".", ":", "{", "}", "[", "`", "@", "/", "-", "\"", "é", "\xff", "\x80", "\x7f", "1a"} {
		refused(t, "^"+b, api.ErrForm)
		refused(t, "states a;^"+b, api.ErrForm)
		refused(t, "states a ^"+b+" b;", api.ErrForm)
		refused(t, "a , ; ^"+b, api.ErrForm)
		refused(t, "states a a x x ; ; ^"+b+" ;", api.ErrForm)
	}
	for _, b := range []string{".", "{", "[", "`", "@", "/", ":", "é", "\xff", "-"} {
		refused(t, "states a^"+b+"b;", api.ErrForm)
		refused(t, example+"^"+b, api.ErrForm)
	}
	head := "states abcdefghijklmnop "
	refused(t, head+"^abcdefghijklmnopq", api.ErrSize)
	refused(t, head+"^a0000000000000000;", api.ErrSize)
	refused(t, head+"abcdefghijklmno_ ^", api.ErrForm)
	refused(t, "^abcdefghijklmnopq ?", api.ErrSize)
	refused(t, "^abcdefghijklmnopq?", api.ErrSize)
	refused(t, "^? abcdefghijklmnopq", api.ErrForm)
	refused(t, "^0abcdefghijklmnopq", api.ErrForm)
	refused(t, "abcdefghijklmnop^?", api.ErrForm)
	refused(t, "; ; a a ^abcdefghijklmnopq zbcdefghijklmnopq", api.ErrSize)
	refused(t, example+" ^abcdefghijklmnopq", api.ErrSize)
	refused(t, "states a a;events;seen;free;faults;secret q;starts;ends;arrows ^abcdefghijklmnopq;", api.ErrSize)
}

// P1, P3: tokens that are of no project.
func TestForm(t *testing.T) {
	for _, s := range []string{
		"^", " \n^", "^;", "^,", "^a", "^state a;", "^States a;", "^statess", "^events;", "states^", "states ^;", "states ^,",
		"states a^", "states a\n ^", "states a ^, b;", "states a;^", "states a; ^;", "states a; ^,", "states a; ^event", "states a; ^Events",
		"states a; ^states b", "states a; ^seen;", "states a;events^", "states a;events ^,", "states a;events x ^, y", "states a;events;^",
		"states a;events; ^free;", "states a;events; ^x", "states a;events;seen;^", "states a;events;seen; ^faults",
		"states a;events;seen;free;^", "states a;events;seen;free; ^secret;", "states a;events;seen;free;faults;^",
		"states a;events;seen;free;faults; ^starts;", "states a;events;seen;free;faults;secret;^",
		"states a;events;seen;free;faults;secret; ^ends;", "states a;events;seen;free;faults;secret;starts;^",
		"states a;events;seen;free;faults;secret;starts; ^arrows;", "states a;events;seen;free;faults;secret;starts;ends;^",
		"states a;events;seen;free;faults;secret;starts;ends;  ^", "states a;events;seen;free;faults;secret;starts;ends; ^;",
		"states a;events;seen;free;faults;secret;starts;ends; ^a x a;", "states a;events;seen;free;faults;secret;starts a ^, b;ends;arrows;",
	} {
		refused(t, s, api.ErrForm)
	}
	const head = "states a b;events x y;seen;free;faults;secret;starts;ends;"
	for _, s := range []string{
		"arrows^", "arrows ^,", "arrows a^", "arrows a ^;", "arrows a ^,", "arrows a x^", "arrows a x ^;", "arrows a x ^,", "arrows a x b^",
		"arrows a x b ^a", "arrows a x b ^a x b;", "arrows a x b,^", "arrows a x b, ^;", "arrows a x b, ^,", "arrows a x b,a ^;",
		"arrows a x b,a x ^;", "arrows a x b,a x ^,", "arrows a x b,a y b^", "arrows a x b,a y b ^b", "arrows;^;", "arrows; ^,", "arrows; ^a",
		"arrows; ^states a;", "arrows a x b; ^arrows", "arrows a x b;\n^;",
	} {
		refused(t, head+s, api.ErrForm)
	}
	parsed(t, head+"arrows;", ofNames("a b", "x y"))
	// the form is asked for ahead of what the names are
	refused(t, "states a a;events x x;seen q^", api.ErrForm)
	refused(t, "states a b c d e f g;events;seen;free;faults;secret;starts;ends;arrows^", api.ErrForm)
	refused(t, "states a a;events;seen q;free;faults;secret;starts;ends;arrows q q q; ^q", api.ErrForm)
}

// P3: names that can't be: twice, too many, not there; the first one is told.
func TestWrongNames(t *testing.T) {
	const tail = ";seen;free;faults;secret;starts;ends;arrows;"
	refused(t, "states a ^a;events"+tail, api.ErrTwice)
	refused(t, "states a b c d e ^a;events"+tail, api.ErrTwice)
	refused(t, "states a b c d e f ^g;events"+tail, api.ErrSize)
	refused(t, "states a b c d e f ^f;events"+tail, api.ErrTwice)
	refused(t, "states a b c d e f ^g g a;events"+tail, api.ErrSize)
	refused(t, "states a b ^b d e f g;events"+tail, api.ErrTwice)
	parsed(t, "states a b c d e f;events"+tail, ofNames("a b c d e f", ""))
	parsed(t, "states a;events a b c d e f g h"+tail, ofNames("a", "a b c d e f g h"))
	refused(t, "states a;events a b c d e f g h ^i"+tail, api.ErrSize)
	refused(t, "states a;events a b c d e f g h ^a"+tail, api.ErrTwice)
	refused(t, "states a;events a b ^a d e f g h i"+tail, api.ErrTwice)
	refused(t, "states a;events x ^x;seen q;free;faults;secret;starts;ends;arrows;", api.ErrTwice)
	const head = "states a b;events x y;"
	for _, s := range []string{
		"seen ^z;free;faults;secret;starts;ends;arrows;", "seen x ^a x;free;faults;secret;starts;ends;arrows;", "seen x y ^X;free;faults;secret;starts;ends;arrows;",
		"seen;free ^a;faults;secret;starts;ends;arrows;", "seen;free;faults ^b q;secret q;starts;ends;arrows;", "seen;free;faults y x ^seen;secret;starts;ends;arrows;",
		"seen;free;faults;secret ^x;starts;ends;arrows;", "seen;free;faults;secret a b ^c;starts;ends;arrows;", "seen;free;faults;secret;starts a ^y;ends;arrows;",
		"seen;free;faults;secret;starts;ends ^xy;arrows;", "seen;free;faults;secret;starts;ends b ^aa a;arrows;",
		"seen;free;faults;secret;starts;ends;arrows ^x x a;", "seen;free;faults;secret;starts;ends;arrows a ^a a;", "seen;free;faults;secret;starts;ends;arrows a x ^x;",
		"seen;free;faults;secret;starts;ends;arrows ^q q q;", "seen;free;faults;secret;starts;ends;arrows a x b,a x ^c;", "seen;free;faults;secret;starts;ends;arrows a x b,a ^z b;",
		"seen;free;faults;secret;starts;ends;arrows a x b,^c x b,a x b;", "seen;free;faults;secret;starts;ends;arrows a x ^x,a x b,a x b;",
	} {
		refused(t, head+s, api.ErrName)
	}
	for _, s := range []string{
		"seen x ^x;free;faults;secret;starts;ends;arrows;", "seen y x ^y z;free;faults;secret;starts;ends;arrows;", "seen x;free x ^x;faults;secret;starts;ends;arrows;",
		"seen;free;faults x y ^x;secret;starts;ends;arrows;", "seen;free;faults;secret a ^a;starts;ends;arrows q q q;", "seen;free;faults;secret;starts b a ^b;ends q;arrows;",
		"seen;free;faults;secret;starts;ends a ^a a;arrows;", "seen;free;faults;secret;starts;ends;arrows a x b,^a x b;",
		"seen;free;faults;secret;starts;ends;arrows a x b,b x a,a y b,a x a,^a x b,q q q;", "seen;free;faults;secret;starts;ends;arrows a x b,b x a,^b x a,a x b;",
	} {
		refused(t, head+s, api.ErrTwice)
	}
	refused(t, "states a;events;seen;free;faults;secret;starts;ends;arrows a ^a a;", api.ErrName)
	// what stands in one part may stand in any other one
	p := ofNames("a b", "x y")
	p.Seen, p.Free, p.Faults = []int{0}, []int{0}, []int{0}
	p.Secret, p.Machine.Starts, p.Machine.Ends = []int{1}, []int{1}, []int{1}
	p.Machine.Arrows = []api.Arrow{{From: 0, Event: 0, To: 0}, {From: 0, Event: 0, To: 1}, {From: 0, Event: 1, To: 1}, {From: 1, Event: 0, To: 1}}
	printed(t, p, "states a b ; events x y ; seen x ; free x ; faults x ; secret b ; starts b ; ends b ; arrows a x a , a x b , a y b , b x b ;")
}

// P4: projects that are those of no text.
func TestNoText(t *testing.T) {
	unprinted(t, "nothing", api.Project{}, api.ErrForm)
	bad := []string{"", " ", "0", "_", "0a", "_a", "a b", " a", "a ", "a;", ";", ",", "a-b", "é", "aé", "a\x00", "a\n", "abcdefghijklmnopq", strings.Repeat("a", 1<<20)}
	lists := [][]int{{3}, {-1}, {0, 0}, {1, 0}, {0, 1, 2, 3}, {0, 2, 1}, {math.MaxInt}, {math.MinInt}, {0, api.MaxRow}}
	for name, spoil := range map[string]func(p *api.Project, l []int, s string){
		"a state's name":   func(p *api.Project, _ []int, s string) { p.States = []string{"c", s, "b"} },
		"first state":      func(p *api.Project, _ []int, s string) { p.States = []string{s, "a", "b"} },
		"an event's name":  func(p *api.Project, _ []int, s string) { p.Events = []string{"y", "x", s} },
		"seen":             func(p *api.Project, l []int, _ string) { p.Seen = l },
		"free":             func(p *api.Project, l []int, _ string) { p.Free = l },
		"faults":           func(p *api.Project, l []int, _ string) { p.Faults = l },
		"secret":           func(p *api.Project, l []int, _ string) { p.Secret = l },
		"starts":           func(p *api.Project, l []int, _ string) { p.Machine.Starts = l },
		"ends":             func(p *api.Project, l []int, _ string) { p.Machine.Ends = l },
		"a state twice":    func(p *api.Project, _ []int, _ string) { p.States = []string{"c", "a", "c"} },
		"an event twice":   func(p *api.Project, _ []int, _ string) { p.Events = []string{"y", "x", "x"} },
		"more states":      func(p *api.Project, _ []int, _ string) { p.Machine.States = 4 },
		"fewer states":     func(p *api.Project, _ []int, _ string) { p.Machine.States = 2 },
		"more events":      func(p *api.Project, _ []int, _ string) { p.Machine.Events = 4 },
		"fewer events":     func(p *api.Project, _ []int, _ string) { p.Machine.Events = 2 },
		"no state's name":  func(p *api.Project, _ []int, _ string) { p.States = nil },
		"no event's name":  func(p *api.Project, _ []int, _ string) { p.Events = nil },
		"least states":     func(p *api.Project, _ []int, _ string) { p.Machine.States = math.MinInt },
		"greatest states":  func(p *api.Project, _ []int, _ string) { p.Machine.States = math.MaxInt },
		"least events":     func(p *api.Project, _ []int, _ string) { p.Machine.Events = math.MinInt },
		"greatest events":  func(p *api.Project, _ []int, _ string) { p.Machine.Events = math.MaxInt },
		"an arrow to 3":    func(p *api.Project, _ []int, _ string) { p.Machine.Arrows = []api.Arrow{{To: 3}} },
		"an arrow from 3":  func(p *api.Project, _ []int, _ string) { p.Machine.Arrows = []api.Arrow{{From: 3}} },
		"an arrow at 3":    func(p *api.Project, _ []int, _ string) { p.Machine.Arrows = []api.Arrow{{Event: 3}} },
		"an arrow to -1":   func(p *api.Project, _ []int, _ string) { p.Machine.Arrows = []api.Arrow{{To: -1}} },
		"an arrow from -1": func(p *api.Project, _ []int, _ string) { p.Machine.Arrows = []api.Arrow{{From: -1}} },
		"an arrow at -1":   func(p *api.Project, _ []int, _ string) { p.Machine.Arrows = []api.Arrow{{Event: -1}} },
		"an arrow twice":   func(p *api.Project, _ []int, _ string) { p.Machine.Arrows = make([]api.Arrow, 2) },
		"arrows fall":      func(p *api.Project, _ []int, _ string) { p.Machine.Arrows = []api.Arrow{{From: 1}, {From: 0}} },
		"events fall":      func(p *api.Project, _ []int, _ string) { p.Machine.Arrows = []api.Arrow{{Event: 1}, {Event: 0}} },
		"4097 arrows":      func(p *api.Project, _ []int, _ string) { p.Machine.Arrows = make([]api.Arrow, 4097) },
	} {
		for _, l := range lists {
			for _, s := range bad {
				p, _ := rich()
				spoil(&p, l, s)
				unprinted(t, name, p, api.ErrForm)
			}
		}
	}
	unprinted(t, "no states", ofNames("", "x"), api.ErrForm)
	unprinted(t, "7 states", ofNames("a b c d e f g", ""), api.ErrForm)
	unprinted(t, "9 events", ofNames("a", "a b c d e f g h i"), api.ErrForm)
	// seen is of events, and secret of states
	p := ofNames("a", "x y")
	p.Secret = []int{1}
	unprinted(t, "an event is secret", p, api.ErrForm)
	p = ofNames("a b", "x")
	p.Seen = []int{1}
	unprinted(t, "a state is seen", p, api.ErrForm)
	printed(t, ofNames("a", ""), "states a ; events ; seen ; free ; faults ; secret ; starts ; ends ; arrows ;")
	printed(t, ofNames("a b c d e f", "a b c d e f g h"), "states a b c d e f ; events a b c d e f g h ; seen ; free ; faults ; secret ; starts ; ends ; arrows ;")
}

// great is a project with that many arrows, all its names of 7 bytes but two events'
// that have so many together.
func great(arrows, spare int) api.Project {
	p := ofNames("state_0 state_1 state_2 state_3 state_4 state_5", "event_0 event_1 event_2 event_3 event_4 event_5")
	p.Events = append(p.Events, strings.Repeat("x", spare/2), strings.Repeat("y", spare-spare/2))
	p.Machine.Events = len(p.Events)
	for n := range arrows {
		p.Machine.Arrows = append(p.Machine.Arrows, api.Arrow{From: n / 36, Event: n / 6 % 6, To: n % 6})
	}
	return p
}

// plainText is the text of a project, with a blank between all tokens, or just
// between names.
func plainText(p api.Project, tight bool) string {
	of := func(names []string, l []int) string {
		s := ""
		for _, n := range l {
			s += names[n] + " "
		}
		return s + "; "
	}
	m := p.Machine
	s := "states " + strings.Join(p.States, " ") + " ; " + strings.Join(append([]string{"events"}, p.Events...), " ") + " ; " +
		"seen " + of(p.Events, p.Seen) + "free " + of(p.Events, p.Free) + "faults " + of(p.Events, p.Faults) +
		"secret " + of(p.States, p.Secret) + "starts " + of(p.States, m.Starts) + "ends " + of(p.States, m.Ends) + "arrows "
	for n, a := range m.Arrows {
		if n > 0 {
			s += ", "
		}
		s += p.States[a.From] + " " + p.Events[a.Event] + " " + p.States[a.To] + " "
	}
	s += ";"
	if tight {
		return strings.NewReplacer(" ; ", ";", " , ", ",", " ;", ";").Replace(s)
	}
	return s
}

// ofSize is a project whose text, tight or not, has that many bytes.
func ofSize(t *testing.T, size int, tight bool) api.Project {
	t.Helper()
	for arrows := range 6 * 6 * 6 {
		missing := size - len(plainText(great(arrows, 2), tight))
		if missing >= 0 && missing <= 2*api.MaxNames-2 {
			return great(arrows, 2+missing)
		}
	}
	t.Fatal("the test is wrong: ", size)
	return api.Project{}
}

// P4, P5: ErrSize, where the text had more than MaxText bytes, though there is a
// shorter one that Parse answers the project of; ErrForm, where there is none.
func TestTooLong(t *testing.T) {
	p := ofSize(t, api.MaxText, false)
	printed(t, p, plainText(p, false))
	for _, p := range []api.Project{ofSize(t, api.MaxText+1, false), ofSize(t, api.MaxText-1, true), ofSize(t, api.MaxText, true)} {
		parsed(t, plainText(p, true), p)
		refused(t, "^"+plainText(p, false), api.ErrSize)
		unprinted(t, "a shorter text is read", p, api.ErrSize)
	}
	for _, p := range []api.Project{ofSize(t, api.MaxText+1, true), great(6*6*6, 32)} {
		refused(t, "^"+plainText(p, true), api.ErrSize)
		unprinted(t, "no text is read", p, api.ErrForm)
	}
	p = ofSize(t, api.MaxText+1, false)
	p.Secret = []int{6}
	unprinted(t, "the form is asked for first", p, api.ErrForm)
	// rows count, too
	p = ofSize(t, api.MaxText-10, false)
	p.Secret = []int{0}
	if s, e := Print(p); e != api.OK || len(s) != api.MaxText-2 {
		t.Error("with a row: ", len(s), e)
	}
	p.Secret = []int{0, 1}
	unprinted(t, "with two in a row", p, api.ErrSize)
}

// behind answers l with other numbers behind its length.
func behind(l []int) []int { return append(slices.Clone(l), 0, 1)[:len(l)] }

// untouched tells whether a list that behind made has all its numbers still.
func untouched(l, was []int) bool {
	return slices.Equal(l[:len(was)+2], append(slices.Clone(was), 0, 1))
}

// P3 of the whole: what is handed to Print stays as it is, and what lies behind a
// list's length is not read.
func TestPrintMemory(t *testing.T) {
	was, want := rich()
	p := was
	p.Seen, p.Free, p.Faults, p.Secret = behind(was.Seen), behind(was.Free), behind(was.Faults), behind(was.Secret)
	p.Machine.Starts, p.Machine.Ends = behind(was.Machine.Starts), behind(was.Machine.Ends)
	p.Machine.Arrows = append(slices.Clone(was.Machine.Arrows), api.Arrow{From: -1})[:len(was.Machine.Arrows)]
	p.States, p.Events = append(slices.Clone(was.States), "?")[:3], append(slices.Clone(was.Events), "?")[:3]
	for range 2 {
		printed(t, p, want)
	}
	for l, before := range map[*[]int][]int{&p.Seen: was.Seen, &p.Free: was.Free, &p.Faults: was.Faults, &p.Secret: was.Secret,
		&p.Machine.Starts: was.Machine.Starts, &p.Machine.Ends: was.Machine.Ends} {
		if !untouched(*l, before) {
			t.Error("a row is changed: ", *l)
		}
	}
	if !same(p, was) || p.Machine.Arrows[:6][5].From != -1 || p.States[:4][3] != "?" || p.Events[:4][3] != "?" {
		t.Error("what was handed in is changed: ", p)
	}
	empty := ofNames("a", "")
	empty.Events, empty.Seen, empty.Machine.Arrows, empty.Machine.Ends = []string{}, []int{}, []api.Arrow{}, []int{}
	printed(t, empty, "states a ; events ; seen ; free ; faults ; secret ; starts ; ends ; arrows ;")
	l := []int{0}
	one := ofNames("a", "x")
	one.Seen, one.Free, one.Faults, one.Secret, one.Machine.Starts, one.Machine.Ends = l, l, l, l, l, l
	printed(t, one, "states a ; events x ; seen x ; free x ; faults x ; secret a ; starts a ; ends a ; arrows ;")
}

// P3 of the whole: what Parse answers is new memory, no two lists of it share any,
// and no name of it is a piece of the text.
func TestParseMemory(t *testing.T) {
	_, s := rich()
	for spoilt := range 9 {
		p, _ := Parse(s)
		rows := []*[]int{&p.Seen, &p.Free, &p.Faults, &p.Secret, &p.Machine.Starts, &p.Machine.Ends}
		want, _ := rich()
		wanted := []*[]int{&want.Seen, &want.Free, &want.Faults, &want.Secret, &want.Machine.Starts, &want.Machine.Ends}
		switch spoilt {
		case 6:
			clear(p.States[:cap(p.States)])
			p.States = want.States
		case 7:
			clear(p.Events[:cap(p.Events)])
			p.Events = want.Events
		case 8:
			clear(p.Machine.Arrows[:cap(p.Machine.Arrows)])
			p.Machine.Arrows = want.Machine.Arrows
		default:
			l := *rows[spoilt]
			clear(l[:cap(l)])
			*rows[spoilt] = *wanted[spoilt]
		}
		if !same(p, want) {
			t.Error("lists share memory: ", spoilt, p)
		}
		parsed(t, s, want)
	}
	p, _ := Parse(s)
	from := uintptr(unsafe.Pointer(unsafe.StringData(s)))
	for _, name := range slices.Concat(p.States, p.Events) {
		if at := uintptr(unsafe.Pointer(unsafe.StringData(name))); at >= from && at < from+uintptr(len(s)) {
			t.Errorf("the name %q is a piece of the text", name)
		}
	}
}
