package tool

import (
	"fmt"
	"math/rand/v2"
	"regexp"
	"slices"
	"strings"
	"testing"

	"jalousie/api"
	"jalousie/control"
	"jalousie/current"
	"jalousie/diagnose"
	"jalousie/initial"
	"jalousie/machine"
	"jalousie/steps"
	"jalousie/text"
	"jalousie/veil"
)

// The lines that are known, by the words of Q2.
var (
	projectLine = regexp.MustCompile(`(?s)\Aproject (.*)\z`)
	wordLine    = regexp.MustCompile(`\A(?:current|initial|delay|keep|veil)\z`)
	stepsLine   = regexp.MustCompile(`\Asteps (0|[1-9][0-9]?[0-9]?|1000|all)\z`)
	runLine     = regexp.MustCompile(`(?s)\Arun((?: [^ ]*)*)\z`)
)

// plain is a second program that plays scripts: it goes by the words of Q1 and
// Q2, line by line, and leaves to the packages below what is asked of them.
type plain struct{ project *api.Project }

// play answers the answers to the lines of a script.
func (p *plain) play(script string) string {
	lines := strings.Split(script, "\n")
	if lines[len(lines)-1] == "" {
		lines = lines[:len(lines)-1]
	}
	out := ""
	for _, line := range lines[:min(len(lines), 40)] {
		out += p.answer(line) + "\n"
	}
	return out
}

func (p *plain) answer(line string) string {
	if m := projectLine.FindStringSubmatch(line); m != nil {
		project, f := text.Parse(m[1])
		if f.Code != api.OK {
			return fmt.Sprintf("bad %d %d", f.Code, f.At)
		}
		p.project = &project
		return fmt.Sprintf("ok %d %d %d", len(project.States), len(project.Events), len(project.Machine.Arrows))
	}
	run, back := runLine.FindStringSubmatch(line), stepsLine.FindStringSubmatch(line)
	switch {
	case run == nil && back == nil && !wordLine.MatchString(line):
		return "?"
	case p.project == nil:
		return "none"
	case run != nil:
		return p.run(run[1])
	case back != nil:
		return p.steps(back[1])
	}
	return p.word(line)
}

// named answers the names of a list, each with a blank ahead of it.
func named(names []string, l []int) string {
	out := ""
	for _, n := range l {
		out += " " + names[n]
	}
	return out
}

func (p *plain) plant() api.Plant {
	return api.Plant{Machine: p.project.Machine, Seen: p.project.Seen, Secret: p.project.Secret}
}

func (p *plain) word(line string) string {
	q := p.project
	switch line {
	case "current":
		is, word, _ := current.Leak(p.plant())
		return map[bool]string{true: "leak" + named(q.Events, word), false: "safe"}[is]
	case "initial":
		is, word, _ := initial.Leak(p.plant())
		return map[bool]string{true: "leak" + named(q.Events, word), false: "safe"}[is]
	case "delay":
		d, _ := diagnose.Delay(q.Machine, q.Seen, q.Faults)
		return strings.Replace(fmt.Sprint(d), "-1", "never", 1)
	case "keep":
		states, _ := control.Keep(q.Machine, q.Free, q.Secret)
		return "keep" + named(q.States, states)
	}
	v, is, e := veil.Make(p.plant(), q.Free)
	if e != api.OK {
		return fmt.Sprintf("bad %d", e)
	}
	return map[bool]string{true: fmt.Sprintf("veil %d %d", len(v.Nodes), len(v.Moves)), false: "nothing"}[is]
}

func (p *plain) steps(back string) string {
	most := -1
	fmt.Sscan(back, &most)
	is, before, behind, _ := steps.Leak(p.plant(), most)
	return map[bool]string{true: "leak" + named(p.project.Events, before) + " |" + named(p.project.Events, behind), false: "safe"}[is]
}

func (p *plain) run(names string) string {
	var word []int
	for _, name := range strings.Split(names, " ")[1:] {
		if !slices.Contains(p.project.Events, name) {
			return "?"
		}
		word = append(word, slices.Index(p.project.Events, name))
	}
	states, _ := machine.After(p.project.Machine, p.project.Machine.Starts, word)
	return "at" + named(p.project.States, states)
}

// chooser makes what is to be tried, the same from one time to the next.
type chooser struct{ *rand.Rand }

func newChooser(seed uint64) chooser { return chooser{rand.New(rand.NewPCG(seed, 17))} }

// of answers one of a list.
func (c chooser) of(list ...string) string { return list[c.IntN(len(list))] }

// part answers some of a list, in the order in which they stand there.
func (c chooser) part(list []string, in int) string {
	out := ""
	for _, s := range list {
		if c.IntN(in) == 0 {
			out += " " + s
		}
	}
	return out
}

var (
	allStates = []string{"a", "b", "c", "d", "e", "f"}
	allEvents = []string{"x", "y", "z", "u", "v", "w", "p", "q"}
)

// project answers the line of a project. Where it is to be plain, it has at most
// one start, and from each state at each event at most one arrow.
func (c chooser) project() string {
	states, events := allStates[:1+c.IntN(6)], allEvents[:c.IntN(5)]
	isPlain := c.IntN(2) == 0
	var arrows []string
	for _, from := range states {
		for _, event := range events {
			for _, to := range states {
				if c.IntN(len(states)*2) < 2 {
					arrows = append(arrows, from+" "+event+" "+to)
					if isPlain {
						break
					}
				}
			}
		}
	}
	seen, starts := c.part(events, 2), " "+c.of(states...)
	free := c.part(strings.Fields(seen), 2)
	if !isPlain {
		free, starts = c.part(events, 3), c.part(states, 2)
	}
	return "project states " + strings.Join(states, " ") + ";events " + strings.Join(events, " ") + ";seen" + seen + ";free" + free +
		";faults" + c.part(events, 4) + ";secret" + c.part(states, 2+c.IntN(3)) + ";starts" + starts + ";ends" + c.part(states, 2) +
		";arrows " + strings.Join(arrows, ",") + ";"
}

// line answers some line.
func (c chooser) line() string {
	switch c.IntN(10) {
	case 0:
		return c.project()
	case 1:
		return "steps " + c.of("0", "1", "2", "3", "1000", "all", "all", "1001", "00", "", "-1")
	case 2, 3:
		line := "run"
		for range c.IntN(5) {
			line += " " + c.of(allEvents[:3]...)
		}
		return line + c.of("", "", "", "", " ", " ?", "  x")
	case 4: // a name is another one
		return strings.Replace(c.project(), " "+c.of("a", "b", "x", "y"), " "+c.of("a", "a a", "x x", "b", "g", "abcdefghijklmnopq"), 1)
	case 5: // a byte is another one
		line := []byte(c.of("current", "steps 10", "steps all", "run x y", c.project()))
		line[c.IntN(len(line))] = byte(c.IntN(256))
		return string(line)
	}
	return c.of("current", "initial", "delay", "keep", "veil", "current", "initial", "delay", "keep", "veil", "", "what", "project")
}

// scripts answers some scripts.
func scripts(most uint64) []string {
	var out []string
	for seed := range most {
		c := newChooser(seed)
		script := ""
		if seed%8 != 0 {
			script = c.project() + "\n"
		}
		for range c.IntN(45) {
			script += c.line() + "\n"
		}
		if c.IntN(2) == 0 {
			script += c.line()
		}
		out = append(out, script)
	}
	return out
}

// kind tells of which kind an answer is.
func kind(answer string) string {
	words := strings.Fields(answer)
	switch {
	case words[0] == "bad":
		return strings.Join(words[:2], " ")
	case words[0] == "leak" && slices.Contains(words, "|"):
		return fmt.Sprintf("leak, %d before, %d in all", slices.Index(words, "|")-1, len(words)-2)
	case words[0] == "leak":
		return fmt.Sprintf("leak, %d", len(words)-1)
	}
	return words[0]
}

// Q1, Q2: Play answers what the second program does; what it answers is of all kinds.
func TestPlain(t *testing.T) {
	found := map[string]int{}
	for _, script := range scripts(4000) {
		s := Play(script)
		if want := (&plain{}).play(script); s != want {
			t.Fatalf("Play(%q): %q; asked for: %q", script, s, want)
		}
		for answer := range strings.Lines(s) {
			found[kind(answer)]++
		}
	}
	for _, s := range []string{
		"?", "none", "ok", "bad 1", "bad 2", "bad 3", "bad 4", "bad 5", "safe", "leak, 0", "leak, 1", "leak, 2",
		"leak, 0 before, 0 in all", "leak, 1 before, 1 in all", "leak, 0 before, 1 in all", "leak, 1 before, 2 in all",
		"never", "0", "1", "2", "keep", "nothing", "veil", "at",
	} {
		if found[s] < 4 {
			t.Errorf("%d answers of the kind %s; all: %v", found[s], s, found)
		}
	}
}

// Q3: what was answered stays, whatever is asked behind it.
func TestBeginnings(t *testing.T) {
	for _, script := range scripts(300) {
		whole := Play(script)
		lines := strings.SplitAfter(script, "\n")
		for n := range lines {
			begin := strings.Join(lines[:n], "")
			answer := Play(begin)
			if !strings.HasPrefix(whole, answer) || strings.Count(answer, "\n") != min(n, 40) {
				t.Fatalf("Play(%q): %q; Play(%q): %q", begin, answer, script, whole)
			}
		}
	}
}

// Q1: whatever stands in a script, each of its first 40 lines has one line as its
// answer, of words with one blank between.
func TestAnyBytes(t *testing.T) {
	answers := regexp.MustCompile(`\A(?:(?:[a-z]+|[0-9]+|\?)(?: [a-zA-Z0-9_]+| \|)*\n)*\z`)
	some := scripts(50)
	for seed := range uint64(4000) {
		c := newChooser(seed)
		script := []byte(c.of(some...))
		for range c.IntN(200) {
			at := c.IntN(len(script) + 1)
			switch c.IntN(3) {
			case 0:
				script = slices.Insert(script, at, byte(c.IntN(256)))
			case 1:
				script = slices.Insert(script, at, []byte(c.of(" ", "\n", ";", "\nrun", "\nsteps all\n", " x"))...)
			case 2:
				script = script[:at]
			}
		}
		s := Play(string(script))
		lines := strings.Count(string(script), "\n")
		if len(script) > 0 && script[len(script)-1] != '\n' {
			lines++
		}
		if !answers.MatchString(s) || strings.Count(s, "\n") != min(lines, 40) {
			t.Fatalf("Play(%q): %q", script, s)
		}
		if again := Play(string(script)); again != s {
			t.Fatalf("Play(%q): %q, and %q", script, s, again)
		}
	}
}

// P1: long scripts and lines have their answers, too.
func TestLong(t *testing.T) {
	const many = 1 << 22
	played(t, strings.Repeat("\n", many), strings.Repeat("?\n", 40))
	played(t, strings.Repeat("a", many), "?\n")
	played(t, strings.Repeat(" ", many), "?\n")
	played(t, "run"+strings.Repeat(" x", many), "none\n")
	for _, line := range []string{"steps " + strings.Repeat("9", many), "steps " + strings.Repeat("0", many), "steps" + strings.Repeat(" ", many), "keep" + strings.Repeat(" ", many)} {
		asked(t, example, "ok 2 1 1", line, "?")
	}
	asked(t, example, "ok 2 1 1", "project "+strings.Repeat("a", many), "bad 1 0", "project "+strings.Repeat(" ", many), "bad 1 0", "keep", "keep")
	ring := "project states a b;events x y;seen x;free;faults;secret b;starts a;ends;arrows a x b,b x a;"
	asked(t,
		ring, "ok 2 2 2",
		"run"+strings.Repeat(" x", many), "at a",
		"run"+strings.Repeat(" x", many+1), "at b",
		"run"+strings.Repeat(" x", many)+" y", "at",
		"run"+strings.Repeat(" y", many), "at",
		"run"+strings.Repeat(" y", many)+" z", "?",
		"run"+strings.Repeat(" x", many)+" ", "?",
		"run"+strings.Repeat(" ", many), "?",
		"run "+strings.Repeat("x", many), "?",
	)
}
