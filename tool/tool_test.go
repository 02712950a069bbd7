package tool

import (
	"strings"
	"testing"
)

const (
	// example is the project of the chapter on texts.
	example = "project states a b;events x;seen x;free;faults;secret b;starts a;ends;arrows a x b;"
	// rich has something in each part, and no names in alphabetical order.
	rich = "project states c a b;events y x z;seen y z;free z;faults x;secret a b;starts c;ends c a b;" +
		"arrows c y a,c y b,c z c,a x b,b y c;"
)

// played asks that a script has that answer.
func played(t *testing.T, script, want string) {
	t.Helper()
	if s := Play(script); s != want {
		t.Errorf("Play(%q): %q; asked for: %q", script, s, want)
	}
}

// asked asks that each line, with those ahead of it, has the answer that stands
// behind it. The last line needs no byte 10 behind it, if it is not empty.
func asked(t *testing.T, pairs ...string) {
	t.Helper()
	var script, want strings.Builder
	for i := 0; i < len(pairs); i += 2 {
		script.WriteString(pairs[i] + "\n")
		want.WriteString(pairs[i+1] + "\n")
	}
	played(t, script.String(), want.String())
	if pairs[len(pairs)-2] != "" {
		played(t, strings.TrimSuffix(script.String(), "\n"), want.String())
	}
}

// Q1: what stands between bytes 10 is a line, but for an empty one at the end.
func TestLines(t *testing.T) {
	played(t, "", "")
	played(t, "\n", "?\n")
	played(t, "\n\n", "?\n?\n")
	played(t, "keep", "none\n")
	played(t, "keep\n", "none\n")
	played(t, "keep\n\n", "none\n?\n")
	played(t, "\nkeep", "?\nnone\n")
	played(t, "\nkeep\n", "?\nnone\n")
	played(t, "keep\n\nkeep", "none\n?\nnone\n")
	played(t, "keep\n ", "none\n?\n")
	for _, other := range []string{"\r", "\v", "\f", "\x00", "\u2028", "\u0085", "\\n"} {
		played(t, "keep"+other+"keep", "?\n")
		played(t, "keep"+other+"\nkeep", "?\nnone\n")
	}
}

// Q1: the first 40 lines count, be they empty or none that is known; no more.
func TestMostLines(t *testing.T) {
	for _, line := range []string{"keep\n", "\n", "what\n"} {
		answer := Play(line)
		played(t, strings.Repeat(line, 39), strings.Repeat(answer, 39))
		played(t, strings.Repeat(line, 39)+"delay", strings.Repeat(answer, 39)+"none\n")
		played(t, strings.Repeat(line, 40), strings.Repeat(answer, 40))
		played(t, strings.Repeat(line, 40)+"delay", strings.Repeat(answer, 40))
		played(t, strings.Repeat(line, 40)+"\n", strings.Repeat(answer, 40))
		played(t, strings.Repeat(line, 41), strings.Repeat(answer, 40))
		played(t, strings.Repeat(line, 1000), strings.Repeat(answer, 40))
		played(t, strings.Repeat(line, 38)+example+"\ndelay\n"+rich, strings.Repeat(answer, 38)+"ok 2 1 1\n0\n")
		played(t, strings.Repeat(line, 39)+example+"\ndelay\n", strings.Repeat(answer, 39)+"ok 2 1 1\n")
		played(t, strings.Repeat(line, 40)+example, strings.Repeat(answer, 40))
	}
}

// Q2: at first there is no project, and none of an earlier call.
func TestNone(t *testing.T) {
	const none, unknown = "none", "?"
	lines := []string{
		"current", none, "initial", none, "steps 0", none, "steps 1000", none, "steps all", none,
		"delay", none, "keep", none, "veil", none, "run", none, "run x", none, "run x y x", none,
		"steps 1001", unknown, "steps 007", unknown, "steps", unknown, "steps ", unknown, "steps -1", unknown,
		"what", unknown, "", unknown, "current ", unknown, "runx", unknown, "project", unknown, "none", unknown,
	}
	asked(t, lines...)
	played(t, example, "ok 2 1 1\n")
	asked(t, lines...)
	asked(t, append([]string{"project states", "bad 2 6"}, lines...)...)
}

// Q2: the project's line: what is wrong, or how many there are.
func TestProject(t *testing.T) {
	asked(t, example, "ok 2 1 1", rich, "ok 3 3 5")
	asked(t, "project states a;events;seen;free;faults;secret;starts;ends;arrows;", "ok 1 0 0")
	asked(t, "project states a b c d e f;events a b c d e f g h;seen;free;faults;secret;starts;ends;arrows;", "ok 6 8 0")
	asked(t, "project   states a b ; events;seen;free;faults;secret;starts;ends;arrows; ", "ok 2 0 0")
	asked(t,
		"project ", "bad 2 0",
		"project  ", "bad 2 1",
		"project project", "bad 2 0",
		"project current", "bad 2 0",
		"project  current", "bad 2 1",
		"project states a;events;", "bad 2 16",
		"project states a;events;seen;free;faults;secret;starts;ends;arrows", "bad 2 58",
		"project states a\t;", "bad 2 8",
		"project states a\r", "bad 2 8",
		"project states abcdefghijklmnopq;", "bad 1 7",
		"project states a b c d e f g;events;seen;free;faults;secret;starts;ends;arrows;", "bad 1 19",
		"project states a b a;events;seen;free;faults;secret;starts;ends;arrows;", "bad 5 11",
		"project states a;events;seen a;free;faults;secret;starts;ends;arrows;", "bad 4 21",
		"keep", "none",
	)
}

// Q2: how long a text may be.
func TestLongText(t *testing.T) {
	text := strings.TrimPrefix(example, "project ")
	full := example + strings.Repeat(" ", 4000-len(text))
	asked(t, full, "ok 2 1 1", full+" ", "bad 1 0", "current", "leak x")
	asked(t, "project "+strings.Repeat("?", 4000), "bad 2 0", "project "+strings.Repeat("?", 4001), "bad 1 0")
}

// Q2: a text that is none leaves the project as it was; one that is one takes its place.
func TestStays(t *testing.T) {
	asked(t,
		example, "ok 2 1 1",
		"run x", "at b",
		"project states c;", "bad 2 9",
		"run x", "at b",
		"project states b a;events y;seen y;free;faults;secret b z;starts a;ends;arrows a x b;", "bad 4 48",
		"run x", "at b",
		"current", "leak x",
		rich, "ok 3 3 5",
		"run x", "at",
		"run y", "at a b",
		"project", "?",
		"run y", "at a b",
		"project states b;events;seen;free;faults;secret;starts;ends;arrows;", "ok 1 0 0",
		"run y", "?",
		"run", "at",
		"current", "safe",
		"keep", "keep b",
		"delay", "0",
		"veil", "nothing",
	)
}

// Q2: where it is.
func TestCurrent(t *testing.T) {
	asked(t,
		example, "ok 2 1 1", "current", "leak x",
		rich, "ok 3 3 5", "current", "leak y",
		// a start that is secret: the empty list
		"project states a b;events x;seen x;free;faults;secret a;starts a;ends;arrows a x b;", "ok 2 1 1", "current", "leak",
		// the events by their names, whatever their order
		"project states a b c;events y u x;seen y x;free;faults;secret c;starts a;ends;arrows a x b,b u b,b y c;", "ok 3 3 3", "current", "leak x y",
		// b has a cover
		"project states a b;events x;seen x;free;faults;secret b;starts a;ends;arrows a x a,a x b;", "ok 2 1 2", "current", "safe",
		// the same, unseen
		"project states a b;events x;seen;free;faults;secret b;starts a;ends;arrows a x b;", "ok 2 1 1", "current", "safe",
		// no start, and no secret
		"project states a b;events x;seen x;free;faults;secret a b;starts;ends;arrows a x b;", "ok 2 1 1", "current", "safe",
		"project states a b;events x;seen x;free;faults;secret;starts a;ends;arrows a x b;", "ok 2 1 1", "current", "safe",
	)
}

// Q2: where it began.
func TestInitial(t *testing.T) {
	asked(t,
		example, "ok 2 1 1", "initial", "safe",
		// current leaks by x
		"project states a b;events x y;seen x y;free;faults;secret b;starts a b;ends;arrows a x b,b y b;", "ok 2 2 2", "initial", "leak y", "current", "leak x",
		"project states a b;events x y;seen x;free;faults;secret b;starts a b;ends;arrows a x b,b y b;", "ok 2 2 2", "initial", "safe",
		"project states a b;events x;seen x;free;faults;secret a;starts a;ends;arrows a x b;", "ok 2 1 1", "initial", "leak",
		"project states a b;events x y;seen x y;free;faults;secret a;starts a b;ends;arrows a x b,b x b,b y a;", "ok 2 2 3", "initial", "safe",
		"project states a b c;events x y;seen x y;free;faults;secret b;starts b a;ends;arrows a x c,b x b,b y b,c y a;", "ok 3 2 4", "initial", "leak y",
		"project states a b c;events x y;seen x y;free;faults;secret b;starts b a;ends;arrows a x c,a y a,b x b,b y b,c y a;", "ok 3 2 5", "initial", "leak x x",
	)
}

// Q2: where it was.
func TestSteps(t *testing.T) {
	asked(t,
		example, "ok 2 1 1", "steps 0", "leak x |", "steps 1000", "leak x |", "steps all", "leak x |",
		// a start that is secret: two empty lists
		"project states a;events;seen;free;faults;secret a;starts a;ends;arrows;", "ok 1 0 0", "steps 0", "leak |", "steps all", "leak |",
		// from b it goes on by y
		"project states a b c;events y;seen y;free;faults;secret b;starts a b;ends;arrows b y c;", "ok 3 1 1", "steps 0", "safe", "steps 1", "leak | y", "steps all", "leak | y",
		// it takes two steps to tell b from c
		"project states a b c d e;events x y;seen x y;free;faults;secret b;starts a;ends;arrows a x b,a x c,b x d,c x e,d x d,e y e;", "ok 5 2 6",
		"steps 0", "safe", "steps 1", "safe", "steps 2", "leak x | x x", "steps 3", "leak x | x x", "steps 10", "leak x | x x", "steps 1000", "leak x | x x", "steps all", "leak x | x x",
		"current", "safe", "initial", "safe",
		// nothing tells
		"project states a b;events x;seen x;free;faults;secret b;starts a b;ends;arrows a x a,b x b;", "ok 2 1 2", "steps 0", "safe", "steps 1000", "safe", "steps all", "safe",
	)
}

// Q2: how many steps may be asked for, and how they are written.
func TestStepsWritten(t *testing.T) {
	for _, n := range []string{"0", "1", "2", "9", "10", "19", "90", "99", "100", "101", "999", "1000", "all"} {
		asked(t, "steps "+n, "none", example, "ok 2 1 1", "steps "+n, "leak x |")
	}
	for _, n := range []string{
		"", " ", "00", "01", "007", "0000", "01000", "1001", "1010", "2000", "9999", "10000", "-1", "-0", "+0", "+1", "--1",
		"1.0", "1e3", "0x1", "0b1", "0o1", "1_0", "1,0", "a", "al", "ALL", "All", "alll", "all ", " all", "allall", "all all",
		"1 ", " 1", "  1", "1 1", "1 all", "1\r", "1\t", "1\x00", "\u0661", "\uff11", "x", "N", "\xff",
		"4294967296", "18446744073709551616", "18446744073709551617", "9223372036854775807", "-9223372036854775808",
		"340282366920938463463374607431768211456", strings.Repeat("0", 1<<16), strings.Repeat("1", 1<<16),
	} {
		asked(t, "steps "+n, "?", example, "ok 2 1 1", "steps "+n, "?")
	}
	asked(t, example, "ok 2 1 1", "steps", "?", "steps0", "?", "Steps 0", "?", " steps 0", "?", "step 0", "?", "steps\t0", "?", "stepsall", "?")
}

// Q2: whether a fault is found.
func TestDelay(t *testing.T) {
	asked(t,
		example, "ok 2 1 1", "delay", "0",
		rich, "ok 3 3 5", "delay", "never",
		"project states a;events f;seen;free;faults f;secret;starts a;ends;arrows a f a;", "ok 1 1 1", "delay", "never",
		"project states a;events f;seen f;free;faults f;secret;starts a;ends;arrows a f a;", "ok 1 1 1", "delay", "0",
		"project states a b c;events f x y;seen x y;free;faults f;secret;starts a;ends;arrows a f b,a x a,b x c,c y c;", "ok 3 3 4", "delay", "2",
		"project states a b c;events f x y;seen x;free;faults f;secret;starts a;ends;arrows a f b,a x a,b x c,c y c;", "ok 3 3 4", "delay", "never",
		"project states a b c;events f x y;seen f;free;faults f;secret;starts a;ends;arrows a f b,a x a,b x c,c y c;", "ok 3 3 4", "delay", "0",
		"project states a b c;events f x y;seen x y;free;faults;secret;starts a;ends;arrows a f b,a x a,b x c,c y c;", "ok 3 3 4", "delay", "0",
	)
}

// Q2: what to keep to.
func TestKeep(t *testing.T) {
	const head, tail = "project states d a c b;events x y;seen;free", "starts;ends;arrows a x b,b y c,d y a;"
	asked(t,
		example, "ok 2 1 1", "keep", "keep",
		head+" x;faults;secret c;"+tail, "ok 4 2 3", "keep", "keep d a",
		head+";faults x;secret c;"+tail, "ok 4 2 3", "keep", "keep",
		head+" y;faults;secret c;"+tail, "ok 4 2 3", "keep", "keep d a b",
		head+" x y;faults;secret a c;"+tail, "ok 4 2 3", "keep", "keep d b",
		head+";faults;secret;"+tail, "ok 4 2 3", "keep", "keep d a c b",
		head+" x y;faults;secret a b c d;"+tail, "ok 4 2 3", "keep", "keep",
	)
}

// Q2: what to forbid so that the secret is kept.
func TestVeil(t *testing.T) {
	asked(t,
		example, "ok 2 1 1", "veil", "nothing",
		strings.Replace(example, "free", "free x", 1), "ok 2 1 1", "veil", "veil 1 0",
		strings.Replace(example, "secret b", "secret", 1), "ok 2 1 1", "veil", "veil 2 1",
		strings.Replace(example, "starts a", "starts", 1), "ok 2 1 1", "veil", "nothing",
		// free, but not seen
		strings.NewReplacer("free", "free x", "seen x", "seen").Replace(example), "ok 2 1 1", "veil", "bad 3",
		// not plain
		strings.Replace(example, "starts a", "starts a b", 1), "ok 2 1 1", "veil", "bad 3",
		rich, "ok 3 3 5", "veil", "bad 3",
		"project states a b c d e;events u x y;seen x y;free x;faults;secret e;starts a;ends;arrows a u b,a x c,b x d,d y e;", "ok 5 3 4", "veil", "veil 2 1",
		"project states a b;events x y;seen x y;free x;faults;secret;starts a;ends;arrows a x b,a y a,b x a,b y b;", "ok 2 2 4", "veil", "veil 2 4",
	)
}

// Q2: where runs may end.
func TestRun(t *testing.T) {
	asked(t,
		example, "ok 2 1 1",
		"run", "at a", "run x", "at b", "run x x", "at", "run x x x", "at",
		"run y", "?", "run a", "?", "run x y", "?", "run y x", "?", "run x x x y", "?", "run X", "?", "run xx", "?", "run x,x", "?", "run x;", "?",
		"run ", "?", "run  ", "?", "run  x", "?", "run x ", "?", "run x  x", "?", "run x\t", "?", "run x\r", "?", "run\tx", "?", "run \xff", "?",
		"runx", "?", "Run x", "?", " run x", "?",
	)
	// by the states' order; of what is not seen and not free, too
	asked(t,
		rich, "ok 3 3 5",
		"run", "at c", "run y", "at a b", "run z z z y", "at a b", "run y x", "at b", "run y x y", "at c", "run y y", "at c", "run x", "at",
	)
	asked(t,
		"project states b a;events;seen;free;faults;secret;starts a b;ends;arrows;", "ok 2 0 0", "run", "at b a", "run x", "?",
		"project states a;events x;seen;free;faults;secret;starts;ends a;arrows a x a;", "ok 1 1 1", "run", "at", "run x", "at",
	)
}

// Q1, Q2: states and events may have any names, those of lines, answers and one
// another, too.
func TestNames(t *testing.T) {
	asked(t,
		"project states none safe leak at bad ok;events leak run steps at x none;seen leak run at;free;faults;secret at;starts none;ends;"+
			"arrows none run safe,safe leak at,safe steps none;", "ok 6 6 3",
		"current", "leak run leak",
		"steps all", "leak run leak |",
		"run", "at none",
		"run run leak", "at at",
		"run run steps", "at none",
		"run run steps run", "at safe",
		"run safe", "?",
		"keep", "keep leak bad ok",
		"veil", "nothing",
	)
	long := "abcdefghijklmnop"
	asked(t,
		"project states "+long+" B;events Q_23456789012345;seen Q_23456789012345;free;faults;secret "+long+";starts B "+long+";ends;arrows "+
			long+" Q_23456789012345 "+long+";", "ok 2 1 1",
		"current", "leak Q_23456789012345",
		"run", "at "+long+" B",
		"run Q_23456789012345", "at "+long,
		"run Q_234567890123456", "?",
		"run Q_2345678901234", "?",
		"keep", "keep B",
	)
}

// Q2: lines that are none of these.
func TestUnknown(t *testing.T) {
	for _, word := range []string{"current", "initial", "delay", "keep", "veil", "project"} {
		for _, line := range []string{
			" " + word, "\t" + word, word + "\t", word + "\r", word + "\x00", word + word, word[1:], word[:len(word)-1],
			strings.ToUpper(word), strings.ToUpper(word[:1]) + word[1:], word + ";", word + "s", "run" + word, "\ufeff" + word,
		} {
			asked(t, line, "?", example, "ok 2 1 1", line, "?")
		}
	}
	for _, word := range []string{"current", "initial", "delay", "keep", "veil"} {
		for _, line := range []string{word + " ", word + " x", word + " 0", word + " all", word + " " + word, word + "  "} {
			asked(t, line, "?", example, "ok 2 1 1", line, "?")
		}
	}
	for _, line := range []string{
		"", " ", "  ", "?", "none", "ok", "safe", "told", "leak", "seen", "0", "all", "\x00", "\xff\xfe", "\u00e9", "states", ";", "|", strings.Repeat("keep", 1<<16),
		strings.TrimPrefix(example, "project "), "project\tstates a;", "project", "Project states a;", " " + example, "\t" + example,
	} {
		asked(t, line, "?", example, "ok 2 1 1", line, "?")
	}
}
