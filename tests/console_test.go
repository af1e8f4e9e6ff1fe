package tests

import (
	"fmt"
	"slices"
	"strings"
	"testing"

	"loop.example/g01391/impl"
)

// goodLines has a line of each form, and more of some, that is not wrong on the new desk.
var goodLines = []string{
	"tree (()())", "mirror", "at 2", "put 1", "cut 3", "next", "rank 4 3", "swap", "keep", "rule (ab)>(ba)", "more ((a)b)>(a(b))", "step", "run",
	"show", "look", "system", "sizes", "depths", "leaves", "where", "trees 3", "count 12", "match (ab)", "avoid 4 (ab)", "inside", "tidy", "even",
	"way 1 3", "heavy", "picture", "steps", "reached", "normal", "loops", "meet", "reset",
}

// deskOf returns the model of a desk with the texts of its trees and of its rules.
func deskOf(tree, other string, rules ...string) deskModel {
	return deskModel{tree, other, strings.Join(rules, " ")}
}

// wantLine checks a line: its output, the desk after it, and that the desk before it stays.
func wantLine(t *testing.T, d deskModel, line, output string, after deskModel) {
	t.Helper()
	before := d.desk()
	next, got := impl.RunLine(before, line)
	what := fmt.Sprintf("RunLine %v %.80q", d, line)
	if got != output {
		t.Errorf("%s has the output %.200q, not %.200q", what, got, output)
	}
	if told := deskModelOf(next); told != after {
		t.Errorf("%s leads to %v, not to %v", what, told, after)
	}
	if !impl.IsDesk(next) {
		t.Errorf("%s leads to no desk: %v", what, next)
	}
	if told := deskModelOf(before); told != d {
		t.Errorf("%s leaves %v", what, told)
	}
}

// wantWrong checks a line that changes nothing, by the model, too.
func wantWrong(t *testing.T, d deskModel, line string) {
	t.Helper()
	if after, output := d.after(line); after != d || output != "error" {
		t.Errorf("the model of %v takes %.80q", d, line)
	}
	wantLine(t, d, line, "error", d)
}

// checkLine holds a line against the model, and reports whether it is not wrong.
func checkLine(t *testing.T, d deskModel, line string) bool {
	t.Helper()
	after, output := d.after(line)
	wantLine(t, d, line, output, after)
	return output != "error"
}

func TestLimitsOfConsole(t *testing.T) {
	if impl.MaxConsole != 4000 || impl.MaxLines != 40 {
		t.Errorf("MaxConsole = %d, MaxLines = %d", impl.MaxConsole, impl.MaxLines)
	}
}

func TestNewDesk(t *testing.T) {
	d := impl.NewDesk()
	wantList(t, "the tree of NewDesk", d.Tree.Degrees, impl.ErrNone, 2, 0, 1, 0)
	wantList(t, "the other tree of NewDesk", d.Other.Degrees, impl.ErrNone, 2, 0, 1, 0)
	if !slices.Equal(d.Rules, []impl.Rule{{Left: "(a)", Right: "a"}}) || !impl.IsDesk(d) {
		t.Errorf("NewDesk has the rules %q", d.Rules)
	}
}

// badDesks returns what is no desk: with one tree that is none, with no rule, with more than MaxRules, and with one that
// is none.
func badDesks() []impl.Desk {
	good := newDeskModel().desk()
	desks := []impl.Desk{{}, {Tree: good.Tree, Other: good.Other}, {Tree: good.Tree, Rules: good.Rules}, {Other: good.Other, Rules: good.Rules}}
	for _, x := range badTrees() {
		desks = append(desks, impl.Desk{Tree: x, Other: good.Other, Rules: good.Rules}, impl.Desk{Tree: good.Tree, Other: x, Rules: good.Rules})
	}
	for _, rules := range badSystems() {
		desks = append(desks, impl.Desk{Tree: good.Tree, Other: good.Other, Rules: rules})
	}
	for _, r := range badRules() {
		desks = append(desks, impl.Desk{Tree: good.Tree, Other: good.Other, Rules: []impl.Rule{r}})
	}
	return desks
}

// sixRules has as many rules as a desk can have.
func sixRules() []string {
	return []string{"(ab)>(ba)", "(a)>a", "((a)b)>(ab)", "(abc)>a", "()>()", "(a(b))>((a)b)"}
}

// someDesks returns desks of several kinds: with trees of one node and of MaxNodes, trees that are not each other's,
// rules by which no step is possible, none is open, all steps come to an end, and none does.
func someDesks() []deskModel {
	return []deskModel{
		newDeskModel(), deskOf("()", "()", "()>()"), deskOf("()", "(()(()))", "()>(())"), deskOf("(())", "()", "(a)>a"),
		deskOf("((()())(()))", "(()())", "(ab)>(ba)", "(a)>a"), deskOf("(()(()()()()))", "()", "(abc)>a"), deskOf("(()())", "((()())(()))", sixRules()...),
		deskOf("(()(())((())))", "((()))", sixRules()[1:]...), deskOf("(()())", "(()(()))", "(ab)>(b(a))"), deskOf(someText(12, 4), "(()(())())", "((a)b)>(ab)", "(ab)>b"),
		deskOf(someText(11, 7), someText(5, 2), "(abc)>(bca)"), deskOf(pathText(24), starText(24), "(a)>((a))"), deskOf(starText(24), pathText(24), "()>(())"),
		deskOf(pathText(24), "(())", "(a)>a"), deskOf(someText(24, 3), someText(23, 9), "((a)b)>(a(b))", "((ab))>(ba)"), deskOf(someText(13, 5), "(()())", "(()())>()"),
		deskOf("()", "()", pathText(30)+">()"), deskOf("()", pathText(23), "()>"+pathText(25)), deskOf("(()())", "()", "(abcdefgh)>(hgfedcba)", "(ab)>(aab)"),
	}
}

func TestIsDesk(t *testing.T) {
	for _, d := range someDesks() {
		if !impl.IsDesk(d.desk()) {
			t.Errorf("IsDesk %v = false", d)
		}
	}
	for count := range 8 {
		d := newDeskModel().desk()
		d.Rules = slices.Repeat(systemOf("(ab)>(ba)"), count)
		if impl.IsDesk(d) != (1 <= count && count <= 6) {
			t.Errorf("IsDesk with %d rules = %v", count, impl.IsDesk(d))
		}
	}
	for _, d := range badDesks() {
		if impl.IsDesk(d) {
			t.Errorf("IsDesk %.200v = true", d)
		}
	}
}

// TestNoDesk has each line, and wrong ones, on what is no desk.
func TestNoDesk(t *testing.T) {
	for _, d := range badDesks() {
		for _, line := range append([]string{"", " ", "error", "at 9", "show 1", "tree"}, goodLines...) {
			after, output := impl.RunLine(d, line)
			if !isZero(after) || output != "" {
				t.Errorf("RunLine %.200v %q = %v, %q", d, line, after, output)
			}
		}
	}
}

// TestLinesThatTell has lines that change nothing, with outputs worked out by hand.
func TestLinesThatTell(t *testing.T) {
	few, wide, one := deskOf("((()())(()))", "(()())", "(ab)>(ba)", "(a)>a"), deskOf("(()(()()()()))", "()", "(abc)>a"), deskOf("()", "()", "()>()")
	fresh := newDeskModel()
	for _, c := range []struct {
		d            deskModel
		line, output string
	}{
		{fresh, "show", "(()(()))"}, {few, "show", "((()())(()))"}, {wide, "show", "(()(()()()()))"}, {one, "show", "()"},
		{fresh, "look", "(()(()))"}, {few, "look", "(()())"}, {wide, "look", "()"}, {deskOf("()", pathText(24), "(a)>a"), "look", pathText(24)},
		{fresh, "system", "(a)>a"}, {few, "system", "(ab)>(ba) (a)>a"}, {deskOf("()", "()", sixRules()...), "system", "(ab)>(ba) (a)>a ((a)b)>(ab) (abc)>a ()>() (a(b))>((a)b)"},
		{fresh, "sizes", "4 1 2 1"}, {few, "sizes", "6 3 1 1 2 1"}, {wide, "sizes", "7 1 5 1 1 1 1"}, {one, "sizes", "1"},
		{fresh, "depths", "0 1 1 2"}, {few, "depths", "0 1 2 2 1 2"}, {wide, "depths", "0 1 1 2 2 2 2"}, {one, "depths", "0"},
		{fresh, "leaves", "1 3"}, {few, "leaves", "2 3 5"}, {wide, "leaves", "1 3 4 5 6"}, {one, "leaves", "0"}, {deskOf(pathText(24), "()", "(a)>a"), "leaves", "23"},
		{fresh, "where", "2"}, {few, "where", "24"}, {wide, "where", "55"}, {one, "where", "0"}, {deskOf(starText(24), "()", "(a)>a"), "where", "343059613649"},
		{fresh, "trees 1", "()"}, {few, "trees 2", "(())"}, {one, "trees 3", "((())) (()())"}, {fresh, "trees 4", "(((()))) ((()())) (()(())) ((())()) (()()())"},
		{fresh, "count 1", "1"}, {few, "count 3", "2"}, {one, "count 10", "4862"}, {fresh, "count 30", "1002242216651368"},
		{fresh, "match (a)", "2"}, {few, "match (a)", "4"}, {few, "match (ab)", "0 1"}, {few, "match ()", "2 3 5"}, {few, "match h", "0 1 2 3 4 5"}, {few, "match ((ab)(c))", "0"},
		{few, "match (abc)", "none"}, {one, "match (a)", "none"}, {one, "match b", "0"}, {fresh, "match " + pathText(30), "none"}, {wide, "match (abcd)", "2"},
		{fresh, "avoid 4 (ab)", "2"}, {few, "avoid 8 (a)", "36"}, {one, "avoid 1 (a)", "1"}, {one, "avoid 1 ()", "0"}, {one, "avoid 8 a", "0"}, {one, "avoid 8 (abcdefgh)", "429"},
		{fresh, "inside", "0 1 2 3"}, {few, "inside", "0 1 4"}, {wide, "inside", "0"}, {one, "inside", "0"}, {deskOf(pathText(12), pathText(3), "(a)>a"), "inside", "0 1 2"},
		{fresh, "tidy", "1 0 2 2"}, {few, "tidy", "2 1 0 2 4 4"}, {wide, "tidy", "2 1 3 0 2 4 6"}, {one, "tidy", "0"},
		{fresh, "even", "1 0 2 2"}, {few, "even", "2 1 0 2 4 4"}, {wide, "even", "2 0 5 2 4 6 8"}, {one, "even", "0"},
		{fresh, "way 1 3", "1 0 2 3"}, {few, "way 2 5", "2 1 0 4 5"}, {few, "way 5 2", "5 4 0 1 2"}, {few, "way 1 3", "1 3"}, {one, "way 0 0", "0"}, {deskOf(starText(24), "()", "(a)>a"), "way 23 10", "23 0 10"},
		{fresh, "heavy", "0 2 3;1"}, {few, "heavy", "0 1 2;3;4 5"}, {wide, "heavy", "0 2 3;1;4;5;6"}, {one, "heavy", "0"}, {deskOf("((()))", "()", "(a)>a"), "heavy", "0 1 2"},
		{fresh, "picture", ".o./o.o/..o"}, {few, "picture", "..o../.o..o/o.o.o"}, {wide, "picture", "..o..../.o.o.../o.o.o.o"}, {one, "picture", "o"}, {deskOf("((()))", "()", "(a)>a"), "picture", "o/o/o"},
		{fresh, "steps", "2 0"}, {few, "steps", "0 0;1 0;4 1"}, {wide, "steps", "none"}, {one, "steps", "0 0"}, {deskOf("()", "()", "()>"+pathText(25)), "steps", "none"},
		{fresh, "reached", "(()()) (()(()))"}, {few, "reached", "(()(()())) ((()())()) ((())(()())) ((()())(()))"}, {wide, "reached", "(()(()()()()))"}, {one, "reached", "()"},
		{fresh, "normal", "no"}, {few, "normal", "no"}, {wide, "normal", "yes"}, {one, "normal", "no"}, {deskOf("()", "()", "()>"+pathText(25)), "normal", "no"},
		{fresh, "loops", "no"}, {few, "loops", "yes"}, {wide, "loops", "no"}, {one, "loops", "yes"},
		{fresh, "meet", "(()())"}, {one, "meet", "()"}, {deskOf("(())", "((()))", "(a)>a"), "meet", "()"}, {deskOf("((())())", "(()(()))", "(ab)>(ba)"), "meet", "(()(()))"},
	} {
		wantLine(t, c.d, c.line, c.output, c.d)
		if !checkLine(t, c.d, c.line) {
			t.Errorf("the model of %v refuses %q", c.d, c.line)
		}
	}
}

// TestLinesThatChange has lines that change the desk, with desks worked out by hand.
func TestLinesThatChange(t *testing.T) {
	few, rules := deskOf("((()())(()))", "(()())", "(ab)>(ba)", "(a)>a"), "(ab)>(ba) (a)>a"
	fresh, one := newDeskModel(), deskOf("()", "(()(()))", "()>()")
	sorted, long := sortingText(10, 0), "((a)())>((a())) (()())>((()))"
	for _, c := range []struct {
		d            deskModel
		line, output string
		after        deskModel
	}{
		{fresh, "tree ((()))", "((()))", deskOf("((()))", "(()(()))", "(a)>a")}, {few, "tree ()", "()", deskOf("()", "(()())", rules)}, {few, "tree " + pathText(24), pathText(24), deskOf(pathText(24), "(()())", rules)},
		{fresh, "mirror", "((())())", deskOf("((())())", "(()(()))", "(a)>a")}, {few, "mirror", "((())(()()))", deskOf("((())(()()))", "(()())", rules)}, {one, "mirror", "()", one},
		{fresh, "at 2", "(())", deskOf("(())", "(()(()))", "(a)>a")}, {fresh, "at 0", "(()(()))", fresh}, {few, "at 1", "(()())", deskOf("(()())", "(()())", rules)}, {few, "at 5", "()", deskOf("()", "(()())", rules)}, {one, "at 0", "()", one},
		{fresh, "put 1", "((()(()))(()))", deskOf("((()(()))(()))", "(()(()))", "(a)>a")}, {few, "put 4", "((()())(()()))", deskOf("((()())(()()))", "(()())", rules)}, {few, "put 0", "(()())", deskOf("(()())", "(()())", rules)}, {one, "put 0", "(()(()))", deskOf("(()(()))", "(()(()))", "()>()")},
		{fresh, "cut 3", "(()())", deskOf("(()())", "(()(()))", "(a)>a")}, {few, "cut 1", "((()))", deskOf("((()))", "(()())", rules)}, {few, "cut 4", "((()()))", deskOf("((()()))", "(()())", rules)},
		{fresh, "next", "((())())", deskOf("((())())", "(()(()))", "(a)>a")}, {few, "next", "((()(()))())", deskOf("((()(()))())", "(()())", rules)},
		{fresh, "rank 4 4", "(()()())", deskOf("(()()())", "(()(()))", "(a)>a")}, {few, "rank 6 24", "((()())(()))", few}, {one, "rank 1 0", "()", one}, {fresh, "rank 24 0", pathText(24), deskOf(pathText(24), "(()(()))", "(a)>a")},
		{fresh, "swap", "(()(()))", fresh}, {few, "swap", "(()())", deskOf("(()())", "((()())(()))", rules)}, {one, "swap", "(()(()))", deskOf("(()(()))", "()", "()>()")},
		{fresh, "keep", "(()(()))", fresh}, {few, "keep", "((()())(()))", deskOf("((()())(()))", "((()())(()))", rules)}, {one, "keep", "()", deskOf("()", "()", "()>()")},
		{fresh, "rule (ab)>(ba)", "(ab)>(ba)", deskOf("(()(()))", "(()(()))", "(ab)>(ba)")}, {few, "rule ()>()", "()>()", deskOf("((()())(()))", "(()())", "()>()")}, {deskOf("()", "()", sixRules()...), "rule (h)>h", "(h)>h", deskOf("()", "()", "(h)>h")},
		{fresh, "more (ab)>(ba)", "(a)>a (ab)>(ba)", deskOf("(()(()))", "(()(()))", "(a)>a", "(ab)>(ba)")}, {few, "more (ab)>(ba)", rules + " (ab)>(ba)", deskOf("((()())(()))", "(()())", rules, "(ab)>(ba)")},
		{deskOf("()", "()", sixRules()[:5]...), "more (h)>h", "(ab)>(ba) (a)>a ((a)b)>(ab) (abc)>a ()>() (h)>h", deskOf("()", "()", append(sixRules()[:5], "(h)>h")...)},
		{fresh, "step", "(()())", deskOf("(()())", "(()(()))", "(a)>a")}, {few, "step", "((())(()()))", deskOf("((())(()()))", "(()())", rules)}, {one, "step", "()", one},
		{fresh, "run", "(()()) 1", deskOf("(()())", "(()(()))", "(a)>a")}, {deskOf(pathText(24), "()", "(a)>a"), "run", "() 23", deskOf("()", "()", "(a)>a")}, {deskOf("(()())", "()", "(a)>a"), "run", "(()()) 0", deskOf("(()())", "()", "(a)>a")},
		{deskOf(sorted, "()", long), "run", pathText(21) + " 100", deskOf(pathText(21), "()", long)},
		{fresh, "reset", "ok", fresh}, {few, "reset", "ok", fresh}, {one, "reset", "ok", fresh}, {deskOf(pathText(24), "()", sixRules()...), "reset", "ok", fresh},
	} {
		wantLine(t, c.d, c.line, c.output, c.after)
		if !checkLine(t, c.d, c.line) {
			t.Errorf("the model of %v refuses %q", c.d, c.line)
		}
	}
}

// TestLinesThatAreRefused has lines whose functions return other codes than ErrNone, each one that can come, and a rule
// more than a desk can have.
func TestLinesThatAreRefused(t *testing.T) {
	fresh, one, star := newDeskModel(), deskOf("()", "(()(()))", "()>()"), deskOf(starText(24), starText(2), "()>(())")
	long, longRules := longSorting()
	manyRules := ""
	for _, r := range longRules {
		manyRules += " " + r.Left + ">" + r.Right
	}
	many := "(" + pathText(11) + pathText(10) + ")"
	for _, c := range []struct {
		d     deskModel
		lines []string
	}{
		// ErrSyntax.
		{fresh, []string{"tree (", "tree )", "tree a", "tree (a)", "tree ()()", "tree " + pathText(25), "tree", "tree ", "rule a>a", "rule (a)>b", "rule (a)", "rule ", "more a>a", "more (a)>b", "more >", "more "}},
		{fresh, []string{"match (aa)", "match i", "match ", "match (", "match " + pathText(31), "avoid 4 (aa)", "avoid 4 ", "avoid 4 x", "avoid 4 " + pathText(31)}},
		// ErrRange.
		{fresh, []string{"at 4", "at 5", "at 999999999", "put 4", "put 999999999", "cut 4", "cut 999999999", "way 4 0", "way 0 4", "way 4 4", "way 999999999 0"}},
		{one, []string{"at 1", "put 1", "cut 1", "way 1 0", "way 0 1"}},
		{fresh, []string{"rank 0 0", "rank 25 0", "rank 999999999 0", "trees 0", "trees 25", "trees 999999999", "count 0", "count 31", "count 999999999", "avoid 0 (a)", "avoid 9 (a)", "avoid 999999999 (a)"}},
		// ErrLimit.
		{fresh, []string{"trees 8", "trees 24"}}, {star, []string{"put 1", "put 23", "inside"}}, {deskOf(someText(13, 1), "()", "(a)>a"), []string{"inside"}},
		{deskOf(many, "()", "(a)>a"), []string{"reached", "loops", "meet"}}, {deskOf("()", many, "(a)>a"), []string{"meet"}},
		{one, []string{"run"}}, {star, []string{"run"}}, {deskOf("(()())", "()", "(ab)>(ba)"), []string{"run"}}, {deskOf("()", "()", "()>(())"), []string{"run"}}, {deskOf(long, "()", manyRules[1:]), []string{"run"}},
		// ErrNotFound.
		{one, []string{"next", "rank 1 1", "rank 4 5", "rank 4 999999999", "inside"}}, {star, []string{"next", "step"}}, {deskOf("(()())", "()", "(a)>a"), []string{"step", "next"}},
		{deskOf("()", "(())", "(a)>a"), []string{"inside", "step", "next"}}, {deskOf("(()())", "((()))", "(ab)>(ba)"), []string{"inside", "meet"}},
		// ErrState.
		{fresh, []string{"cut 0"}}, {one, []string{"cut 0"}}, {star, []string{"cut 0"}},
		{deskOf("()", "()", sixRules()...), []string{"more (a)>a", "more ()>()", "more", "more a", "more "}},
	} {
		for _, line := range c.lines {
			wantWrong(t, c.d, line)
		}
	}
}

// TestRulesOfDesks puts rules behind others, up to as many as there can be, and one more.
func TestRulesOfDesks(t *testing.T) {
	d := deskOf("()", "()", sixRules()[0])
	for _, text := range sixRules()[1:] {
		after := deskModel{"()", "()", d.rules + " " + text}
		wantLine(t, d, "more "+text, after.rules, after)
		wantWrong(t, d, "more "+text+">")
		d = after
	}
	for _, text := range sixRules() {
		wantWrong(t, d, "more "+text)
		wantLine(t, d, "rule "+text, text, deskModel{"()", "()", text})
	}
}

// TestRefusedLinesOfConsole checks that lines that are refused, for whatever reason, put out what wrong lines do: only empty
// ones are left out.
func TestRefusedLinesOfConsole(t *testing.T) {
	outputs, rules := "", "()>()"
	for range 6 {
		outputs += rules + "\n"
		rules += " (a)>a"
	}
	six := strings.TrimSuffix(rules, " (a)>a")
	wantConsole(t, "rule ()>()\n"+strings.Repeat("more (a)>a\n", 6), outputs+"error\n", deskOf("(()(()))", "(()(()))", six))
	for _, line := range []string{
		"more a", "rule a", "tree a", "match aa", "avoid 3 aa", "at 4", "put 4", "cut 4", "way 4 4", "rank 0 0", "trees 0", "count 0", "avoid 0 a", "trees 8", "rank 4 5", "cut 0", "at 01", "at", "at ", "at 1 1", "fly",
		"rank 1000000000 0", "rank 24 1000000000", "way 0 00", "way +1 1", "count -1", "avoid x a", "trees 9999999999",
	} {
		wantConsole(t, line, "error\n", newDeskModel())
		wantConsole(t, "mirror\n"+line+"\n\nmirror", "((())())\nerror\n(()(()))\n", newDeskModel())
	}
}

// TestTreesOfDesks checks that what becomes of the first tree leaves the second one as it is, and the other way round.
func TestTreesOfDesks(t *testing.T) {
	text := "keep\nshow\nmirror\nlook\nat 1\nlook\nshow\nswap\nlook\nat 3\nlook\nswap\nlook\nkeep\ntree (()())\nput 1\nlook\n"
	want := "(()(()))\n(()(()))\n((())())\n(()(()))\n(())\n(()(()))\n(())\n(()(()))\n(())\n()\n(())\n(())\n()\n(())\n(()())\n((())())\n(())\n"
	if got := impl.Console(text); got != want {
		t.Errorf("Console %q = %q, not %q", text, got, want)
	}
}

// numberLines has each place of a number in a line, as a line with it alone and whether the number n can stand there on
// the new desk.
var numberLines = map[string]func(n int64) bool{
	"at %s":        func(n int64) bool { return n < 4 },
	"put %s":       func(n int64) bool { return n < 4 },
	"cut %s":       func(n int64) bool { return 0 < n && n < 4 },
	"rank %s 0":    func(n int64) bool { return 0 < n && n < 25 },
	"rank 24 %s":   func(n int64) bool { return true },
	"trees %s":     func(n int64) bool { return 0 < n && n < 8 },
	"count %s":     func(n int64) bool { return 0 < n && n < 31 },
	"avoid %s (a)": func(n int64) bool { return 0 < n && n < 9 },
	"way %s 1":     func(n int64) bool { return n < 4 },
	"way 1 %s":     func(n int64) bool { return n < 4 },
}

// TestNumbersOfLines has numbers of one to nine digits at each place, and words that are no numbers.
func TestNumbersOfLines(t *testing.T) {
	for form, canStand := range numberLines {
		for _, n := range append(countedTo(0, 32), 99, 100, 12345678, 99999999, 100000000, 123456789, 999999999) {
			line := fmt.Sprintf(form, fmt.Sprint(n))
			if checkLine(t, newDeskModel(), line) != canStand(n) {
				t.Errorf("the model of the new desk does not take %q as told", line)
			}
		}
		for _, word := range noNumbers() {
			wantWrong(t, newDeskModel(), strings.Replace(form, "%s", word, 1))
		}
	}
}

// noNumbers returns words that are no numbers, though many of them would stand for small ones: with none, or more than
// nine digits, superfluous zeros, signs, and bytes that are no digits.
func noNumbers() []string {
	words := []string{
		"", "1000000000", "9999999999", "343059613649", "4294967297", "18446744073709551617", "9223372036854775807", "9223372036854775808", "99999999999999999999",
		"00", "01", "02", "007", "000000001", "0000000001", "0000000000", "00000000000000000000001", strings.Repeat("0", 100) + "1", strings.Repeat("1", 1000), strings.Repeat("0", 1<<16),
		"-0", "-1", "+0", "+1", "+2", "--1", "1-", "1+", "-", "+", "- 1", "1.", "1.0", ".1", "1,", "1e0", "1e1", "0x1", "0b1", "0o1", "1_0", "1_", "_1", "1x", "x1", "a", "one", "N", "(1)", "1;", "1/",
		"\x001", "1\x00", "\t1", "1\t", "1\r", "1\n", "\n1", "1\v", "1\xa0", "\xff", "1\xff", "١", "１", "²", "Ⅰ", "1\u00a0", "\ufeff1", "٣",
	}
	for c := range 256 {
		if c < '0' || c > '9' {
			words = append(words, string([]byte{byte(c)}), string([]byte{'1', byte(c)}))
		}
	}
	return words
}

// TestWordsOfLines has each line with a word missing, with one too many, and with blanks too many.
func TestWordsOfLines(t *testing.T) {
	few := deskOf("((()())(()))", "(()())", "(ab)>(ba)", "(a)>a")
	for _, d := range []deskModel{newDeskModel(), few} {
		for _, line := range goodLines {
			words := strings.Split(line, " ")
			for i := range words {
				wantWrong(t, d, strings.Join(slices.Delete(slices.Clone(words), i, i+1), " "))
				wantWrong(t, d, strings.Join(words[:i], " "))
				for _, word := range []string{"", "1", "0", "a", words[i], "()", "none", "\t"} {
					wantWrong(t, d, strings.Join(slices.Insert(slices.Clone(words), i, word), " "))
				}
			}
			for _, behind := range []string{" ", "  ", " 1", " 0", " a", " ()", " (a)>a", " " + line, " 1 1", " \t", " \x00", strings.Repeat(" ", 100)} {
				wantWrong(t, d, line+behind)
			}
			wantWrong(t, d, strings.ReplaceAll(line+" ", " ", "  "))
			wantWrong(t, d, "  "+line)
			wantWrong(t, d, " "+line+" ")
		}
		for _, line := range []string{"", " ", "  ", "   ", strings.Repeat(" ", 4000)} {
			wantWrong(t, d, line)
		}
	}
}

// TestNoCommands has words that are no commands.
func TestNoCommands(t *testing.T) {
	for _, line := range goodLines {
		name, words, _ := strings.Cut(line, " ")
		behind := strings.Repeat(" ", min(len(words), 1)) + words
		for i := range name {
			upper := name[:i] + strings.ToUpper(name[i:i+1]) + name[i+1:]
			wantWrong(t, newDeskModel(), upper+behind)
			wantWrong(t, newDeskModel(), name[:i+1]+name[i:]+behind)
			if name[:i] != "tree" && name[:i] != "step" {
				wantWrong(t, newDeskModel(), name[:i]+behind)
			}
		}
		for _, other := range []string{strings.ToUpper(name), name + "e", name + "x", "x" + name, name + "1", name + ":", name + "()", "/" + name, name + "\u200b", name + "\xff"} {
			wantWrong(t, newDeskModel(), other+behind)
		}
	}
	for _, name := range []string{
		"fly", "help", "quit", "exit", "undo", "size", "depth", "leaf", "steps0", "loop", "paths", "width", "height", "error", "ok", "none", "yes", "no", "T", "U", "R", "desk", "new", "()", "(()(()))", "(a)>a", "1", "0",
		"address", "postorder", "replace", "remove", "parse", "text", "draw", "normalize", "Tree", "TREE", "RESET", "ресет", "ｓｈｏｗ", "tree()", "tree:()", "at1", "at,1", "at\t1",
	} {
		for _, behind := range []string{"", " 1", " ()", " (a)>a", " 1 1", " 4 (ab)", " "} {
			wantWrong(t, newDeskModel(), name+behind)
		}
	}
}

// TestLinesWithOtherBytes puts bytes in the place of each one of each line, puts them in, and takes one out.
func TestLinesWithOtherBytes(t *testing.T) {
	for _, line := range goodLines {
		for i := range len(line) + 1 {
			for _, other := range []string{"\x00", "\t", "\n", "\r", " ", "\v", "\x1f", "\x7f", "\x80", "\xa0", "\xc3", "\xff", "0", "9", "a", "z", "A", "(", ")", ">", ";", "/", "."} {
				checkLine(t, newDeskModel(), line[:i]+other+line[i:])
				if i < len(line) {
					checkLine(t, newDeskModel(), line[:i]+other+line[i+1:])
				}
			}
			if i < len(line) {
				checkLine(t, newDeskModel(), line[:i]+line[i+1:])
			}
		}
		for _, other := range []string{"\x00", "\t", "\n", "\r", "\r\n", "\x80", "\xff", "\ufeff", "\u00a0", "é"} {
			wantWrong(t, newDeskModel(), line+other)
			wantWrong(t, newDeskModel(), other+line)
			if strings.Contains(line, " ") {
				wantWrong(t, newDeskModel(), strings.ReplaceAll(line, " ", other))
			}
		}
	}
}

// manyLines returns lines of all forms, with numbers and texts of several kinds.
func manyLines() []string {
	lines := slices.Clone(goodLines)
	for _, n := range []string{"0", "1", "2", "3", "5", "7", "8", "11", "12", "23", "24", "25", "30", "31"} {
		for _, form := range []string{"at %s", "put %s", "cut %s", "rank %s 0", "rank 5 %s", "rank %s 23", "trees %s", "count %s", "avoid %s (ab)", "avoid %s (a(b))", "way %s 0", "way 0 %s", "way %s 2"} {
			lines = append(lines, fmt.Sprintf(form, n))
		}
	}
	for _, text := range []string{"()", "(())", "(()())", "(((()))())", pathText(24), starText(24), pathText(25), "a", "(a)", "(ab)", "((a)b)", "(aa)", "(", "(ab)>(ba)", "()>()", "a>a", "(abc)>(ba)", "(a)>b"} {
		for _, name := range []string{"tree ", "rule ", "more ", "match ", "avoid 5 "} {
			lines = append(lines, name+text)
		}
	}
	return lines
}

// TestLines holds all lines on all desks against the model.
func TestLines(t *testing.T) {
	for _, d := range someDesks() {
		for _, line := range manyLines() {
			checkLine(t, d, line)
		}
	}
}

// TestLongLines has lines of many words, and very long words.
func TestLongLines(t *testing.T) {
	for _, d := range []deskModel{newDeskModel(), deskOf("()", "()", sixRules()...)} {
		for _, line := range []string{
			strings.Repeat(" ", 1<<20), strings.Repeat("show ", 1<<18), strings.Repeat("1 ", 1<<18), "show" + strings.Repeat(" ", 1<<20), strings.Repeat(" ", 1<<20) + "show", "way" + strings.Repeat(" 1", 1<<18),
			strings.Repeat("a", 1<<20), strings.Repeat("\n", 1<<20), strings.Repeat("\x00", 1<<20), "tree " + pathText(1<<19), "tree " + strings.Repeat("(", 1<<20), "match " + pathText(1<<19),
			"match " + strings.Repeat("a", 1<<20), "avoid 3 " + strings.Repeat("(", 1<<20), "rule " + pathText(1<<19) + ">()", "rule ()>" + pathText(1<<19), "more (a)" + strings.Repeat(">a", 1<<19),
			"at " + strings.Repeat("0", 1<<20), "at " + strings.Repeat("9", 1<<20), "rank 1 " + strings.Repeat("1", 1<<20), "count -" + strings.Repeat("1", 1<<20),
		} {
			wantLine(t, d, line, "error", d)
		}
	}
}

// wantConsole checks the outputs of a text, and the desk after it, by the model, too.
func wantConsole(t *testing.T, text, outputs string, after deskModel) {
	t.Helper()
	if d, byModel, ok := newDeskModel().afterAll(text); !ok || d != after || byModel != outputs {
		t.Errorf("the model of %.80q: %.200q, %v, %v", text, byModel, d, ok)
	}
	if got := impl.Console(text); got != outputs {
		t.Errorf("Console %.80q = %.200q, not %.200q", text, got, outputs)
	}
	d, ok := impl.DeskAfter(text)
	if !ok || !impl.IsDesk(d) || deskModelOf(d) != after {
		t.Errorf("DeskAfter %.80q = %v, %v, not %v", text, d, ok, after)
	}
}

// wantNoConsole checks that a text is refused, by the model, too.
func wantNoConsole(t *testing.T, text string) {
	t.Helper()
	if _, _, ok := newDeskModel().afterAll(text); ok {
		t.Errorf("the model takes %.80q", text)
	}
	if got := impl.Console(text); got != "" {
		t.Errorf("Console %.80q of %d bytes = %.200q", text, len(text), got)
	}
	if d, ok := impl.DeskAfter(text); ok || !isZero(d) {
		t.Errorf("DeskAfter %.80q of %d bytes = %v, %v", text, len(text), d, ok)
	}
}

// TestConsole has texts with empty lines, wrong ones, and with and without a newline at the end.
func TestConsole(t *testing.T) {
	fresh := newDeskModel()
	mirrored := deskOf("((())())", "(()(()))", "(a)>a")
	for _, c := range []struct {
		text, outputs string
		after         deskModel
	}{
		{"", "", fresh}, {"\n", "", fresh}, {"\n\n\n", "", fresh}, {"show", "(()(()))\n", fresh}, {"show\n", "(()(()))\n", fresh}, {"\nshow", "(()(()))\n", fresh}, {"\n\nshow\n\n", "(()(()))\n", fresh},
		{"mirror", "((())())\n", mirrored}, {"mirror\n", "((())())\n", mirrored}, {"mirror\nlook", "((())())\n(()(()))\n", mirrored}, {"mirror\n\n\nlook\n", "((())())\n(()(()))\n", mirrored},
		{"mirror\nmirror", "((())())\n(()(()))\n", fresh}, {"mirror\nmirror\nmirror\n", "((())())\n(()(()))\n((())())\n", mirrored}, {"mirror\nreset\n", "((())())\nok\n", fresh},
		{" ", "error\n", fresh}, {" \n", "error\n", fresh}, {"\n ", "error\n", fresh}, {" \n \n", "error\nerror\n", fresh}, {"fly", "error\n", fresh}, {"mirror\nfly\nshow", "((())())\nerror\n((())())\n", mirrored},
		{"mirror\nat 9\n\nmirror \n\n mirror\nMIRROR\nshow\n", "((())())\nerror\nerror\nerror\nerror\n((())())\n", mirrored}, {"\r\n", "error\n", fresh}, {"show\r\n", "error\n", fresh}, {"show\r\nshow", "error\n(()(()))\n", fresh},
		{"\x00", "error\n", fresh}, {"show\x00mirror\n", "error\n", fresh}, {"show\tshow", "error\n", fresh}, {"\xff\n", "error\n", fresh}, {"show\u0085show", "error\n", fresh}, {"show\vmirror", "error\n", fresh}, {"show\fmirror\n", "error\n", fresh},
		{"tree (()(()()()()))\npicture\neven\ntidy\nheavy\n", "(()(()()()()))\n..o..../.o.o.../o.o.o.o\n2 0 5 2 4 6 8\n2 1 3 0 2 4 6\n0 2 3;1;4;5;6\n", deskOf("(()(()()()()))", "(()(()))", "(a)>a")},
		{"rule (ab)>(ba)\nrun\nstep\nloops\nmore (a)>a\nsteps\nrule (abc)>a\nnormal\nsteps\nrun", "(ab)>(ba)\nerror\n((())())\nyes\n(ab)>(ba) (a)>a\n0 0;1 1\n(abc)>a\nyes\nnone\n((())()) 0\n", deskOf("((())())", "(()(()))", "(abc)>a")},
		{"keep\ntree ((()))\nlook\ninside\nswap\ninside\nmeet\n", "(()(()))\n((()))\n(()(()))\nerror\n(()(()))\n0 2 3\nerror\n", deskOf("(()(()))", "((()))", "(a)>a")},
		{"cut 3\nmeet\nwhere\nrank 4 0\nrun\nnext\nreset\nnext\nwhere\n", "(()())\n(()())\n1\n(((())))\n() 3\nerror\nok\n((())())\n3\n", deskOf("((())())", "(()(()))", "(a)>a")},
	} {
		wantConsole(t, c.text, c.outputs, c.after)
	}
}

// TestLimitsOfTexts has texts of just as many bytes and lines as are allowed, and of one more.
func TestLimitsOfTexts(t *testing.T) {
	fresh, shown, wrong := newDeskModel(), "(()(()))\n", "error\n"
	x := func(n int) string { return strings.Repeat("x", n) }
	times := strings.Repeat
	for _, c := range []struct{ text, outputs string }{
		{x(4000), wrong}, {x(3999) + "\n", wrong}, {"show\n" + x(3995), shown + wrong}, {"show\n" + x(3994) + "\n", shown + wrong}, {x(3995) + "\nshow", wrong + shown}, {times(" ", 4000), wrong}, {times("\x00", 4000), wrong},
		{times("\n", 40), ""}, {times("\n", 39), ""}, {times("\n", 39) + "show", shown}, {times("\n", 39) + "show\n", shown}, {times("\n", 38) + "show\n\n", shown}, {"show" + times("\n", 40), shown}, {"show" + times("\n", 39) + "show", shown + shown},
		{times("show\n", 40), times(shown, 40)}, {times("show\n", 39) + "show", times(shown, 40)}, {times("show\n\n", 20), times(shown, 20)}, {times("\nshow\n", 20), times(shown, 20)}, {times(" \n", 40), times(wrong, 40)},
		{times(x(99)+"\n", 40), times(wrong, 40)}, {times(x(99)+"\n", 39) + x(100), times(wrong, 40)}, {times("\n", 39) + x(3961), wrong}, {times("\n", 39) + x(3960) + "\n", wrong}, {x(3960) + times("\n", 40), wrong},
	} {
		wantConsole(t, c.text, c.outputs, fresh)
		for _, more := range []string{"x", "\n", "show\n"} {
			// One byte more, or one line more, where the text is at a limit.
			if d, outputs, ok := fresh.afterAll(c.text + more); ok {
				wantConsole(t, c.text+more, outputs, d)
			} else {
				wantNoConsole(t, c.text+more)
			}
		}
	}
	for _, text := range []string{
		x(4001), x(4000) + "\n", "\n" + x(4000), times(" ", 4001), "show\n" + x(3995) + "\n", "show\n" + x(3996), times("x\n", 20) + x(3961), times("ä", 2001), times("\x00", 4001), times("\n", 4001), times("show\n", 801),
		times("\n", 41), times("\n", 40) + "show", times("\n", 40) + " ", "show" + times("\n", 41), "show" + times("\n", 40) + "show", times("show\n", 41), times("show\n", 40) + "show", times("show\n", 40) + "\n", "\n" + times("show\n", 40), times("show\n\n", 20) + "\n", times("show\n\n", 20) + "show",
		times("\n", 4000), times("x\n", 2000), times(x(99)+"\n", 40) + "\n", times(x(99)+"\n", 40) + "x", times("x", 1<<20), times("\n", 1<<20), times("show\n", 1<<20),
	} {
		wantNoConsole(t, text)
	}
}
