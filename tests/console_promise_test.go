package tests

import (
	"fmt"
	"slices"
	"strings"
	"testing"
	"testing/synctest"

	"loop.example/g01391/impl"
)

// drawnLine returns a line of some form, with words that often, but not always, can stand there. Few lines are empty, or
// have a blank too many.
func drawnLine(draw func(m int64) int64) string {
	pick := func(list ...string) string { return list[draw(int64(len(list)))] }
	form := pick(goodLines...)
	name, _, hasWords := strings.Cut(form, " ")
	number := fmt.Sprint(draw(7))
	switch draw(60) {
	case 0:
		return pick("", "", form+" ", " "+form, "fly", strings.ToUpper(form))
	case 1:
		number = pick("24", "00", "-1", "1000000000", "999999999", "")
	}
	tree := someText(1+int(draw(9)), uint64(draw(1000)))
	pattern := pick("(a)", "(ab)", "((a)b)", "a", "()", "(a(b))", "(aa)", tree)
	system := someSystems(1, uint64(draw(1000)))[0][0]
	rule := system.Left + ">" + system.Right
	switch {
	case !hasWords:
		return form
	case name == "tree":
		return name + " " + pick(tree, tree, tree, tree+")", "a")
	case name == "rule" || name == "more":
		return name + " " + pick(rule, rule, rule, rule+">", "(a)>b")
	case name == "match":
		return name + " " + pattern
	case name == "avoid":
		return name + " " + number + " " + pattern
	case name == "rank" || name == "way":
		return name + " " + number + " " + fmt.Sprint(draw(6))
	}
	return name + " " + number
}

// drawnTextsOfConsole returns so many texts of at most MaxLines lines, some of which lack the newline at the end.
func drawnTextsOfConsole(n int, seed uint64) []string {
	draw := draws(seed)
	var texts []string
	for range n {
		text := ""
		for range 1 + draw(impl.MaxLines) {
			text += drawnLine(draw) + "\n"
		}
		texts = append(texts, text[:len(text)-int(draw(2))])
	}
	return texts
}

func sameDesk(d, e impl.Desk) bool {
	return sameList(d.Tree.Degrees, e.Tree.Degrees) && sameList(d.Other.Degrees, e.Other.Degrees) && slices.Equal(d.Rules, e.Rules)
}

// TestPromise11 checks promise 11 and the rest of the guarantee of chapter 11 by the package's functions alone: each line
// leads from a desk to a desk, a line with the output error changes nothing, and the console joins the outputs.
func TestPromise11(t *testing.T) {
	wrong, all := 0, 0
	for _, text := range drawnTextsOfConsole(300, 1) {
		d, joined := impl.NewDesk(), ""
		for line := range strings.SplitSeq(text, "\n") {
			next, output := impl.RunLine(d, line)
			if !impl.IsDesk(next) || output == "" || strings.Contains(output, "\n") {
				t.Fatalf("RunLine %v %q = %v, %q", d, line, next, output)
			}
			if output == "error" && !sameDesk(d, next) {
				t.Errorf("RunLine %v %q is wrong, and leads to %v", d, line, next)
			}
			d = next
			if line == "" {
				continue
			}
			joined += output + "\n"
			all++
			if output == "error" {
				wrong++
			}
		}
		if got := impl.Console(text); got != joined {
			t.Errorf("Console %q = %q, not %q", text, got, joined)
		}
		if last, ok := impl.DeskAfter(text); !ok || !sameDesk(last, d) {
			t.Errorf("DeskAfter %q = %v, %v, not %v", text, last, ok, d)
		}
	}
	if wrong < all/20 || wrong > all/2 {
		t.Errorf("%d of %d lines are wrong", wrong, all)
	}
}

// TestTextsOfConsole holds the outputs of drawn texts, and the desks after them, against the model.
func TestTextsOfConsole(t *testing.T) {
	for _, text := range drawnTextsOfConsole(300, 2) {
		d, outputs, _ := newDeskModel().afterAll(text)
		wantConsole(t, text, outputs, d)
	}
}

// TestDrawnLines goes by drawn lines from desks of several kinds, each line held against the model. Each form comes to
// an output that is not error.
func TestDrawnLines(t *testing.T) {
	draw, done := draws(3), map[string]bool{}
	for _, d := range someDesks() {
		for range 60 {
			line := drawnLine(draw)
			name, _, _ := strings.Cut(line, " ")
			if checkLine(t, d, line) {
				done[name] = true
			}
			d, _ = d.after(line)
		}
	}
	for _, line := range goodLines {
		if name, _, _ := strings.Cut(line, " "); !done[name] {
			t.Errorf("no line of %s was right", name)
		}
	}
}

// TestBeginningsOfTexts checks that the outputs of the beginning of a text are the beginning of its outputs, and that the
// rest goes on from the desk after it.
func TestBeginningsOfTexts(t *testing.T) {
	for _, text := range drawnTextsOfConsole(20, 4) {
		lines := strings.SplitAfter(text, "\n")
		whole := impl.Console(text)
		for i := range lines {
			begin := strings.Join(lines[:i], "")
			outputs := impl.Console(begin)
			d, ok := impl.DeskAfter(begin)
			for _, line := range lines[i:] {
				if line = strings.TrimSuffix(line, "\n"); line == "" {
					continue
				}
				next, output := impl.RunLine(d, line)
				d = next
				outputs += output + "\n"
			}
			if outputs != whole || !ok {
				t.Errorf("Console %q, and lines behind it, is %q, and in one %q", begin, outputs, whole)
			}
		}
	}
}

// TestLinesLeadBack checks lines that lead back: mirrored and exchanged trees, parsed ones, ranks, and rules.
func TestLinesLeadBack(t *testing.T) {
	for _, d := range someDesks() {
		ways := []string{"mirror\nmirror", "swap\nswap", "tree ()\ntree " + d.tree, "reset\ntree " + d.other + "\nkeep\ntree " + d.tree, "reset\ntree " + d.other + "\nswap\ntree " + d.tree}
		if _, rank := impl.RunLine(d.desk(), "where"); len(rank) < 10 {
			ways = append(ways, fmt.Sprint("tree ()\nrank ", len(d.tree)/2, " ", rank))
		}
		rules := "rule " + strings.ReplaceAll(d.rules, " ", "\nmore ")
		for _, way := range ways {
			last := d.desk()
			for line := range strings.SplitSeq(way+"\n"+rules, "\n") {
				last, _ = impl.RunLine(last, line)
			}
			if got := deskModelOf(last); got != d {
				t.Errorf("%q leads from %v to %v", way, d, got)
			}
		}
	}
}

// guardedDesk returns a desk whose lists have other values behind them, and what tells of all of its memory.
func guardedDesk(d deskModel) (impl.Desk, func() string) {
	x, xMemory := guarded(d.tree)
	y, yMemory := guarded(d.other)
	rules, ruleMemory := guardedRules(d.system())
	return impl.Desk{Tree: x, Other: y, Rules: rules}, func() string { return fmt.Sprint(xMemory, yMemory, ruleMemory) }
}

// TestDeskArgumentsStay checks that desks stay as they are, whatever line is executed, that desks after lines share no
// memory with them, and that both trees of a desk share none.
func TestDeskArgumentsStay(t *testing.T) {
	for _, model := range someDesks() {
		d, memory := guardedDesk(model)
		calls := map[string]func() (any, int64){}
		for _, line := range append([]string{"", " ", "fly", "at 30", "put 30", "cut 0", "more a", "rule a", "tree a", "at 0", "put 0", "cut 1", "rank 24 5", "more ()>()", "rule (abc)>(cba)"}, goodLines...) {
			calls["RunLine "+line] = func() (any, int64) {
				after, _ := impl.RunLine(d, line)
				return after, impl.ErrNone
			}
		}
		calls["IsDesk"] = func() (any, int64) { return pair(impl.IsDesk(d), impl.ErrNone) }
		checkStay(t, calls, memory)
	}
	for _, d := range badDesks() {
		before := fmt.Sprint(d)
		impl.IsDesk(d)
		impl.RunLine(d, "mirror")
		if after := fmt.Sprint(d); after != before {
			t.Errorf("%.200s became %.200s", before, after)
		}
	}
}

// TestDesksOfLinesAreNew checks, line by line, that a desk stays as it is whatever becomes of those before it and after
// it.
func TestDesksOfLinesAreNew(t *testing.T) {
	for _, text := range append(drawnTextsOfConsole(100, 5), strings.Join(goodLines, "\n"), "keep\nswap\nkeep\nfly\nshow\nswap\nrun\nkeep\nat 0\nreset\nfly") {
		before, model := impl.NewDesk(), newDeskModel()
		for line := range strings.SplitSeq(text, "\n") {
			next, _ := model.after(line)
			after, _ := impl.RunLine(before, line)
			spoil(before)
			if told := deskModelOf(after); told != next {
				t.Fatalf("RunLine %v %q shares memory with the desk before it: %v", model, line, told)
			}
			again, _ := impl.RunLine(after, "fly")
			checkOwnMemory(t, "RunLine "+line, after)
			spoil(after)
			if told := deskModelOf(again); told != next {
				t.Fatalf("the desk behind RunLine %v %q shares memory with it: %v", model, line, told)
			}
			before, model = again, next
		}
	}
}

// TestNewDesksAreNew checks that desks that come from no desk share no memory with each other.
func TestNewDesksAreNew(t *testing.T) {
	for name, make := range map[string]func() impl.Desk{
		"NewDesk": impl.NewDesk,
		"DeskAfter no line": func() impl.Desk {
			d, _ := impl.DeskAfter("")
			return d
		},
		"DeskAfter reset": func() impl.Desk {
			d, _ := impl.DeskAfter("mirror\nmore ()>()\nreset")
			return d
		},
	} {
		for range 3 {
			d, other := make(), make()
			checkOwnMemory(t, name, d)
			spoil(d)
			if told := deskModelOf(other); told != newDeskModel() {
				t.Errorf("%s = %v", name, told)
			}
		}
	}
}

// TestTextsOfDesksAreNew checks that no text of a rule, and no output, lies in the memory of a desk or of a line.
func TestTextsOfDesksAreNew(t *testing.T) {
	for _, model := range someDesks() {
		d := model.desk()
		for _, given := range append([]string{"fly", "rule (abc)>(cba)"}, goodLines...) {
			line := strings.Clone(given)
			after, output := impl.RunLine(d, line)
			texts := []string{output}
			for _, r := range after.Rules {
				texts = append(texts, r.Left, r.Right)
			}
			for _, text := range texts {
				if liesIn(text, line) {
					t.Errorf("%q of RunLine %q lies in the memory of the line", text, line)
				}
				for _, r := range d.Rules {
					if liesIn(text, r.Left) || liesIn(text, r.Right) {
						t.Errorf("%q of RunLine %q lies in the memory of the desk", text, line)
					}
				}
			}
		}
	}
}

// TestNoLineIsLeft checks that no goroutine of a console goes on behind it, and that several consoles at once put out what
// they put out alone.
func TestNoLineIsLeft(t *testing.T) {
	synctest.Test(t, func(t *testing.T) {
		outputs := make(chan string)
		for _, text := range drawnTextsOfConsole(20, 6) {
			alone := impl.Console(text)
			for range 4 {
				go func() { outputs <- impl.Console(text) }()
			}
			for range 4 {
				if together := <-outputs; together != alone {
					t.Errorf("Console %q = %q, and at once %q", text, alone, together)
				}
			}
		}
		synctest.Wait()
	})
}
