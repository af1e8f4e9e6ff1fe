package tests

import (
	"fmt"
	"regexp"
	"slices"
	"strconv"
	"strings"

	"loop.example/g01391/impl"
)

// A deskModel tells of a desk by texts alone: those of its trees, and those of its rules with blanks between them.
type deskModel struct {
	tree, other, rules string
}

func newDeskModel() deskModel { return deskModel{"(()(()))", "(()(()))", "(a)>a"} }

func (d deskModel) system() []impl.Rule { return systemOf(strings.Split(d.rules, " ")...) }

func (d deskModel) desk() impl.Desk {
	return impl.Desk{Tree: parsed(d.tree), Other: parsed(d.other), Rules: d.system()}
}

// textByDegrees returns the text of a tree: a bracket closes behind a node that waits for no child any more.
func textByDegrees(x impl.Tree) string {
	text := ""
	var waiting []int64
	for _, degree := range x.Degrees {
		text += "("
		waiting = append(waiting, degree)
		for last := len(waiting) - 1; last >= 0 && waiting[last] == 0; last-- {
			text += ")"
			waiting = waiting[:last]
			if last > 0 {
				waiting[last-1]--
			}
		}
	}
	return text
}

// deskModelOf tells of a desk by its texts.
func deskModelOf(d impl.Desk) deskModel {
	var rules []string
	for _, r := range d.Rules {
		rules = append(rules, r.Left+">"+r.Right)
	}
	return deskModel{textByDegrees(d.Tree), textByDegrees(d.Other), strings.Join(rules, " ")}
}

// A lineModel returns the desk after a line with such words behind the command, the output, and whether the line is
// not wrong.
type lineModel func(d deskModel, words []string) (deskModel, string, bool)

// lineModels has the lines of the document's table.
var lineModels = map[string]lineModel{
	"tree TEXT": func(d deskModel, words []string) (deskModel, string, bool) {
		return d.with(words[0], isTreeText(words[0]))
	},
	"mirror": func(d deskModel, _ []string) (deskModel, string, bool) { return d.with(mirrorText(d.tree), true) },
	"at V": func(d deskModel, words []string) (deskModel, string, bool) {
		return d.withNode(words[0], func(m model, v int64) (string, bool) { return m.part(v), true })
	},
	"put V": func(d deskModel, words []string) (deskModel, string, bool) {
		return d.withNode(words[0], func(m model, v int64) (string, bool) { return m.with(v, d.other), len(m.with(v, d.other)) <= 48 })
	},
	"cut V": func(d deskModel, words []string) (deskModel, string, bool) {
		return d.withNode(words[0], func(m model, v int64) (string, bool) { return m.with(v, ""), v > 0 })
	},
	"next": func(d deskModel, _ []string) (deskModel, string, bool) {
		return d.withTree(impl.NextTree(parsed(d.tree)))
	},
	"rank N K": func(d deskModel, words []string) (deskModel, string, bool) {
		return d.withTree(impl.TreeOfRank(numberOf(words[0]), numberOf(words[1])))
	},
	"swap": func(d deskModel, _ []string) (deskModel, string, bool) {
		return deskModel{d.other, d.tree, d.rules}, d.other, true
	},
	"keep": func(d deskModel, _ []string) (deskModel, string, bool) {
		return deskModel{d.tree, d.tree, d.rules}, d.tree, true
	},
	"rule TEXT": func(d deskModel, words []string) (deskModel, string, bool) {
		return deskModel{d.tree, d.other, words[0]}, words[0], isRuleText(words[0])
	},
	"more TEXT": func(d deskModel, words []string) (deskModel, string, bool) {
		rules := d.rules + " " + words[0]
		return deskModel{d.tree, d.other, rules}, rules, isRuleText(words[0]) && strings.Count(rules, ">") <= 6
	},
	"step": func(d deskModel, _ []string) (deskModel, string, bool) {
		if open := modelOf(d.tree).openMoves(d.system()); len(open) > 0 {
			return d.with(open[0].behind, true)
		}
		return d, "", false
	},
	"run": func(d deskModel, _ []string) (deskModel, string, bool) {
		end, count, ok := normalText(d.tree, d.system(), 100)
		return deskModel{end, d.other, d.rules}, fmt.Sprint(end, " ", count), ok
	},
	"reset": func(d deskModel, _ []string) (deskModel, string, bool) { return newDeskModel(), "ok", true },
	"show":  told(func(d deskModel, _ []string) (string, bool) { return d.tree, true }),
	"look":  told(func(d deskModel, _ []string) (string, bool) { return d.other, true }),
	"system": told(func(d deskModel, _ []string) (string, bool) {
		return d.rules, true
	}),
	"sizes": toldOfNodes(func(m model, v int64) int64 { return int64(len(m.part(v)) / 2) }),
	"depths": toldOfNodes(func(m model, v int64) int64 {
		return m.depth(v)
	}),
	"leaves": told(func(d deskModel, _ []string) (string, bool) {
		return d.nodesWith(func(part string) bool { return part == "()" }), true
	}),
	"where": told(func(d deskModel, _ []string) (string, bool) {
		rank, code := impl.RankOfTree(parsed(d.tree))
		return fmt.Sprint(rank), code == impl.ErrNone
	}),
	"trees N": told(func(_ deskModel, words []string) (string, bool) {
		n := numberOf(words[0])
		if n < 1 || n > 7 {
			return "", false
		}
		isFewer := func(text string) bool { return int64(len(text)) < 2*n }
		return strings.Join(slices.DeleteFunc(textsInOrder(int(n)), isFewer), " "), true
	}),
	"count N": told(func(_ deskModel, words []string) (string, bool) {
		n := numberOf(words[0])
		if n < 1 || n > 30 {
			return "", false
		}
		return fmt.Sprint(knownTrees(n)), true
	}),
	"match TEXT": told(func(d deskModel, words []string) (string, bool) {
		return d.nodesWith(func(part string) bool { return isMatched(words[0], part) }), isPatternText(words[0])
	}),
	"avoid N TEXT": told(func(_ deskModel, words []string) (string, bool) {
		n := numberOf(words[0])
		if n < 1 || n > 8 || !isPatternText(words[1]) {
			return "", false
		}
		hasMatch := func(text string) bool {
			return deskModel{tree: text}.nodesWith(func(part string) bool { return isMatched(words[1], part) }) != "none"
		}
		return fmt.Sprint(len(slices.DeleteFunc(treeTexts(int(n)), hasMatch))), true
	}),
	"inside": told(func(d deskModel, _ []string) (string, bool) {
		if len(d.tree) > 24 {
			return "", false
		}
		lists := insideLists(d.other, d.tree)
		return numbersText(slices.Concat(lists[:min(len(lists), 1)]...)), len(lists) > 0
	}),
	"tidy": told(func(d deskModel, _ []string) (string, bool) { return numbersText(modelOf(d.tree).tidy()), true }),
	"even": told(func(d deskModel, _ []string) (string, bool) { return numbersText(modelOf(d.tree).even()), true }),
	"way V I": told(func(d deskModel, words []string) (string, bool) {
		m, v, w := modelOf(d.tree), numberOf(words[0]), numberOf(words[1])
		if max(v, w) >= m.count() {
			return "", false
		}
		return numbersText(wayBy(m.distances(), v, w)), true
	}),
	"heavy":   told(func(d deskModel, _ []string) (string, bool) { return listsText(modelOf(d.tree).heavyPaths()), true }),
	"picture": told(func(d deskModel, _ []string) (string, bool) { return modelOf(d.tree).picture(), true }),
	"steps": told(func(d deskModel, _ []string) (string, bool) {
		var pairs [][]int64
		for _, x := range modelOf(d.tree).openMoves(d.system()) {
			pairs = append(pairs, []int64{x.node, x.rule})
		}
		return listsText(pairs), true
	}),
	"reached": told(func(d deskModel, _ []string) (string, bool) {
		reached := reachedTexts(d.tree, d.system())
		return strings.Join(reached, " "), reached != nil
	}),
	"normal": told(func(d deskModel, _ []string) (string, bool) {
		return oneOf(len(modelOf(d.tree).moves(d.system())) == 0, "yes", "no"), true
	}),
	"loops": told(func(d deskModel, _ []string) (string, bool) {
		crossings := crossingTexts(d.tree, d.system())
		return oneOf(comesBack(crossings), "yes", "no"), len(crossings) < manyReached
	}),
	"meet": told(func(d deskModel, _ []string) (string, bool) {
		meeting := meetingText(d.tree, d.other, d.system())
		isFew := reachedTexts(d.tree, d.system()) != nil && reachedTexts(d.other, d.system()) != nil
		return meeting, isFew && meeting != ""
	}),
}

// with returns the desk with another text of the first tree, which is the output.
func (d deskModel) with(text string, ok bool) (deskModel, string, bool) {
	return deskModel{text, d.other, d.rules}, text, ok
}

func (d deskModel) withTree(x impl.Tree, code int64) (deskModel, string, bool) {
	return d.with(textByDegrees(x), code == impl.ErrNone)
}

// withNode returns the desk with the text that a function makes of the first tree and a node.
func (d deskModel) withNode(word string, made func(m model, v int64) (string, bool)) (deskModel, string, bool) {
	m, v := modelOf(d.tree), numberOf(word)
	if v >= m.count() {
		return d, "", false
	}
	return d.with(made(m, v))
}

// nodesWith returns the output of the nodes whose texts are such ones.
func (d deskModel) nodesWith(isOne func(part string) bool) string {
	var nodes []int64
	m := modelOf(d.tree)
	for v := range m.count() {
		if isOne(m.part(v)) {
			nodes = append(nodes, v)
		}
	}
	return numbersText(nodes)
}

// told returns the model of a line that changes nothing.
func told(tell func(d deskModel, words []string) (string, bool)) lineModel {
	return func(d deskModel, words []string) (deskModel, string, bool) {
		output, ok := tell(d, words)
		return d, output, ok
	}
}

// toldOfNodes returns the model of a line that tells a number of each node.
func toldOfNodes(tell func(m model, v int64) int64) lineModel {
	return told(func(d deskModel, _ []string) (string, bool) {
		m := modelOf(d.tree)
		return numbersText(m.each(func(v int64) int64 { return tell(m, v) })), true
	})
}

func isTreeText(text string) bool {
	return isPatternText(text) && !strings.ContainsAny(text, letterNames) && len(text) <= 48
}

func isMatched(p, part string) bool {
	_, ok := pieceOf(p).open(pieceOf(part))
	return ok
}

func numberOf(word string) int64 {
	x, _ := strconv.Atoi(word)
	return int64(x)
}

func numbersText(list []int64) string {
	if len(list) == 0 {
		return "none"
	}
	return strings.Trim(fmt.Sprint(list), "[]")
}

func listsText(lists [][]int64) string {
	if len(lists) == 0 {
		return "none"
	}
	var texts []string
	for _, list := range lists {
		texts = append(texts, numbersText(list))
	}
	return strings.Join(texts, ";")
}

// linePatterns has, for each line of the table, the expression for all of its lines.
var linePatterns = func() map[string]*regexp.Regexp {
	number := "(0|[1-9][0-9]{0,8})"
	places := strings.NewReplacer("TEXT", "([^ ]*)", "I", number, "K", number, "N", number, "V", number)
	patterns := map[string]*regexp.Regexp{}
	for form := range lineModels {
		patterns[form] = regexp.MustCompile(`\A` + places.Replace(form) + `\z`)
	}
	return patterns
}()

// after returns the desk after a line, and the output.
func (d deskModel) after(line string) (deskModel, string) {
	for form, pattern := range linePatterns {
		words := pattern.FindStringSubmatch(line)
		if words == nil {
			continue
		}
		if next, output, ok := lineModels[form](d, words[1:]); ok {
			return next, output
		}
	}
	return d, "error"
}

// afterAll returns the desk after the lines of a text that are not empty, and their outputs, or false if the text has
// more than 4000 bytes or more than 40 lines: as many as newlines, and one more if something stands behind the last.
func (d deskModel) afterAll(text string) (deskModel, string, bool) {
	lines := strings.Count(text, "\n")
	if text != "" && !strings.HasSuffix(text, "\n") {
		lines++
	}
	if len(text) > 4000 || lines > 40 {
		return deskModel{}, "", false
	}
	outputs := ""
	for line := range strings.SplitSeq(text, "\n") {
		if line == "" {
			continue
		}
		next, output := d.after(line)
		d = next
		outputs += output + "\n"
	}
	return d, outputs, true
}
