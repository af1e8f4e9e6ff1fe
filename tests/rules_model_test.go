package tests

import (
	"cmp"
	"slices"
	"strings"

	"loop.example/g01391/impl"
)

// manyReached is a number of reached trees that are more than MaxSteps; the model looks for no more.
const manyReached = 101

// A move is a step by a rule at a node, with the text behind it, which can be that of any number of nodes.
type move struct {
	node, rule int64
	behind     string
}

// ruleOf returns the rule with a text in which `>` stands once.
func ruleOf(text string) impl.Rule {
	sides := strings.Split(text, ">")
	return impl.Rule{Left: sides[0], Right: sides[1]}
}

func systemOf(texts ...string) []impl.Rule {
	var rules []impl.Rule
	for _, text := range texts {
		rules = append(rules, ruleOf(text))
	}
	return rules
}

// isRuleOfPieces reports whether both sides of a rule are as told.
func isRuleOfPieces(r impl.Rule) bool {
	if !isPatternText(r.Left) || len(r.Left) == 1 || len(r.Right) > 60 {
		return false
	}
	right, behind, ok := readPiece(r.Right)
	if !ok || behind != "" {
		return false
	}
	for _, letter := range right.letters() {
		if !strings.ContainsRune(pieceOf(r.Left).letters(), letter) {
			return false
		}
	}
	return true
}

// isRuleText reports whether a text is that of a rule.
func isRuleText(text string) bool {
	return strings.Count(text, ">") == 1 && isRuleOfPieces(ruleOf(text))
}

// with returns the text of a piece with texts by their letters in the place of these.
func (x piece) with(texts map[string]string) string {
	if x.letter != "" {
		return texts[x.letter]
	}
	text := "("
	for _, part := range x.parts {
		text += part.with(texts)
	}
	return text + ")"
}

// moves returns all steps by rules, open or not, by nodes and then by rules.
func (m model) moves(rules []impl.Rule) []move {
	var moves []move
	for v := range m.count() {
		for i, r := range rules {
			left := pieceOf(r.Left)
			parts, ok := left.open(pieceOf(m.part(v)))
			if !ok {
				continue
			}
			texts := map[string]string{}
			for k, letter := range strings.Split(left.letters(), "") {
				if letter != "" {
					texts[letter] = parts[k]
				}
			}
			moves = append(moves, move{v, int64(i), m.with(v, pieceOf(r.Right).with(texts))})
		}
	}
	return moves
}

// openMoves returns the steps that are open.
func (m model) openMoves(rules []impl.Rule) []move {
	return slices.DeleteFunc(m.moves(rules), func(x move) bool { return len(x.behind) > 2*impl.MaxNodes })
}

// byTreeOrder compares the texts of two trees in the order of trees.
func byTreeOrder(x, y string) int {
	return cmp.Or(cmp.Compare(len(x), len(y)), slices.Compare(parsed(x).Degrees, parsed(y).Degrees))
}

// crossingTexts returns, by the texts of the reached trees of a tree, the texts behind their open steps. It stops at
// manyReached trees.
func crossingTexts(text string, rules []impl.Rule) map[string][]string {
	crossings := map[string][]string{text: nil}
	for found := []string{text}; len(found) > 0; found = found[1:] {
		for _, x := range modelOf(found[0]).openMoves(rules) {
			crossings[found[0]] = append(crossings[found[0]], x.behind)
			if _, isThere := crossings[x.behind]; !isThere {
				crossings[x.behind] = nil
				found = append(found, x.behind)
			}
			if len(crossings) == manyReached {
				return crossings
			}
		}
	}
	return crossings
}

// reachedTexts returns the texts of the reached trees in their order, or nil if they are more than MaxSteps.
func reachedTexts(text string, rules []impl.Rule) []string {
	crossings := crossingTexts(text, rules)
	if len(crossings) >= manyReached {
		return nil
	}
	var list []string
	for reached := range crossings {
		list = append(list, reached)
	}
	slices.SortFunc(list, byTreeOrder)
	return list
}

// comesBack reports whether steps lead from some text back to itself: from each one all ways are gone.
func comesBack(crossings map[string][]string) bool {
	for text, waiting := range crossings {
		seen := map[string]bool{}
		for len(waiting) > 0 {
			last := waiting[0]
			waiting = waiting[1:]
			if !seen[last] {
				seen[last] = true
				waiting = append(slices.Clone(crossings[last]), waiting...)
			}
		}
		if seen[text] {
			return true
		}
	}
	return false
}

// meetingText returns the first text that is reached from both, or none.
func meetingText(text, other string, rules []impl.Rule) string {
	for _, reached := range reachedTexts(text, rules) {
		if slices.Contains(reachedTexts(other, rules), reached) {
			return reached
		}
	}
	return ""
}

// normalText returns the text to which at most k first steps lead, the number of the steps, and whether it is that of
// a normal tree.
func normalText(text string, rules []impl.Rule, k int64) (string, int64, bool) {
	for count := int64(0); count <= k; count++ {
		m := modelOf(text)
		if len(m.moves(rules)) == 0 {
			return text, count, true
		}
		open := m.openMoves(rules)
		if len(open) == 0 {
			return text, count, false
		}
		text = open[0].behind
	}
	return text, k, false
}

// criticalIn returns the critical places of two rules: of the second one's brackets, those whose piece goes together
// with the first one's.
func criticalIn(r, s impl.Rule) []int64 {
	var places []int64
	for place, c := range s.Left {
		part, _, _ := readPiece(s.Left[place:])
		if _, ok := pieceOf(r.Left).common(part); ok && c == '(' {
			places = append(places, int64(place))
		}
	}
	return places
}

// withLetters returns all pieces that come from one with the letter x at each open place if letters, one or more, are
// put there, each as often as one likes. There is none if the piece has open places and no letter is told.
func withLetters(p string, letters string) []string {
	if !strings.Contains(p, "x") {
		return []string{p}
	}
	var list []string
	for _, letter := range strings.Split(letters, "") {
		if letter != "" {
			list = append(list, withLetters(strings.Replace(p, "x", letter, 1), letters)...)
		}
	}
	return list
}

// rulesUpTo returns all rules whose sides have at most n nodes and letters together each, with letters as in
// patternsUpTo.
func rulesUpTo(n int) []impl.Rule {
	var rules []impl.Rule
	for _, left := range patternsUpTo(n) {
		if len(left) == 1 {
			continue
		}
		rights := withLetters("x", pieceOf(left).letters())
		for k := range n {
			for _, forest := range unnamedForests(k) {
				rights = append(rights, withLetters("("+forest+")", pieceOf(left).letters())...)
			}
		}
		for _, right := range rights {
			rules = append(rules, impl.Rule{Left: left, Right: right})
		}
	}
	return rules
}

// someSystems returns so many systems of 1 to MaxRules rules, drawn from some that lead to fewer nodes, to as many, and
// to more.
func someSystems(n int, seed uint64) [][]impl.Rule {
	draw := draws(seed)
	texts := []string{
		"(a)>a", "(ab)>(ba)", "((a)b)>(a(b))", "(a(b))>((a)b)", "((ab)c)>(a(bc))", "(abc)>(ab)", "(()a)>a", "(a())>(a)", "((a))>(aa)",
		"(abc)>(bca)", "(()())>((()))", "(a(b))>(ba)", "(()(a)b)>(b()a)", "()>(())", "(a)>(aa)", "(ab)>b", "(((a)))>(a)", "((a)(b))>((ab))",
	}
	var systems [][]impl.Rule
	for range n {
		var rules []impl.Rule
		for range 1 + draw(impl.MaxRules) {
			rules = append(rules, ruleOf(texts[draw(int64(len(texts)))]))
		}
		systems = append(systems, rules)
	}
	return systems
}

// sortingText returns the text of a path on which so many nodes have a leaf behind the next one, and then so many have
// none. By the rule ((a)())>((a())) nodes with a leaf go down.
func sortingText(withLeaf, without int) string {
	return strings.Repeat("(", withLeaf+without) + "()" + strings.Repeat(")", without) + strings.Repeat("())", withLeaf)
}

// badRules returns what is no rule: a Left that is no pattern or a letter alone, and a Right that is no piece, has a
// letter that Left lacks, or has more than MaxPattern bytes.
func badRules() []impl.Rule {
	rules := []impl.Rule{{}, {Left: "(a)"}, {Right: "(a)"}}
	for _, left := range badPatterns() {
		for _, right := range []string{"()", "a", left} {
			rules = append(rules, impl.Rule{Left: left, Right: right})
		}
	}
	for _, letter := range strings.Split(letterNames, "") {
		for _, right := range []string{"()", letter, "(" + letter + ")", "b"} {
			rules = append(rules, impl.Rule{Left: letter, Right: right})
		}
	}
	for _, right := range []string{
		"", " ", "(", ")", "(a", "a)", "aa", "ab", "()()", "()a", "a()", "(a)(a)", "(a))", "((a)", "(a ba)", " a", "a ", "(a>a)", ">", "a>", ">a", ")(",
		"b", "(b)", "h", "(ab)", "((aa)(a(b)))", "i", "(i)", "A", "(aA)", "0", "1", "[a]", "(\x00)", "\xff", "(ä)", "（a）", "(a\n)", "a\n",
		"(a" + strings.Repeat("()", 29) + ")", pathText(31), "(" + strings.Repeat("a", 59) + ")", "(" + pathText(29) + "a)", strings.Repeat("a", 60),
		strings.Repeat("(", 60), pathText(1 << 20), "(" + strings.Repeat("a", 1<<20) + ")",
	} {
		rules = append(rules, impl.Rule{Left: "(a)", Right: right})
	}
	for _, r := range systemOf("()>a", "(())>(a)", "(ac)>(abc)", "(h)>a", "(bcdefgh)>a", "(abcdefg)>h", "((a)(b))>((a)(c))") {
		rules = append(rules, r)
	}
	return rules
}

// badSystems returns lists of rules that are no systems: without a rule, of more than MaxRules, and with one that is
// none.
func badSystems() [][]impl.Rule {
	good := systemOf("(a)>a", "(ab)>(ba)", "()>()", "((a)b)>(ab)", "(abc)>a", "(a(b))>((a)b)")
	systems := [][]impl.Rule{nil, {}, append(slices.Clone(good), ruleOf("(a)>(aa)")), slices.Repeat(good[:1], impl.MaxRules+1), slices.Repeat(good[:1], 1000)}
	for i := range good {
		for _, bad := range []impl.Rule{{}, ruleOf("a>a"), ruleOf("(a)>b"), ruleOf("(aa)>a"), ruleOf(">()"), ruleOf("()>")} {
			systems = append(systems, slices.Concat(good[:i], []impl.Rule{bad}, good[i+1:]), slices.Concat(good[:i], []impl.Rule{bad}))
		}
	}
	return systems
}
