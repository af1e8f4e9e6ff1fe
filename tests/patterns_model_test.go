package tests

import (
	"slices"
	"strings"

	"loop.example/g01391/impl"
)

const letterNames = "abcdefgh"

// A piece is a letter, or a node with its parts. It tells of patterns and of trees, and like the
// other models it shares no code with the package.
type piece struct {
	letter string
	parts  []piece
}

// readPiece returns the piece with which a text begins, what stands behind it, and whether there is
// one.
func readPiece(text string) (piece, string, bool) {
	if text == "" {
		return piece{}, "", false
	}
	first, text := text[:1], text[1:]
	if strings.Contains(letterNames, first) {
		return piece{letter: first}, text, true
	}
	if first != "(" {
		return piece{}, "", false
	}
	x := piece{}
	for !strings.HasPrefix(text, ")") {
		part, behind, ok := readPiece(text)
		if !ok {
			return piece{}, "", false
		}
		x.parts = append(x.parts, part)
		text = behind
	}
	return x, text[1:], true
}

func pieceOf(text string) piece {
	x, _, _ := readPiece(text)
	return x
}

// letters returns the letters of a piece in the order in which they stand.
func (x piece) letters() string {
	all := x.letter
	for _, part := range x.parts {
		all += part.letters()
	}
	return all
}

func (x piece) text() string {
	if x.letter != "" {
		return x.letter
	}
	text := "("
	for _, part := range x.parts {
		text += part.text()
	}
	return text + ")"
}

// isPatternText reports whether a text is a pattern.
func isPatternText(text string) bool {
	if len(text) > 60 {
		return false
	}
	x, behind, ok := readPiece(text)
	letters := strings.Split(x.letters(), "")
	slices.Sort(letters)
	return ok && behind == "" && len(slices.Compact(letters)) == len(x.letters())
}

// open returns the texts by which the letters of a pattern are replaced so that y comes, and whether
// there are such texts.
func (x piece) open(y piece) ([]string, bool) {
	if x.letter != "" {
		return []string{y.text()}, true
	}
	if y.letter != "" || len(x.parts) != len(y.parts) {
		return nil, false
	}
	var all []string
	for i, part := range x.parts {
		texts, ok := part.open(y.parts[i])
		if !ok {
			return nil, false
		}
		all = append(all, texts...)
	}
	return all, true
}

// filled returns the text of a pattern with texts in the place of its letters.
func filled(p string, texts []string) string {
	letters := pieceOf(p).letters()
	var pairs []string
	for i := range letters {
		pairs = append(pairs, letters[i:i+1], texts[i])
	}
	return strings.NewReplacer(pairs...).Replace(p)
}

// common returns what two patterns have together, with the letter x at each open place, and whether
// they go together.
func (x piece) common(y piece) (string, bool) {
	switch {
	case x.letter != "":
		return unnamed(y.text()), true
	case y.letter != "":
		return unnamed(x.text()), true
	case len(x.parts) != len(y.parts):
		return "", false
	}
	text := "("
	for i, part := range x.parts {
		more, ok := part.common(y.parts[i])
		if !ok {
			return "", false
		}
		text += more
	}
	return text + ")", true
}

// unnamed returns a pattern with the letter x at each open place.
func unnamed(p string) string {
	return strings.Map(func(c rune) rune {
		if strings.ContainsRune(letterNames, c) {
			return 'x'
		}
		return c
	}, p)
}

// named returns a pattern whose open places have the letter x with these letters instead.
func named(p string, letters string) string {
	for strings.Contains(p, "x") {
		p = strings.Replace(p, "x", letters[:1], 1)
		letters = letters[1:]
	}
	return p
}

// opened returns a pattern that matches a tree of any size: a seed tells which parts, at most 8, are
// replaced by letters.
func opened(text string, seed uint64) string {
	letters := len(letterNames)
	var open func(x piece) string
	open = func(x piece) string {
		seed = seed*6364136223846793005 + 1442695040888963407
		if letters > 0 && seed>>60 < 3 {
			letters--
			return "x"
		}
		p := "("
		for _, part := range x.parts {
			p += open(part)
		}
		return p + ")"
	}
	return named(open(pieceOf(text)), letterNames)
}

// unnamedForests returns the texts of all lists of pieces with n nodes and open places together.
func unnamedForests(n int) []string {
	if n == 0 {
		return []string{""}
	}
	var list []string
	for k := range n {
		for _, others := range unnamedForests(n - 1 - k) {
			if k == 0 {
				list = append(list, "x"+others)
			}
			for _, first := range unnamedForests(k) {
				list = append(list, "("+first+")"+others)
			}
		}
	}
	return list
}

// patternsUpTo returns all patterns of at most n nodes and letters together, at most 8 of them
// letters, each with its letters in order and in the opposite order.
func patternsUpTo(n int) []string {
	list := []string{"a", "h"}
	for k := range n {
		for _, forest := range unnamedForests(k) {
			p := "(" + forest + ")"
			list = append(list, named(p, "abcdefgh"))
			if strings.Contains(p, "x") {
				list = append(list, named(p, "hgfedcba"))
			}
		}
	}
	return list
}

// treesUpTo returns the texts of all trees of at most n nodes.
func treesUpTo(n int) []string {
	var list []string
	for k := 1; k <= n; k++ {
		list = append(list, treeTexts(k)...)
	}
	return list
}

// longPatterns returns patterns of MaxPattern bytes, or of a byte less.
func longPatterns() []string {
	return []string{
		pathText(30), starText(30), "(ab" + strings.Repeat("()", 28) + ")", "(" + strings.Repeat("()", 28) + "hg)",
		"(abcdefgh" + strings.Repeat("()", 25) + ")", strings.Repeat("(", 26) + "hgfedcba" + strings.Repeat(")", 26),
		"(((abc)d)(e(f(gh)))" + pathText(20) + ")", "(a" + pathText(28) + ")", strings.Repeat("(", 29) + "c" + strings.Repeat(")", 29), someText(30, 2),
	}
}

// badPatterns returns texts that are no patterns: that end too early or go on too long, with a
// letter twice, with letters beyond h, with other bytes, or of more than MaxPattern bytes.
func badPatterns() []string {
	return []string{
		"", "(", ")", "(()", "())", "()()", ")(", "(a", "a)", "ab", "aa", "a()", "()a", "(a)b", "a(b)", "(a))", "((a)", "(ab", "abcdefgh",
		"(aa)", "(a(a))", "((a)a)", "((h)()h)", "(abcdefgha)", "(abcdefghh)", "(abcdefghi)", "i", "(i)", "(ai)", "z", "`", "(`)", "A", "(A)", "(aB)",
		" ", " ()", "() ", "( )", "(a b)", "a ", " a", "a\n", "()\n", "(a,b)", "[a]", "(a]", "{a}", "(0)", "1100", "\x00", "(\x00)", "\xff", "(\xff)", "(ä)", "（a）", "a\x00",
		pathText(31), starText(31), "(a" + strings.Repeat("()", 29) + ")", "(abc" + strings.Repeat("()", 28) + ")", "(abcdefgh" + pathText(26) + ")",
		pathText(30) + "a", "a" + pathText(30), "(" + strings.Repeat("a", 58) + ")", strings.Repeat("a", 60), strings.Repeat("(", 60), strings.Repeat(")", 60),
		pathText(30)[1:], pathText(30)[:59], strings.Repeat("(", 1<<20), pathText(1 << 20), strings.Repeat("a", 1<<20),
	}
}

// leftOf returns what is left of the text of u if all nodes but those of a list are taken out: each
// node is a pair of brackets. It is the text of no tree if no node is above all others.
func leftOf(u string, list []int64) string {
	m := modelOf(u)
	kept := make([]bool, len(u))
	for _, v := range list {
		kept[m.begin[v]], kept[m.behind[v]-1] = true, true
	}
	left := ""
	for i := range u {
		if kept[i] {
			left += u[i : i+1]
		}
	}
	return left
}

// listsUpTo returns all ascending lists of the numbers 0 to n - 1, in their order.
func listsUpTo(n int64) [][]int64 {
	lists := [][]int64{nil}
	for v := n - 1; v >= 0; v-- {
		var longer [][]int64
		for _, list := range lists {
			longer = append(longer, append([]int64{v}, list...))
		}
		lists = append(longer, lists...)
	}
	slices.SortFunc(lists, slices.Compare)
	return lists
}

// insideLists returns all lists by which t is inside u, in their order.
func insideLists(t, u string) [][]int64 {
	isNot := func(list []int64) bool { return leftOf(u, list) != t }
	return slices.DeleteFunc(listsUpTo(int64(len(u)/2)), isNot)
}

func parsedAll(texts []string) []impl.Tree {
	var list []impl.Tree
	for _, text := range texts {
		list = append(list, parsed(text))
	}
	return list
}
