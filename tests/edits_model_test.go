package tests

import (
	"cmp"
	"slices"
	"strings"

	"loop.example/g01391/impl"
)

// withoutPair returns the text with the pair of brackets of a node taken out.
func (m model) withoutPair(v int64) string {
	last := m.behind[v] - 1
	return m.text[:m.begin[v]] + m.text[m.begin[v]+1:last] + m.text[last+1:]
}

// withPair returns the text with a pair of brackets round so many children of a node, from a place on.
func (m model) withPair(v, place, children int64) string {
	// Brackets can stand ahead of all children, and behind each of them.
	cuts := []int{m.begin[v] + 1}
	for _, child := range m.children(v) {
		cuts = append(cuts, m.behind[child])
	}
	from, to := cuts[place], cuts[place+children]
	return m.text[:from] + "(" + m.text[from:to] + ")" + m.text[to:]
}

// inOrderOfTrees returns the different ones of some texts, in the order of the trees.
func inOrderOfTrees(texts []string) []string {
	sorted := slices.SortedFunc(slices.Values(texts), func(x, y string) int {
		return cmp.Or(cmp.Compare(len(x), len(y)), slices.Compare(parsed(x).Degrees, parsed(y).Degrees))
	})
	return slices.Compact(sorted)
}

// withOneLess returns the texts that come if one pair of brackets, other than that round all, is taken
// out, in the order of trees.
func withOneLess(text string) []string {
	m := modelOf(text)
	var texts []string
	for v := int64(1); v < m.count(); v++ {
		texts = append(texts, m.withoutPair(v))
	}
	return inOrderOfTrees(texts)
}

// withOneMore returns the texts that come if a pair of brackets is put in, in the order of trees.
func withOneMore(text string) []string {
	m := modelOf(text)
	var texts []string
	for v := range m.count() {
		degree := int64(len(m.children(v)))
		for place := range degree + 1 {
			for children := range degree - place + 1 {
				texts = append(texts, m.withPair(v, place, children))
			}
		}
	}
	return inOrderOfTrees(texts)
}

// An editGraph has, for the texts of all trees of at most so many nodes, those that come by one edit.
type editGraph map[string][]string

// editGraphOf returns the graph of the trees of at most n nodes, in which only some nodes can be taken
// out, or put in.
func editGraphOf(n int, isFree func(m model, v int64) bool) editGraph {
	g := editGraph{}
	for _, text := range treesUpTo(n) {
		m := modelOf(text)
		for v := int64(1); v < m.count(); v++ {
			if isFree(m, v) {
				other := m.withoutPair(v)
				g[text] = append(g[text], other)
				g[other] = append(g[other], text)
			}
		}
	}
	return g
}

func isAnyNode(model, int64) bool { return true }

func isLeafNode(m model, v int64) bool { return m.part(v) == "()" }

// stepsFrom returns the least numbers of edits that lead from a tree to all others.
func (g editGraph) stepsFrom(text string) map[string]int64 {
	steps := map[string]int64{text: 0}
	for met := []string{text}; len(met) > 0; met = met[1:] {
		for _, other := range g[met[0]] {
			if _, ok := steps[other]; !ok {
				steps[other] = steps[met[0]] + 1
				met = append(met, other)
			}
		}
	}
	return steps
}

// way returns the way to the tree from which steps are told: the least tree that is nearer follows each
// one.
func (g editGraph) way(text string, steps map[string]int64) []string {
	way := []string{text}
	for steps[text] > 0 {
		isNoNearer := func(other string) bool { return steps[other] >= steps[text] }
		text = inOrderOfTrees(slices.DeleteFunc(slices.Clone(g[text]), isNoNearer))[0]
		way = append(way, text)
	}
	return way
}

// leftByTakingOut returns the texts that come if pairs of brackets are taken out, any number of them.
func leftByTakingOut(text string) map[string]bool {
	left := map[string]bool{text: true}
	for met := []string{text}; len(met) > 0; met = met[1:] {
		for _, other := range withOneLess(met[0]) {
			if !left[other] {
				left[other] = true
				met = append(met, other)
			}
		}
	}
	return left
}

// A textPair has the texts of trees side by side, those of two trees.
type textPair struct {
	first, second string
}

// A textComparison keeps greatest numbers of pairs of brackets in common. Unlike the package it looks
// at the first trees of both.
type textComparison struct {
	// withAll tells that a pair of brackets is taken out with all that is in it.
	withAll bool
	known   map[textPair]int64
}

// commonByTexts returns the greatest number of nodes in common for texts, by all edits or by those of
// leaves.
func commonByTexts(first, second string, byLeaves bool) int64 {
	return textComparison{byLeaves, map[textPair]int64{}}.most(textPair{first, second})
}

// openedText returns what is in the first pair of brackets of a text, and what is behind it.
func openedText(text string) (string, string) {
	_, behind, _ := readPiece(text)
	return text[1 : len(text)-len(behind)-1], behind
}

func (c textComparison) most(p textPair) int64 {
	if p.first == "" || p.second == "" {
		return 0
	}
	if most, ok := c.known[p]; ok {
		return most
	}
	in, behind := openedText(p.first)
	otherIn, otherBehind := openedText(p.second)
	most := 1 + c.most(textPair{in, otherIn}) + c.most(textPair{behind, otherBehind})
	if c.withAll {
		in, otherIn = "", ""
	}
	most = max(most, c.most(textPair{in + behind, p.second}), c.most(textPair{p.first, otherIn + otherBehind}))
	c.known[p] = most
	return most
}

// agreeByBrackets reports whether the nodes of two pairs are in each other's brackets, and ahead of each
// other, in the same way.
func agreeByBrackets(m, o model, p, q []int64) bool {
	isIn := func(m model, v, w int64) bool { return m.begin[w] < m.begin[v] && m.behind[v] < m.behind[w] }
	isAhead := func(m model, v, w int64) bool { return m.begin[v] < m.begin[w] }
	return p[0] != q[0] && p[1] != q[1] &&
		isIn(m, p[0], q[0]) == isIn(o, p[1], q[1]) && isIn(m, q[0], p[0]) == isIn(o, q[1], p[1]) &&
		isAhead(m, p[0], q[0]) == isAhead(o, p[1], q[1]) && isAhead(m, q[0], p[0]) == isAhead(o, q[1], p[1])
}

// doAgreeByBrackets reports whether each two pairs at different places of a list agree.
func doAgreeByBrackets(m, o model, pairs [][]int64) bool {
	for i := range pairs {
		for j := range pairs {
			if i != j && !agreeByBrackets(m, o, pairs[i], pairs[j]) {
				return false
			}
		}
	}
	return true
}

// agreeingSets returns all sets of pairs that agree, each in the order of the first nodes.
func agreeingSets(m, o model) [][][]int64 {
	sets := [][][]int64{nil}
	for v := range m.count() {
		for _, set := range sets {
			for w := range o.count() {
				longer := append(slices.Clone(set), []int64{v, w})
				if doAgreeByBrackets(m, o, longer) {
					sets = append(sets, longer)
				}
			}
		}
	}
	return sets
}

// splitAtLast returns the last one of those nodes of a list that are in no other's brackets, the nodes in
// its brackets, and the other ones.
func (m model) splitAtLast(nodes []int64) (last int64, below, others []int64) {
	for _, v := range nodes {
		if !slices.ContainsFunc(nodes, func(w int64) bool { return w != v && m.isBelow(v, w) }) {
			last = max(last, v)
		}
	}
	for _, v := range nodes {
		switch {
		case v == last:
		case m.isBelow(v, last):
			below = append(below, v)
		default:
			others = append(others, v)
		}
	}
	return last, below, others
}

// mostWithin returns the sets with the most pairs of those whose nodes are all in two lists.
func mostWithin(sets [][][]int64, f, g []int64) [][][]int64 {
	var most [][][]int64
	for _, set := range sets {
		isOutside := func(pair []int64) bool { return !slices.Contains(f, pair[0]) || !slices.Contains(g, pair[1]) }
		if slices.ContainsFunc(set, isOutside) {
			continue
		}
		if len(most) > 0 && len(set) > len(most[0]) {
			most = nil
		}
		if len(most) == 0 || len(set) == len(most[0]) {
			most = append(most, set)
		}
	}
	return most
}

// foundFromBack returns the set of pairs that is found from the back for two lists of nodes, word by word
// as the document tells, where all sets that agree are told.
func foundFromBack(m, o model, sets [][][]int64, f, g []int64) [][]int64 {
	if len(f) == 0 || len(g) == 0 {
		return nil
	}
	most := mostWithin(sets, f, g)
	v, below, others := m.splitAtLast(f)
	w, otherBelow, otherOthers := o.splitAtLast(g)
	hasBoth := func(set [][]int64) bool {
		return slices.ContainsFunc(set, func(pair []int64) bool { return pair[0] == v && pair[1] == w })
	}
	isWithoutFirst := func(set [][]int64) bool {
		return !slices.ContainsFunc(set, func(pair []int64) bool { return pair[0] == v })
	}
	without := func(nodes []int64, x int64) []int64 {
		return slices.DeleteFunc(slices.Clone(nodes), func(y int64) bool { return y == x })
	}
	switch {
	case slices.ContainsFunc(most, hasBoth):
		return slices.Concat(foundFromBack(m, o, sets, others, otherOthers), [][]int64{{v, w}}, foundFromBack(m, o, sets, below, otherBelow))
	case slices.ContainsFunc(most, isWithoutFirst):
		return foundFromBack(m, o, sets, without(f, v), g)
	default:
		return foundFromBack(m, o, sets, f, without(g, w))
	}
}

func commonPairsBySets(text, other string) [][]int64 {
	m, o := modelOf(text), modelOf(other)
	itself := func(v int64) int64 { return v }
	return foundFromBack(m, o, agreeingSets(m, o), m.each(itself), o.each(itself))
}

// A textForest has the texts of trees side by side, with the numbers of their nodes.
type textForest struct {
	text  string
	nodes []int64
}

// split returns the number of the last root, the trees below it, those ahead of it, and all of them
// without it.
func (f textForest) split() (root int64, below, ahead, without textForest) {
	begin := 0
	for {
		_, behind := openedText(f.text[begin:])
		if behind == "" {
			break
		}
		begin = len(f.text) - len(behind)
	}
	place := strings.Count(f.text[:begin], "(")
	below = textForest{f.text[begin+1 : len(f.text)-1], f.nodes[place+1:]}
	ahead = textForest{f.text[:begin], f.nodes[:place]}
	return f.nodes[place], below, ahead, textForest{ahead.text + below.text, slices.Concat(ahead.nodes, below.nodes)}
}

// pairsFromBack returns the set of pairs that is found from the back, where the numbers of pairs are told
// from the front.
func (c textComparison) pairsFromBack(f, g textForest) [][]int64 {
	if f.text == "" || g.text == "" {
		return nil
	}
	v, below, ahead, without := f.split()
	w, otherBelow, otherAhead, otherWithout := g.split()
	most := c.most(textPair{f.text, g.text})
	if most == 1+c.most(textPair{below.text, otherBelow.text})+c.most(textPair{ahead.text, otherAhead.text}) {
		return slices.Concat(c.pairsFromBack(ahead, otherAhead), [][]int64{{v, w}}, c.pairsFromBack(below, otherBelow))
	}
	if most == c.most(textPair{without.text, g.text}) {
		return c.pairsFromBack(without, g)
	}
	return c.pairsFromBack(f, otherWithout)
}

func commonPairsByTexts(text, other string) [][]int64 {
	c := textComparison{false, map[textPair]int64{}}
	return c.pairsFromBack(textForest{text, countedTo(0, int64(len(text)/2-1))}, textForest{other, countedTo(0, int64(len(other)/2-1))})
}

// combText returns the text of a tree of n nodes, an odd number, in which each node but the last one has a
// leaf beside its other child, ahead of it or behind it.
func combText(n int, isAhead bool) string {
	depth := n / 2
	return strings.Repeat("("+oneOf(isAhead, "()", ""), depth) + "()" + strings.Repeat(oneOf(isAhead, "", "()")+")", depth)
}

// distantTexts returns texts of trees of MaxNodes nodes, and of somewhat fewer, of many kinds.
func distantTexts() []string {
	return append(largeTexts(), pathText(23), starText(23), combText(23, true), combText(23, false), "("+starText(12)+pathText(11)+")",
		"("+starText(11)+starText(12)+")", "("+strings.Repeat("(())", 11)+")", "("+strings.Repeat("(()())", 7)+"())", pathText(12)[:12]+starText(12)+pathText(12)[12:],
		someText(17, 6), someText(20, 7), someText(12, 8), "()", "(())", "(()(()))")
}

// pathsAndStars has trees of at most MaxWayNodes nodes of many kinds.
func pathsAndStars() []string {
	return []string{
		"()", pathText(impl.MaxWayNodes), starText(impl.MaxWayNodes), "(" + pathText(3) + pathText(3) + ")", "(((()())()()))", "(()((()())()))", combText(7, true),
		combText(7, false), "(()(()(()))())", "((())(())(()))", pathText(6), starText(6), "((()())(()))", "(()()(()()))",
	}
}
