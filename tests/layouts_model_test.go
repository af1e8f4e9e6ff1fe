package tests

import (
	"math"
	"slices"
	"strings"

	"loop.example/g01391/impl"
)

// halfDown returns the greatest whole number that is at most half of another one.
func halfDown(x int64) int64 { return int64(math.Floor(float64(x) / 2)) }

// even returns the columns of the even drawing: that of a leaf by the leaves in the text ahead of it.
func (m model) even() []int64 {
	columns := make([]int64, m.count())
	for _, v := range m.closed {
		if children := m.children(v); len(children) > 0 {
			columns[v] = halfDown(columns[children[0]] + columns[children[len(children)-1]])
		} else {
			columns[v] = int64(2 * strings.Count(m.text[:m.begin[v]], "()"))
		}
	}
	return columns
}

// tidy returns the columns of the tidy drawing.
func (m model) tidy() []int64 {
	drawn := m.drawn(0)
	columns := m.each(func(v int64) int64 { return drawn[v] })
	least := slices.Min(columns)
	for i := range columns {
		columns[i] -= least
	}
	return columns
}

// drawn returns the columns of the nodes of a subtree that is drawn alone.
func (m model) drawn(v int64) map[int64]int64 {
	columns := map[int64]int64{}
	children := m.children(v)
	for _, child := range children {
		next := m.drawn(child)
		move := m.leastMove(columns, next)
		for w, column := range next {
			columns[w] = column + move
		}
	}
	columns[v] = 0
	if len(children) > 0 {
		columns[v] = halfDown(columns[children[0]] + columns[children[len(children)-1]])
	}
	return columns
}

// leastMove returns the least number by which the next nodes have to be moved, so that each one stands at least
// 2 columns to the right of all that are drawn in the same depth. The first ones are not moved.
func (m model) leastMove(drawn, next map[int64]int64) int64 {
	var moves []int64
	for v, column := range drawn {
		for w, nextColumn := range next {
			if m.depth(v) == m.depth(w) {
				moves = append(moves, column+2-nextColumn)
			}
		}
	}
	if len(moves) == 0 {
		return 0
	}
	return slices.Max(moves)
}

// interval returns a node and the last one that opens ahead of where it closes.
func (m model) interval(v int64) [2]int64 {
	return [2]int64{v, int64(strings.Count(m.text[:m.behind[v]], "(") - 1)}
}

// ancestor returns the last node up to v whose depth is less by k, or -1. (A node that closes ahead of v cannot be
// the last one, as the ancestor of v of the same depth comes behind it.)
func (m model) ancestor(v, k int64) int64 {
	for w := v; w >= 0; w-- {
		if m.depth(w) == m.depth(v)-k {
			return w
		}
	}
	return -1
}

func (m model) beside(v int64) int64 {
	for w := v + 1; w < m.count(); w++ {
		if m.depth(w) == m.depth(v) {
			return w
		}
	}
	return -1
}

func (m model) heavy(v int64) int64 {
	children := m.children(v)
	if len(children) == 0 {
		return -1
	}
	return slices.MinFunc(children, func(x, y int64) int {
		if len(m.part(x)) != len(m.part(y)) {
			return len(m.part(y)) - len(m.part(x))
		}
		return int(x - y)
	})
}

// heavyPaths returns the paths from all nodes that are on no path before.
func (m model) heavyPaths() [][]int64 {
	met := map[int64]bool{-1: true}
	var paths [][]int64
	for v := range m.count() {
		if met[v] {
			continue
		}
		var path []int64
		for w := v; w >= 0; w = m.heavy(w) {
			met[w] = true
			path = append(path, w)
		}
		paths = append(paths, path)
	}
	return paths
}

func (m model) light(v int64) int64 {
	steps := int64(0)
	for ; v > 0; v = m.up[v] {
		if m.heavy(m.up[v]) != v {
			steps++
		}
	}
	return steps
}

// picture returns the rows of the tidy drawing, byte by byte.
func (m model) picture() string {
	columns, depths := m.tidy(), m.each(m.depth)
	var rows []string
	for depth := range slices.Max(depths) + 1 {
		row := ""
		for column := range slices.Max(columns) + 1 {
			isNode := false
			for v := range columns {
				isNode = isNode || columns[v] == column && depths[v] == depth
			}
			row += oneOf(isNode, "o", ".")
		}
		rows = append(rows, row)
	}
	return strings.Join(rows, "/")
}

// drawnTexts returns the texts of all trees of at most 8 nodes, of some with many nodes, and of all that have
// three of some pieces below the root, so that each piece stands beside each other one.
func drawnTexts() []string {
	list := slices.Concat(treesUpTo(8), manyTexts(), distantTexts(), wideTexts(), fullTexts(), farTexts())
	pieces := []string{
		"()", "(())", pathText(4), starText(3), starText(4), starText(5), starText(8), "((())(()()))", "(()(()()()()))", "((()()()())())",
		"((((()))))", "(((()()()())))", "(((())(()()))()())", combText(7, true), combText(7, false),
	}
	for _, first := range pieces {
		for _, second := range pieces {
			for _, third := range pieces {
				if text := "(" + first + second + third + ")"; len(text) <= 2*impl.MaxNodes {
					list = append(list, text)
				}
			}
		}
	}
	return list
}

// wideTexts returns the texts of trees that are less deep, the wider the later ones.
func wideTexts() []string {
	var list []string
	for seed := range uint64(100) {
		draw := draws(seed)
		text := "("
		depth := 1
		for made := 1; made < impl.MaxNodes-int(seed%5); {
			if depth > 1 && draw(100) < int64(40+seed/3) {
				text += ")"
				depth--
				continue
			}
			text += "("
			depth++
			made++
		}
		list = append(list, text+strings.Repeat(")", depth))
	}
	return list
}

// fullText returns the text of the tree in which all nodes down to a depth have two children.
func fullText(depth int) string {
	if depth == 0 {
		return "()"
	}
	return "(" + fullText(depth-1) + fullText(depth-1) + ")"
}

// fullTexts returns the texts of trees with as many light steps as there can be: 3 of them need 15 nodes, and 4
// would need 31.
func fullTexts() []string {
	return []string{
		fullText(2), fullText(3), strings.Repeat("(", 9) + fullText(3) + strings.Repeat(")", 9), "(" + pathText(7) + fullText(3) + ")",
		"(" + fullText(3) + starText(8) + ")", "(" + strings.Repeat("()", 8) + fullText(3) + ")",
	}
}

// farTexts returns the texts of two trees of MaxNodes nodes in which a subtree reaches 25 columns to the right of its
// root, and to the left of it: farther than there are nodes.
func farTexts() []string {
	return []string{
		"(((())((())" + strings.Repeat("()", 16) + "))())",
		"(()((" + strings.Repeat("()", 7) + "(())" + strings.Repeat("()", 9) + ")(())))",
	}
}
