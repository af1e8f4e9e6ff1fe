package tests

import (
	"math/big"
	"slices"
	"strings"

	"loop.example/g01391/impl"
)

// isGrowing reports whether a list of all nodes has each one behind all nodes whose brackets are around it.
func (m model) isGrowing(order []int64) bool {
	for i, v := range order {
		isAbove := func(w int64) bool { return m.isBelow(w, v) }
		if slices.ContainsFunc(order[:i], isAbove) {
			return false
		}
	}
	return true
}

// standing returns the nodes that can stand behind the beginning of a growing order, ascending.
func (m model) standing(begun []int64) []int64 {
	var nodes []int64
	for v := range m.count() {
		if !slices.Contains(begun, v) && (v == 0 || slices.Contains(begun, m.up[v])) {
			nodes = append(nodes, v)
		}
	}
	return nodes
}

// growingOrders returns all growing orders, in their order.
func (m model) growingOrders() [][]int64 {
	var orders [][]int64
	var try func(begun []int64)
	try = func(begun []int64) {
		if len(begun) == len(m.up) {
			orders = append(orders, slices.Clone(begun))
		}
		for _, v := range m.standing(begun) {
			try(append(begun, v))
		}
	}
	try(nil)
	return orders
}

// drawnGrowing returns a growing order that a seed tells.
func (m model) drawnGrowing(seed uint64) []int64 {
	draw := draws(seed)
	var order []int64
	for range m.count() {
		nodes := m.standing(order)
		order = append(order, nodes[draw(int64(len(nodes)))])
	}
	return order
}

// shuffles returns the number of orders of the nodes of some subtrees in which each node comes behind the one
// above it: those of each subtree are put at some of the places that are left.
func (m model) shuffles(roots []int64) *big.Int {
	places := int64(0)
	for _, v := range roots {
		places += int64(len(m.part(v)) / 2)
	}
	ways := big.NewInt(1)
	for _, v := range roots {
		size := int64(len(m.part(v)) / 2)
		ways.Mul(ways, choose(places, size))
		ways.Mul(ways, m.shuffles(m.children(v)))
		places -= size
	}
	return ways
}

// rankOfGrowing returns the number of growing orders that come before one, for at most MaxGrown nodes.
func (m model) rankOfGrowing(order []int64) int64 {
	rank := new(big.Int)
	for place, v := range order {
		nodes := m.standing(order[:place])
		for i, smaller := range nodes {
			if smaller < v {
				rank.Add(rank, m.shuffles(slices.Concat(nodes[:i], nodes[i+1:], m.children(smaller))))
			}
		}
	}
	return rank.Int64()
}

// nextGrowing returns the growing order next to one, or nil if it is the last one. It has the longest beginning of
// the given one behind which a greater node can stand, and behind this one the rest as it ascends.
func (m model) nextGrowing(order []int64) []int64 {
	for place := len(order) - 1; place > 0; place-- {
		isGreater := func(v int64) bool { return v > order[place] }
		if nodes := m.standing(order[:place]); slices.ContainsFunc(nodes, isGreater) {
			next := append(slices.Clone(order[:place]), nodes[slices.IndexFunc(nodes, isGreater)])
			isPlaced := func(v int64) bool { return slices.Contains(next, v) }
			return append(next, slices.Sorted(slices.Values(slices.DeleteFunc(slices.Clone(order), isPlaced)))...)
		}
	}
	return nil
}

func (m model) labels(order []int64) []int64 {
	return m.each(func(v int64) int64 { return int64(slices.Index(order, v)) })
}

// free returns the places at which a growing order can be exchanged.
func (m model) free(order []int64) []int64 {
	var places []int64
	for i := range m.count() - 1 {
		if m.isGrowing(exchanged(order, i)) {
			places = append(places, i)
		}
	}
	return places
}

func exchanged(order []int64, i int64) []int64 {
	return slices.Concat(order[:i], []int64{order[i+1], order[i]}, order[i+2:])
}

func breaksOf(order []int64) []int64 {
	var breaks []int64
	for i := 1; i < len(order); i++ {
		if order[i-1] > order[i] {
			breaks = append(breaks, int64(i-1))
		}
	}
	return breaks
}

// grownList returns the list that grows a tree with a growing order as its growth, and false if there is none: each
// node comes behind the children that its parent has, so that children come from left to right.
func (m model) grownList(order []int64) ([]int64, bool) {
	var list []int64
	for place, v := range order[1:] {
		list = append(list, int64(slices.Index(order, m.up[v])))
		for _, w := range order[:place+1] {
			if w > v && m.up[w] == m.up[v] {
				return nil, false
			}
		}
	}
	return list, true
}

// A sprout is a node of a tree that grows.
type sprout struct {
	label int64
	above []*sprout
}

// sproutOf returns the root of the tree that a list grows.
func sproutOf(list []int64) *sprout {
	all := []*sprout{{}}
	for i, label := range list {
		next := &sprout{label: int64(i + 1)}
		all[label].above = append(all[label].above, next)
		all = append(all, next)
	}
	return all[0]
}

func (s *sprout) text() string {
	text := "("
	for _, next := range s.above {
		text += next.text()
	}
	return text + ")"
}

// labels returns the labels of all nodes in preorder.
func (s *sprout) labels() []int64 {
	labels := []int64{s.label}
	for _, next := range s.above {
		labels = append(labels, next.labels()...)
	}
	return labels
}

// growth returns the nodes in the order of their labels.
func (s *sprout) growth() []int64 {
	labels := s.labels()
	var growth []int64
	for label := range int64(len(labels)) {
		growth = append(growth, int64(slices.Index(labels, label)))
	}
	return growth
}

// growingLists returns all lists of n numbers that grow trees.
func growingLists(n int64) [][]int64 {
	lists := [][]int64{nil}
	for i := range n {
		var longer [][]int64
		for _, list := range lists {
			for label := range i + 1 {
				longer = append(longer, append(slices.Clone(list), label))
			}
		}
		lists = longer
	}
	return lists
}

// drawnList returns a list of n numbers that grows a tree, and that a seed tells.
func drawnList(n int64, seed uint64) []int64 {
	draw := draws(seed)
	var list []int64
	for i := range n {
		list = append(list, draw(i+1))
	}
	return list
}

// decreasingText returns the decreasing binary tree of a list, number by number: each one takes all smaller ones
// that end the way down at the right as its left part.
func decreasingText(list []int64) string {
	top := &node{}
	way := []*node{top}
	var numbers []int64
	for _, number := range list {
		next := &node{}
		for len(numbers) > 0 && numbers[len(numbers)-1] < number {
			next.left = way[len(way)-1]
			way, numbers = way[:len(way)-1], numbers[:len(numbers)-1]
		}
		way[len(way)-1].right = next
		way, numbers = append(way, next), append(numbers, number)
	}
	return top.right.text()
}

// greatestLists returns, for each binary tree of n nodes, the greatest one of the lists of the numbers 0 to n - 1,
// each once, whose decreasing binary tree it is.
func greatestLists(n int64) map[string][]int64 {
	greatest := map[string][]int64{}
	for _, list := range permuted(n) {
		if w := decreasingText(list); slices.Compare(list, greatest[w]) > 0 || n == 0 {
			greatest[w] = list
		}
	}
	return greatest
}

// permuted returns all lists of the numbers 0 to n - 1, each once.
func permuted(n int64) [][]int64 {
	lists := [][]int64{nil}
	for x := range n {
		var longer [][]int64
		for _, list := range lists {
			for i := range len(list) + 1 {
				longer = append(longer, slices.Concat(list[:i], []int64{x}, list[i:]))
			}
		}
		lists = longer
	}
	return lists
}

// greatestByNumbers returns the greatest list of a binary tree: numbers are given out from the greatest one down,
// to a node ahead of those below it, and to those at its left ahead of those at its right.
func greatestByNumbers(w string) []int64 {
	root := nodeOf(w)
	numbers := map[*node]int64{}
	for i, x := range root.numbered() {
		numbers[x] = root.size() - 1 - int64(i)
	}
	var list []int64
	for _, x := range root.inner() {
		list = append(list, numbers[x])
	}
	return list
}

// aheadOfParent returns the lists of all nodes, each once, that come from a growing order if one node is put right
// ahead of its parent.
func (m model) aheadOfParent(order []int64) [][]int64 {
	var lists [][]int64
	for _, v := range order[1:] {
		others := slices.DeleteFunc(slices.Clone(order), func(w int64) bool { return w == v })
		lists = append(lists, slices.Insert(others, slices.Index(others, m.up[v]), v))
	}
	return lists
}

// badOrders returns lists that are not lists of all nodes, each once, of a tree of n nodes: those that come from
// its nodes if one is left out, put in or changed, and some that are far too long.
func badOrders(n int64) [][]int64 {
	nodes := countedTo(0, n-1)
	lists := [][]int64{make([]int64, n+1), slices.Repeat([]int64{-1}, int(n)), slices.Repeat([]int64{n}, int(n)), countedTo(1, n), countedTo(0, 499), countedTo(0, n)}
	for i := range nodes {
		lists = append(lists, slices.Concat(nodes[:i], nodes[i+1:]), nodes[:i])
		for _, x := range []int64{-1, 0, int64(i) + 1, int64(i) - 1, n - 1, n, n + 1, impl.MaxNodes, 1 << 32, 1<<32 + int64(i), -1 << 63, 1<<63 - 1} {
			lists = append(lists, slices.Concat(nodes[:i], []int64{x}, nodes[i:]), slices.Concat([]int64{x}, nodes[:i], nodes[i+1:]))
			if x != int64(i) {
				lists = append(lists, slices.Concat(nodes[:i], []int64{x}, nodes[i+1:]))
			}
		}
	}
	isOrder := func(list []int64) bool { return slices.Equal(slices.Sorted(slices.Values(list)), nodes) }
	return slices.DeleteFunc(lists, isOrder)
}

// narrowTexts returns the texts of trees of 17 to MaxNodes nodes that have few growing orders.
func narrowTexts() []string {
	list := []string{pathText(impl.MaxGrown), pathText(impl.MaxGrown + 1), pathText(impl.MaxNodes)}
	for _, n := range []int{17, impl.MaxGrown, impl.MaxGrown + 1, impl.MaxNodes} {
		list = append(list,
			"("+pathText(n-2)+"())", "(()"+pathText(n-2)+")", "("+pathText(n-3)+pathText(2)+")",
			strings.Repeat("(", n-4)+starText(4)+strings.Repeat(")", n-4), strings.Repeat("(", n-7)+fullText(2)+strings.Repeat(")", n-7),
			strings.Repeat("(", n-6)+"((())(()()))"+strings.Repeat(")", n-6),
		)
	}
	return list
}

// grownTexts returns the texts of trees of 19 to MaxNodes nodes of many kinds, most of them with very many growing
// orders.
func grownTexts() []string {
	var list []string
	for _, n := range []int{19, impl.MaxGrown, impl.MaxGrown + 1, impl.MaxNodes} {
		list = append(list, starText(n), "("+starText(n-9)+pathText(8)+")", "("+strings.Repeat("(())", n/2-1)+strings.Repeat("()", 1+n%2)+")", combText(n-1+n%2, n%2 == 0), someText(n, 1), someText(n, 2), someText(n, 3))
	}
	return list
}
