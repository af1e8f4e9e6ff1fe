package tests

import (
	"math"
	"slices"
	"strings"

	"loop.example/g01391/impl"
)

// contour returns the depths behind each bracket of a text, without the last one.
func (m model) contour() []int64 {
	var list []int64
	depth := int64(-1)
	for _, c := range m.text[:len(m.text)-1] {
		if c == '(' {
			depth++
		} else {
			depth--
		}
		list = append(list, depth)
	}
	return list
}

// isContourList reports whether a list begins and ends with 0, steps by 1, and is never below 0.
func isContourList(list []int64) bool {
	if len(list) == 0 || slices.Min(list) < 0 || list[0] != 0 || list[len(list)-1] != 0 {
		return false
	}
	for i, depth := range list[1:] {
		if step := depth - list[i]; step != 1 && step != -1 {
			return false
		}
	}
	return true
}

// contourText returns the text of the tree with a contour.
func contourText(list []int64) string {
	text := "("
	for i, depth := range list[1:] {
		text += oneOf(depth > list[i], "(", ")")
	}
	return text + ")"
}

// isDepthsList reports whether a list begins with 0, has no other 0, and climbs by at most 1.
func isDepthsList(list []int64) bool {
	if len(list) == 0 || list[0] != 0 {
		return false
	}
	for i, depth := range list[1:] {
		if depth < 1 || depth-1 > list[i] {
			return false
		}
	}
	return true
}

// depthsText returns the text of the tree whose nodes have depths.
func depthsText(list []int64) string {
	text := "("
	for i, depth := range list[1:] {
		text += strings.Repeat(")", int(list[i]+1-depth)) + "("
	}
	return text + strings.Repeat(")", int(list[len(list)-1]+1))
}

func oneOf(yes bool, first, second string) string {
	if yes {
		return first
	}
	return second
}

// around returns the neighbours of a node, the children first.
func (m model) around(v int64) []int64 {
	if v == 0 {
		return m.children(v)
	}
	return append(m.children(v), m.up[v])
}

// distances returns the distances of all nodes from each node: the number of brackets between both
// opening ones that are left if pairs are taken out.
func (m model) distances() [][]int64 {
	all := make([][]int64, m.count())
	for v := range all {
		for w := range m.begin {
			between := m.text[m.begin[min(v, w)]+1 : m.begin[max(v, w)]+1]
			for strings.Contains(between, "()") {
				between = strings.ReplaceAll(between, "()", "")
			}
			all[v] = append(all[v], int64(len(between)))
		}
	}
	return all
}

// wayBy returns the nodes whose distances from both ends of a way add up to its length, from v on.
func wayBy(distances [][]int64, v, w int64) []int64 {
	way := make([]int64, distances[v][w]+1)
	for x := range distances {
		if distances[v][x]+distances[x][w] == distances[v][w] {
			way[distances[v][x]] = int64(x)
		}
	}
	return way
}

// longestWayBy returns the least of all longest ways.
func longestWayBy(distances [][]int64) []int64 {
	var ways [][]int64
	for v := range distances {
		for w := range distances {
			ways = append(ways, wayBy(distances, int64(v), int64(w)))
		}
	}
	slices.SortFunc(ways, func(x, y []int64) int {
		if len(x) != len(y) {
			return len(y) - len(x)
		}
		return slices.Compare(x, y)
	})
	return ways[0]
}

// branches returns, for each neighbour of a node, the distances of the nodes that are nearer to the
// neighbour than to the node itself.
func (m model) branches(distances [][]int64, v int64) [][]int64 {
	var all [][]int64
	for _, u := range m.around(v) {
		var branch []int64
		for w := range distances {
			if distances[u][w] < distances[v][w] {
				branch = append(branch, distances[v][w])
			}
		}
		all = append(all, branch)
	}
	return all
}

func (m model) weight(distances [][]int64, v int64) int64 {
	weight := 0
	for _, branch := range m.branches(distances, v) {
		weight = max(weight, len(branch))
	}
	return int64(weight)
}

// layer returns when a node is taken away: as soon as all its branches but the deepest one are.
func (m model) layer(distances [][]int64, v int64) int64 {
	layers := []int64{0, 0}
	for _, branch := range m.branches(distances, v) {
		layers = append(layers, slices.Max(branch))
	}
	slices.Sort(layers)
	return layers[len(layers)-2]
}

// placesOfLeast returns the places of the least number of a list.
func placesOfLeast(list []int64) []int64 {
	var places []int64
	for i := range list {
		if list[i] == slices.Min(list) {
			places = append(places, int64(i))
		}
	}
	return places
}

// steps returns, for each step of the walk around a tree, the lower node of the edge that it goes.
func (m model) steps() []int64 {
	steps := make([]int64, len(m.text))
	for v := range m.begin {
		steps[m.begin[v]], steps[m.behind[v]-1] = int64(v), int64(v)
	}
	return steps[1 : len(steps)-1]
}

// turned returns the text of the tree from a corner: the walk begins with a later one of its steps,
// and goes each edge down when it comes first, and up when it comes again.
func (m model) turned(first int) string {
	steps := m.steps()
	text := "("
	gone := map[int64]bool{}
	for _, edge := range slices.Concat(steps[first:], steps[:first]) {
		text += oneOf(gone[edge], ")", "(")
		gone[edge] = true
	}
	return text + ")"
}

// fromCorner returns the text of the tree from the corner of a node with the number of one of its
// neighbours, or with 0.
func (m model) fromCorner(v int64, k int) string {
	if m.count() == 1 {
		return m.text
	}
	to := m.around(v)[k]
	if v > 0 && to == m.up[v] {
		return m.turned(m.behind[v] - 2)
	}
	return m.turned(m.begin[to] - 1)
}

// shapes returns the texts of the trees from all corners, in the order of trees.
func (m model) shapes() []string {
	list := []string{m.text}
	for first := range m.steps() {
		list = append(list, m.turned(first))
	}
	slices.SortFunc(list, func(x, y string) int {
		return slices.Compare(parsed(x).Degrees, parsed(y).Degrees)
	})
	return slices.Compact(list)
}

// cornersOf returns all corners of a tree: a node and a number each.
func (m model) cornersOf() [][2]int64 {
	var list [][2]int64
	for v := range m.count() {
		for k := range max(len(m.around(v)), 1) {
			list = append(list, [2]int64{v, int64(k)})
		}
	}
	return list
}

// listsOf returns all lists of at most so many numbers from -1 to highest.
func listsOf(length int, highest int64) [][]int64 {
	lists := [][]int64{nil}
	for i := 0; i < len(lists); i++ {
		for x := int64(-1); x <= highest && len(lists[i]) < length; x++ {
			lists = append(lists, append(slices.Clone(lists[i]), x))
		}
	}
	return lists
}

// changedLists returns lists that come from one if a number is changed, taken out or put in.
func changedLists(list []int64) [][]int64 {
	var changed [][]int64
	for i := range len(list) + 1 {
		for _, x := range []int64{-1, 0, 1, 2, 3, 22, 23, 24, 1 << 32, math.MaxInt64, math.MinInt64} {
			changed = append(changed, slices.Concat(list[:i], []int64{x}, list[i:]))
			if i < len(list) {
				changed = append(changed, slices.Concat(list[:i], []int64{x}, list[i+1:]))
			}
		}
		if i < len(list) {
			changed = append(changed, slices.Concat(list[:i], list[i+1:]))
		}
	}
	return changed
}

// largeTexts returns the texts of trees of MaxNodes nodes.
func largeTexts() []string {
	list := []string{pathText(impl.MaxNodes), starText(impl.MaxNodes), "(" + pathText(12) + pathText(11) + ")"}
	for seed := range uint64(5) {
		list = append(list, someText(impl.MaxNodes, seed))
	}
	return list
}
