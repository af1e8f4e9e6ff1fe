package tests

import (
	"fmt"
	"math"
	"slices"
	"testing"

	"loop.example/g01391/impl"
)

// countedTo returns the numbers from first to last, up or down.
func countedTo(first, last int64) []int64 {
	list := []int64{first}
	for x := first; x < last; x++ {
		list = append(list, x+1)
	}
	for x := first; x > last; x-- {
		list = append(list, x-1)
	}
	return list
}

func TestContourOf(t *testing.T) {
	for _, text := range manyTexts() {
		m := modelOf(text)
		list, code := impl.ContourOf(m.tree())
		wantList(t, "ContourOf "+text, list, code, m.contour()...)
	}
	last := int64(impl.MaxNodes - 1)
	for _, c := range []struct {
		text string
		want []int64
	}{
		{"()", []int64{0}}, {"(())", []int64{0, 1, 0}}, {"((()))", []int64{0, 1, 2, 1, 0}}, {"(()())", []int64{0, 1, 0, 1, 0}},
		{"(()(()))", []int64{0, 1, 0, 1, 2, 1, 0}},
		{pathText(impl.MaxNodes), append(countedTo(0, last), countedTo(last-1, 0)...)},
		{starText(impl.MaxNodes), append(slices.Repeat([]int64{0, 1}, impl.MaxNodes-1), 0)},
	} {
		list, code := impl.ContourOf(parsed(c.text))
		wantList(t, "ContourOf "+c.text, list, code, c.want...)
	}
}

// checkContour holds TreeOfContour of a list against the model.
func checkContour(t *testing.T, list []int64) {
	t.Helper()
	x, code := impl.TreeOfContour(list)
	what := fmt.Sprintf("TreeOfContour of %d numbers, %.200v", len(list), fmt.Sprint(list))
	switch {
	case len(list) > 2*impl.MaxNodes:
		wantCode(t, what, x, code, impl.ErrRange)
	case isContourList(list):
		wantTree(t, what, x, code, contourText(list))
	default:
		wantCode(t, what, x, code, impl.ErrNotFound)
	}
}

func TestTreeOfContour(t *testing.T) {
	for _, text := range manyTexts() {
		x, code := impl.TreeOfContour(modelOf(text).contour())
		wantTree(t, "TreeOfContour of "+text, x, code, text)
	}
	x, code := impl.TreeOfContour([]int64{0})
	wantTree(t, "TreeOfContour of one number", x, code, "()")
	x, code = impl.TreeOfContour([]int64{0, 1, 0})
	wantTree(t, "TreeOfContour of three numbers", x, code, "(())")
	x, code = impl.TreeOfContour(append(countedTo(0, 23), countedTo(22, 0)...))
	wantTree(t, "TreeOfContour of a path", x, code, pathText(impl.MaxNodes))
	x, code = impl.TreeOfContour(append(slices.Repeat([]int64{0, 1}, 23), 0))
	wantTree(t, "TreeOfContour of a star", x, code, starText(impl.MaxNodes))
}

func TestTreeOfContourRefuses(t *testing.T) {
	for _, list := range [][]int64{
		nil, {}, {1}, {-1}, {2}, {math.MaxInt64}, {math.MinInt64}, {0, 0}, {0, 1}, {1, 0}, {0, -1}, {0, 1, 2}, {1, 2, 1}, {1, 0, 1}, {2, 1, 0}, {0, 1, 2, 1},
		{0, -1, 0}, {0, 1, 0, -1, 0}, {0, -1, 0, 1, 0}, {0, -1, -2, -1, 0}, {0, 2, 0}, {0, 1, 3, 1, 0}, {0, 1, 2, 0}, {0, 1, 1, 0}, {0, 0, 0}, {0, 1, 0, 0}, {0, 0, 1, 0},
		{0, math.MaxInt64, 0}, {0, math.MinInt64, 0}, {0, math.MaxInt64, math.MinInt64, 0}, {0, 1, math.MinInt64, math.MaxInt64, 1, 0}, {math.MaxInt64, math.MinInt64},
		countedTo(0, 47), append(countedTo(0, 23), countedTo(23, 0)...), append(modelOf(starText(impl.MaxNodes)).contour(), 1), make([]int64, 48),
	} {
		x, code := impl.TreeOfContour(list)
		wantCode(t, fmt.Sprint("TreeOfContour ", list), x, code, impl.ErrNotFound)
	}
	for _, list := range [][]int64{
		append(countedTo(0, 24), countedTo(23, 0)...), modelOf(starText(impl.MaxNodes + 1)).contour(), modelOf(starText(400)).contour(), countedTo(0, 48), countedTo(1, 49),
		make([]int64, 49), make([]int64, 1<<20), slices.Repeat([]int64{-1}, 49), slices.Repeat([]int64{math.MinInt64, math.MaxInt64}, 100),
	} {
		x, code := impl.TreeOfContour(list)
		wantCode(t, fmt.Sprintf("TreeOfContour of %d numbers", len(list)), x, code, impl.ErrRange)
	}
}

func TestShortContours(t *testing.T) {
	found := 0
	for _, list := range listsOf(7, 3) {
		checkContour(t, list)
		if isContourList(list) {
			found++
		}
	}
	if found != 1+1+2+5 {
		t.Errorf("%d contours found", found)
	}
}

func TestChangedContours(t *testing.T) {
	for _, text := range append(largeTexts(), someText(23, 4), "(()(()))") {
		for _, list := range changedLists(modelOf(text).contour()) {
			checkContour(t, list)
		}
	}
}

// checkDepths holds TreeOfDepths of a list against the model.
func checkDepths(t *testing.T, list []int64) {
	t.Helper()
	x, code := impl.TreeOfDepths(list)
	what := fmt.Sprintf("TreeOfDepths of %d numbers, %.200v", len(list), fmt.Sprint(list))
	switch {
	case len(list) > impl.MaxNodes:
		wantCode(t, what, x, code, impl.ErrRange)
	case isDepthsList(list):
		wantTree(t, what, x, code, depthsText(list))
	default:
		wantCode(t, what, x, code, impl.ErrNotFound)
	}
}

func TestTreeOfDepths(t *testing.T) {
	for _, text := range manyTexts() {
		m := modelOf(text)
		x, code := impl.TreeOfDepths(m.each(m.depth))
		wantTree(t, "TreeOfDepths of "+text, x, code, text)
	}
	for text, list := range map[string][]int64{
		"()": {0}, "(())": {0, 1}, "((()())())": {0, 1, 2, 2, 1}, pathText(impl.MaxNodes): countedTo(0, 23), starText(impl.MaxNodes): append([]int64{0}, slices.Repeat([]int64{1}, 23)...),
	} {
		x, code := impl.TreeOfDepths(list)
		wantTree(t, fmt.Sprint("TreeOfDepths ", list), x, code, text)
	}
}

func TestTreeOfDepthsRefuses(t *testing.T) {
	for _, list := range [][]int64{
		nil, {}, {1}, {-1}, {math.MaxInt64}, {math.MinInt64}, {0, 0}, {0, -1}, {0, 2}, {1, 2}, {1, 0}, {-1, 0}, {0, 1, 3}, {0, 1, 2, 4}, {0, 1, 2, 0}, {0, 1, 2, 1, 3},
		{0, 1, -1}, {0, 1, 0, 1}, {0, math.MaxInt64}, {0, math.MinInt64}, {0, 1, math.MaxInt64, math.MinInt64}, {math.MaxInt64, math.MinInt64}, {0, 1, math.MinInt64, math.MinInt64 + 1},
		make([]int64, impl.MaxNodes), countedTo(1, 24), append(countedTo(0, 22), 24), append(countedTo(0, 22), 0), slices.Repeat([]int64{1}, impl.MaxNodes),
	} {
		x, code := impl.TreeOfDepths(list)
		wantCode(t, fmt.Sprint("TreeOfDepths ", list), x, code, impl.ErrNotFound)
	}
	for _, list := range [][]int64{
		countedTo(0, 24), append([]int64{0}, slices.Repeat([]int64{1}, 24)...), make([]int64, 25), make([]int64, 1<<20), countedTo(1, 25),
		slices.Repeat([]int64{-1}, 25), slices.Repeat([]int64{math.MaxInt64, math.MinInt64}, 13),
	} {
		x, code := impl.TreeOfDepths(list)
		wantCode(t, fmt.Sprintf("TreeOfDepths of %d numbers", len(list)), x, code, impl.ErrRange)
	}
}

func TestShortDepths(t *testing.T) {
	found := 0
	for _, list := range listsOf(6, 5) {
		checkDepths(t, list)
		if isDepthsList(list) {
			found++
		}
	}
	if found != 1+1+2+5+14+42 {
		t.Errorf("%d lists of depths found", found)
	}
}

func TestChangedDepths(t *testing.T) {
	for _, text := range append(largeTexts(), someText(23, 4), "(()(()))") {
		m := modelOf(text)
		for _, list := range changedLists(m.each(m.depth)) {
			checkDepths(t, list)
		}
	}
}

func TestWidthsOf(t *testing.T) {
	for _, text := range manyTexts() {
		m := modelOf(text)
		widths := make([]int64, slices.Max(m.each(m.depth))+1)
		for _, depth := range m.each(m.depth) {
			widths[depth]++
		}
		got, code := impl.WidthsOf(m.tree())
		wantList(t, "WidthsOf "+text, got, code, widths...)
	}
	for text, want := range map[string][]int64{
		"()": {1}, "(())": {1, 1}, "((()())()(()))": {1, 3, 3}, pathText(impl.MaxNodes): slices.Repeat([]int64{1}, 24), starText(impl.MaxNodes): {1, 23},
	} {
		got, code := impl.WidthsOf(parsed(text))
		wantList(t, "WidthsOf "+text, got, code, want...)
	}
}

func TestWays(t *testing.T) {
	for _, text := range manyTexts() {
		m := modelOf(text)
		distances := m.distances()
		for v := range m.count() {
			for w := range m.count() {
				what := fmt.Sprint(text, " ", v, " ", w)
				way, code := impl.WayBetween(m.tree(), v, w)
				wantList(t, "WayBetween "+what, way, code, wayBy(distances, v, w)...)
				steps, code := impl.StepsBetween(m.tree(), v, w)
				wantNumber(t, "StepsBetween "+what, steps, code, distances[v][w])
			}
		}
	}
}

func TestListedWays(t *testing.T) {
	for _, c := range []struct {
		text string
		v, w int64
		want []int64
	}{
		{"()", 0, 0, []int64{0}}, {"(())", 0, 1, []int64{0, 1}}, {"(())", 1, 0, []int64{1, 0}}, {"(())", 1, 1, []int64{1}},
		{"((()())()(()))", 3, 6, []int64{3, 1, 0, 5, 6}}, {"((()())()(()))", 6, 3, []int64{6, 5, 0, 1, 3}}, {"((()())()(()))", 3, 2, []int64{3, 1, 2}},
		{"((()())()(()))", 6, 0, []int64{6, 5, 0}}, {"((()())()(()))", 0, 6, []int64{0, 5, 6}}, {"((()())()(()))", 3, 3, []int64{3}},
		{pathText(impl.MaxNodes), 0, 23, countedTo(0, 23)}, {pathText(impl.MaxNodes), 23, 0, countedTo(23, 0)}, {starText(impl.MaxNodes), 23, 1, []int64{23, 0, 1}},
		{"(" + pathText(12) + pathText(11) + ")", 12, 23, slices.Concat(countedTo(12, 0), countedTo(13, 23))},
	} {
		way, code := impl.WayBetween(parsed(c.text), c.v, c.w)
		wantList(t, fmt.Sprint("WayBetween ", c.text, " ", c.v, " ", c.w), way, code, c.want...)
		steps, code := impl.StepsBetween(parsed(c.text), c.v, c.w)
		wantNumber(t, fmt.Sprint("StepsBetween ", c.text, " ", c.v, " ", c.w), steps, code, int64(len(c.want)-1))
	}
}

// TestWaysFromNoNode checks ErrRange for each of both nodes, and for both.
func TestWaysFromNoNode(t *testing.T) {
	for _, x := range []impl.Tree{parsed("()"), parsed("(()(()))"), parsed(pathText(impl.MaxNodes))} {
		for _, bad := range badNodes(int64(len(x.Degrees))) {
			for _, c := range [][2]int64{{bad, 0}, {0, bad}, {bad, bad}, {bad, -1}, {-1, bad}} {
				way, code := impl.WayBetween(x, c[0], c[1])
				wantCode(t, fmt.Sprint("WayBetween ", x, c), way, code, impl.ErrRange)
				steps, code := impl.StepsBetween(x, c[0], c[1])
				wantCode(t, fmt.Sprint("StepsBetween ", x, c), steps, code, impl.ErrRange)
			}
		}
	}
}

// TestNumbersOfNodes holds what is told of all nodes, and what follows from it, against the model.
func TestNumbersOfNodes(t *testing.T) {
	for _, text := range manyTexts() {
		m := modelOf(text)
		x := m.tree()
		distances := m.distances()
		reaches := m.each(func(v int64) int64 { return slices.Max(distances[v]) })
		got, code := impl.ReachesOf(x)
		wantList(t, "ReachesOf "+text, got, code, reaches...)
		got, code = impl.CentresOf(x)
		wantList(t, "CentresOf "+text, got, code, placesOfLeast(reaches)...)
		weights := m.each(func(v int64) int64 { return m.weight(distances, v) })
		got, code = impl.MiddleNodes(x)
		wantList(t, "MiddleNodes "+text, got, code, placesOfLeast(weights)...)
		got, code = impl.LayersOf(x)
		wantList(t, "LayersOf "+text, got, code, m.each(func(v int64) int64 { return m.layer(distances, v) })...)
		got, code = impl.LongestWay(x)
		wantList(t, "LongestWay "+text, got, code, longestWayBy(distances)...)
		twice := int64(0)
		for _, from := range distances {
			for _, distance := range from {
				twice += distance
			}
		}
		sum, code := impl.SumOfDistances(x)
		wantNumber(t, "SumOfDistances "+text, sum, code, twice/2)
	}
}

func TestReachesOf(t *testing.T) {
	path := append(countedTo(23, 12), countedTo(12, 23)...)
	for text, want := range map[string][]int64{
		"()": {0}, "(())": {1, 1}, "((()))": {2, 1, 2}, "(()(()))": {2, 3, 2, 3},
		starText(impl.MaxNodes): append([]int64{1}, slices.Repeat([]int64{2}, 23)...), pathText(impl.MaxNodes): path,
	} {
		got, code := impl.ReachesOf(parsed(text))
		wantList(t, "ReachesOf "+text, got, code, want...)
	}
}

// TestLongestWay has trees with several longest ways, from the same first node too.
func TestLongestWay(t *testing.T) {
	for text, want := range map[string][]int64{
		"()": {0}, "(())": {0, 1}, "((()))": {0, 1, 2}, "(()())": {1, 0, 2}, "((()())())": {2, 1, 0, 4}, "((()())()(()))": {2, 1, 0, 5, 6},
		// Of the longest ways from 3 that over the root comes first, though the other one ends first.
		"(((())(()))())": {3, 2, 1, 0, 6}, "(((()))(())(()))": {3, 2, 1, 0, 4, 5},
		starText(impl.MaxNodes): {1, 0, 2}, pathText(impl.MaxNodes): countedTo(0, 23),
	} {
		got, code := impl.LongestWay(parsed(text))
		wantList(t, "LongestWay "+text, got, code, want...)
	}
}

func TestCentresOf(t *testing.T) {
	for text, want := range map[string][]int64{
		"()": {0}, "(())": {0, 1}, "((()))": {1}, "(()())": {0}, "(((())))": {1, 2}, "((((()))))": {2}, "(()(()))": {0, 2}, "((()())()(()))": {0}, "((((())()))())": {1, 2},
		starText(impl.MaxNodes): {0}, starText(impl.MaxNodes - 1): {0}, pathText(impl.MaxNodes): {11, 12}, pathText(impl.MaxNodes - 1): {11},
		"(" + pathText(11) + starText(12) + ")": {4, 5}, "(()" + pathText(22) + ")": {11, 12}, "(" + pathText(22) + "())": {10, 11},
	} {
		got, code := impl.CentresOf(parsed(text))
		wantList(t, "CentresOf "+text, got, code, want...)
	}
}

func TestMiddleNodes(t *testing.T) {
	for text, want := range map[string][]int64{
		"()": {0}, "(())": {0, 1}, "((()))": {1}, "(()())": {0}, "(((())))": {1, 2}, "((()())()(()))": {0}, "(()(()()))": {2}, "((()(())))": {1}, "((()(()())))": {1, 3}, "(()()(()()))": {0, 3},
		starText(impl.MaxNodes): {0}, pathText(impl.MaxNodes): {11, 12}, pathText(impl.MaxNodes - 1): {11},
		"(" + pathText(11) + starText(12) + ")": {0, 12}, "(" + pathText(10) + starText(13) + ")": {11}, "(" + pathText(12) + starText(11) + ")": {0, 1},
	} {
		got, code := impl.MiddleNodes(parsed(text))
		wantList(t, "MiddleNodes "+text, got, code, want...)
	}
}

func TestSumOfDistances(t *testing.T) {
	for n := int64(1); n <= impl.MaxNodes; n++ {
		sum, code := impl.SumOfDistances(parsed(pathText(int(n))))
		wantNumber(t, fmt.Sprint("SumOfDistances of a path of ", n), sum, code, (n*n*n-n)/6)
		sum, code = impl.SumOfDistances(parsed(starText(int(n))))
		wantNumber(t, fmt.Sprint("SumOfDistances of a star of ", n), sum, code, (n-1)*(n-1))
	}
}

func TestLayersOf(t *testing.T) {
	for text, want := range map[string][]int64{
		"()": {0}, "(())": {0, 0}, "((()))": {0, 1, 0}, "(()())": {1, 0, 0}, "(((())))": {0, 1, 1, 0}, "(()(()))": {1, 0, 1, 0}, "((()())()(()))": {2, 1, 0, 0, 0, 1, 0},
		"(((())()))": {0, 1, 1, 0, 0}, "(((()()))(()(())))": {3, 2, 1, 0, 0, 2, 0, 1, 0},
		starText(impl.MaxNodes): append([]int64{1}, make([]int64, 23)...), pathText(impl.MaxNodes): append(countedTo(0, 11), countedTo(11, 0)...),
		pathText(impl.MaxNodes - 1): append(countedTo(0, 11), countedTo(10, 0)...),
	} {
		got, code := impl.LayersOf(parsed(text))
		wantList(t, "LayersOf "+text, got, code, want...)
	}
}

func TestAroundOf(t *testing.T) {
	for _, text := range manyTexts() {
		m := modelOf(text)
		for v := range m.count() {
			got, code := impl.AroundOf(m.tree(), v)
			wantList(t, fmt.Sprint("AroundOf ", text, " ", v), got, code, m.around(v)...)
		}
	}
	for v, want := range [][]int64{{1, 4, 5}, {2, 3, 0}, {1}, {1}, {0}, {6, 0}, {5}} {
		got, code := impl.AroundOf(parsed("((()())()(()))"), int64(v))
		wantList(t, fmt.Sprint("AroundOf ", v), got, code, want...)
	}
	got, code := impl.AroundOf(parsed("()"), 0)
	wantList(t, "AroundOf of a node alone", got, code)
	got, code = impl.AroundOf(parsed(starText(impl.MaxNodes)), 0)
	wantList(t, "AroundOf of the root of a star", got, code, countedTo(1, 23)...)
}

func TestFromCorner(t *testing.T) {
	for _, text := range manyTexts() {
		m := modelOf(text)
		for _, c := range m.cornersOf() {
			got, code := impl.FromCorner(m.tree(), c[0], c[1])
			wantTree(t, fmt.Sprint("FromCorner ", text, c), got, code, m.fromCorner(c[0], int(c[1])))
		}
	}
}

func TestListedCorners(t *testing.T) {
	for _, c := range []struct {
		text string
		v, k int64
		want string
	}{
		{"()", 0, 0, "()"}, {"(())", 0, 0, "(())"}, {"(())", 1, 0, "(())"}, {"((()))", 1, 0, "(()())"}, {"((()))", 1, 1, "(()())"}, {"(()())", 2, 0, "((()))"},
		{"((()())()(()))", 0, 0, "((()())()(()))"}, {"((()())()(()))", 0, 1, "(()(())(()()))"}, {"((()())()(()))", 0, 2, "((())(()())())"},
		{"((()())()(()))", 1, 0, "(()()(()(())))"}, {"((()())()(()))", 1, 1, "(()(()(()))())"}, {"((()())()(()))", 1, 2, "((()(()))()())"},
		{"((()())()(()))", 2, 0, "((()(()(()))))"}, {"((()())()(()))", 3, 0, "(((()(()))()))"}, {"((()())()(()))", 4, 0, "(((())(()())))"},
		{"((()())()(()))", 5, 0, "(()((()())()))"}, {"((()())()(()))", 5, 1, "(((()())())())"}, {"((()())()(()))", 6, 0, "((((()())())))"},
		{pathText(impl.MaxNodes), 23, 0, pathText(impl.MaxNodes)}, {pathText(impl.MaxNodes), 10, 0, "(" + pathText(13) + pathText(10) + ")"},
		{pathText(impl.MaxNodes), 10, 1, "(" + pathText(10) + pathText(13) + ")"}, {starText(impl.MaxNodes), 0, 22, starText(impl.MaxNodes)},
		{starText(impl.MaxNodes), 7, 0, "(" + starText(impl.MaxNodes-1) + ")"},
	} {
		got, code := impl.FromCorner(parsed(c.text), c.v, c.k)
		wantTree(t, fmt.Sprint("FromCorner ", c.text, " ", c.v, " ", c.k), got, code, c.want)
	}
}

func TestNoCorner(t *testing.T) {
	for _, text := range append(treesUpTo(5), largeTexts()...) {
		m := modelOf(text)
		for v := range m.count() {
			corners := int64(max(len(m.around(v)), 1))
			for _, k := range []int64{-1, corners, corners + 1, math.MinInt64, math.MaxInt64} {
				got, code := impl.FromCorner(m.tree(), v, k)
				wantCode(t, fmt.Sprint("FromCorner ", text, " ", v, " ", k), got, code, impl.ErrRange)
			}
		}
		for _, v := range badNodes(m.count()) {
			for _, k := range []int64{0, 1, -1, math.MaxInt64} {
				got, code := impl.FromCorner(m.tree(), v, k)
				wantCode(t, fmt.Sprint("FromCorner ", text, " ", v, " ", k), got, code, impl.ErrRange)
			}
		}
	}
	for _, bad := range badTrees() {
		for _, c := range [][2]int64{{0, 0}, {0, -1}, {-1, 0}, {99, 99}, {0, math.MaxInt64}, {math.MinInt64, math.MinInt64}} {
			got, code := impl.FromCorner(bad, c[0], c[1])
			wantCode(t, fmt.Sprint("FromCorner ", bad, c), got, code, impl.ErrInvalid)
		}
	}
}

func TestLeastShape(t *testing.T) {
	for _, text := range manyTexts() {
		got, code := impl.LeastShape(parsed(text))
		wantTree(t, "LeastShape "+text, got, code, modelOf(text).shapes()[0])
	}
	for text, want := range map[string]string{
		"()": "()", "(())": "(())", "((()))": "((()))", "(()())": "((()))", "(()()())": "((()()))", "(()(()))": "(((())))",
		starText(impl.MaxNodes): "(" + starText(impl.MaxNodes-1) + ")", pathText(impl.MaxNodes): pathText(impl.MaxNodes),
		"(" + pathText(12) + pathText(11) + ")": pathText(impl.MaxNodes),
	} {
		got, code := impl.LeastShape(parsed(text))
		wantTree(t, "LeastShape "+text, got, code, want)
	}
}

// TestNumbersOfShapes holds the numbers of shapes against the known ones of trees in the plane
// without a root.
func TestNumbersOfShapes(t *testing.T) {
	for i, want := range []int{1, 1, 1, 2, 3, 6, 14, 34, 95} {
		shapes := map[string]bool{}
		for _, text := range treeTexts(i + 1) {
			least, _ := impl.LeastShape(parsed(text))
			shapes[fmt.Sprint(least)] = true
		}
		if len(shapes) != want {
			t.Errorf("%d shapes of %d nodes found, want %d", len(shapes), i+1, want)
		}
	}
}

func TestHaveSameShape(t *testing.T) {
	texts := treesUpTo(7)
	for _, text := range texts {
		shapes := modelOf(text).shapes()
		for _, other := range texts {
			if len(other) != len(text) && len(other) > 8 {
				continue
			}
			yes, code := impl.HaveSameShape(parsed(text), parsed(other))
			wantAnswer(t, "HaveSameShape "+text+" "+other, yes, code, slices.Contains(shapes, other))
		}
	}
}

func TestSameShapesOfLargeTrees(t *testing.T) {
	found := map[bool]int{}
	for _, text := range largeTexts() {
		shapes := modelOf(text).shapes()
		for _, other := range largeTexts() {
			for _, first := range []int{0, 7, 45} {
				turned := modelOf(other).turned(first)
				same := slices.Contains(shapes, turned)
				found[same]++
				yes, code := impl.HaveSameShape(parsed(text), parsed(turned))
				wantAnswer(t, "HaveSameShape "+text+" "+turned, yes, code, same)
			}
		}
	}
	if found[true] == 0 || found[false] == 0 {
		t.Errorf("%v pairs of the same shape", found)
	}
}

// TestMirroredShapes checks that a tree need not have the shape of its mirrored one.
func TestMirroredShapes(t *testing.T) {
	other := 0
	for _, text := range treeTexts(8) {
		mirror := mirrorText(text)
		same := slices.Contains(modelOf(text).shapes(), mirror)
		yes, code := impl.HaveSameShape(parsed(text), parsed(mirror))
		wantAnswer(t, "HaveSameShape "+text+" "+mirror, yes, code, same)
		if !same {
			other++
		}
	}
	if other == 0 {
		t.Errorf("all trees have the shape of their mirrored ones")
	}
}

func TestHaveSameShapeRefuses(t *testing.T) {
	for _, bad := range badTrees() {
		for _, good := range []impl.Tree{parsed("()"), parsed("(()(()))"), parsed(starText(impl.MaxNodes))} {
			yes, code := impl.HaveSameShape(bad, good)
			wantCode(t, fmt.Sprint("HaveSameShape, first ", bad), yes, code, impl.ErrInvalid)
			yes, code = impl.HaveSameShape(good, bad)
			wantCode(t, fmt.Sprint("HaveSameShape, second ", bad), yes, code, impl.ErrInvalid)
		}
	}
}
