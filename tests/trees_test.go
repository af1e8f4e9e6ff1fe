package tests

import (
	"cmp"
	"fmt"
	"math"
	"slices"
	"strings"
	"testing"

	"loop.example/g01391/impl"
)

func degreesOf(list ...int64) impl.Tree { return impl.Tree{Degrees: list} }

func parsed(text string) impl.Tree { return modelOf(text).tree() }

// badTrees returns what is not a tree: nothing, negative degrees, nodes that are missing or too
// many, more than MaxNodes nodes, and degrees whose sum comes right only by an overflow.
func badTrees() []impl.Tree {
	return []impl.Tree{
		{}, degreesOf([]int64{}...), degreesOf(1), degreesOf(0, 0), degreesOf(-1), degreesOf(2, 0),
		degreesOf(2, -1, 0), degreesOf(-1, 2), degreesOf(3, -1, 0, 0), degreesOf(0, 1), degreesOf(0, 1, 0),
		degreesOf(1, 0, 0), degreesOf(1, 0, 1, 0), degreesOf(math.MaxInt64), degreesOf(math.MinInt64),
		degreesOf(math.MaxInt64, 3, math.MaxInt64, 2), degreesOf(math.MinInt64, math.MinInt64, 2),
		parsed(pathText(impl.MaxNodes + 1)), parsed(starText(impl.MaxNodes + 1)), parsed(starText(400)),
	}
}

// badNodes returns numbers that are no nodes of a tree of n nodes.
func badNodes(n int64) []int64 {
	return []int64{-1, n, n + 1, math.MinInt64, math.MaxInt64}
}

// ofTree has each function of a tree alone.
var ofTree = map[string]func(t impl.Tree) (any, int64){
	"ParentsOf":    func(t impl.Tree) (any, int64) { return pair(impl.ParentsOf(t)) },
	"DepthsOf":     func(t impl.Tree) (any, int64) { return pair(impl.DepthsOf(t)) },
	"SizesOf":      func(t impl.Tree) (any, int64) { return pair(impl.SizesOf(t)) },
	"LeavesOf":     func(t impl.Tree) (any, int64) { return pair(impl.LeavesOf(t)) },
	"HeightOf":     func(t impl.Tree) (any, int64) { return pair(impl.HeightOf(t)) },
	"MirrorOf":     func(t impl.Tree) (any, int64) { return pair(impl.MirrorOf(t)) },
	"PostorderOf":  func(t impl.Tree) (any, int64) { return pair(impl.PostorderOf(t)) },
	"LevelOrderOf": func(t impl.Tree) (any, int64) { return pair(impl.LevelOrderOf(t)) },
	"TreeText":     func(t impl.Tree) (any, int64) { return pair(impl.TreeText(t)) },
	"NodeAt":       func(t impl.Tree) (any, int64) { return pair(impl.NodeAt(t, nil)) },
	"JoinTrees":    func(t impl.Tree) (any, int64) { return pair(impl.JoinTrees([]impl.Tree{t})) },
	"CompareTrees": func(t impl.Tree) (any, int64) { return pair(impl.CompareTrees(t, t)) },
	"NextTree":     func(t impl.Tree) (any, int64) { return pair(impl.NextTree(t)) },
	"RankOfTree":   func(t impl.Tree) (any, int64) { return pair(impl.RankOfTree(t)) },
	"CountsOfTree": func(t impl.Tree) (any, int64) { return pair(impl.CountsOfTree(t)) },
	"BinaryOf":     func(t impl.Tree) (any, int64) { return pair(impl.BinaryOf(t)) },
	"MatchedNodes": func(t impl.Tree) (any, int64) { return pair(impl.MatchedNodes(t, "(ab)")) },
	"FillPattern":  func(t impl.Tree) (any, int64) { return pair(impl.FillPattern("(a(b))", []impl.Tree{t, t})) },
	"FirstInside":  func(t impl.Tree) (any, int64) { return pair(impl.FirstInside(t, t)) },
	"CountInside":  func(t impl.Tree) (any, int64) { return pair(impl.CountInside(t, t)) },

	"ContourOf":      func(t impl.Tree) (any, int64) { return pair(impl.ContourOf(t)) },
	"WidthsOf":       func(t impl.Tree) (any, int64) { return pair(impl.WidthsOf(t)) },
	"ReachesOf":      func(t impl.Tree) (any, int64) { return pair(impl.ReachesOf(t)) },
	"LongestWay":     func(t impl.Tree) (any, int64) { return pair(impl.LongestWay(t)) },
	"CentresOf":      func(t impl.Tree) (any, int64) { return pair(impl.CentresOf(t)) },
	"MiddleNodes":    func(t impl.Tree) (any, int64) { return pair(impl.MiddleNodes(t)) },
	"SumOfDistances": func(t impl.Tree) (any, int64) { return pair(impl.SumOfDistances(t)) },
	"LayersOf":       func(t impl.Tree) (any, int64) { return pair(impl.LayersOf(t)) },
	"LeastShape":     func(t impl.Tree) (any, int64) { return pair(impl.LeastShape(t)) },
	"HaveSameShape":  func(t impl.Tree) (any, int64) { return pair(impl.HaveSameShape(t, t)) },

	"StatesOf":  func(t impl.Tree) (any, int64) { return pair(impl.StatesOf(nodesModulo(3, 0), t)) },
	"TakesTree": func(t impl.Tree) (any, int64) { return pair(impl.TakesTree(nodesModulo(3, 0), t)) },

	"ByTakingOut":   func(t impl.Tree) (any, int64) { return pair(impl.ByTakingOut(t)) },
	"ByPuttingIn":   func(t impl.Tree) (any, int64) { return pair(impl.ByPuttingIn(t)) },
	"EditDistance":  func(t impl.Tree) (any, int64) { return pair(impl.EditDistance(t, t)) },
	"NodesInCommon": func(t impl.Tree) (any, int64) { return pair(impl.NodesInCommon(t, t)) },
	"DoAgree":       func(t impl.Tree) (any, int64) { return pair(impl.DoAgree(t, t, [][]int64{{0, 0}})) },
	"CommonPairs":   func(t impl.Tree) (any, int64) { return pair(impl.CommonPairs(t, t)) },
	"CanTakeOut":    func(t impl.Tree) (any, int64) { return pair(impl.CanTakeOut(t, t)) },
	"LeafDistance":  func(t impl.Tree) (any, int64) { return pair(impl.LeafDistance(t, t)) },
	"EditWay":       func(t impl.Tree) (any, int64) { return pair(impl.EditWay(t, t)) },

	"EvenColumns":   func(t impl.Tree) (any, int64) { return pair(impl.EvenColumns(t)) },
	"TidyColumns":   func(t impl.Tree) (any, int64) { return pair(impl.TidyColumns(t)) },
	"TidyWidth":     func(t impl.Tree) (any, int64) { return pair(impl.TidyWidth(t)) },
	"BesideOf":      func(t impl.Tree) (any, int64) { return pair(impl.BesideOf(t)) },
	"HeavyChildren": func(t impl.Tree) (any, int64) { return pair(impl.HeavyChildren(t)) },
	"HeavyPaths":    func(t impl.Tree) (any, int64) { return pair(impl.HeavyPaths(t)) },
	"PictureOf":     func(t impl.Tree) (any, int64) { return pair(impl.PictureOf(t)) },

	"CountGrowing":  func(t impl.Tree) (any, int64) { return pair(impl.CountGrowing(t)) },
	"FirstGrowing":  func(t impl.Tree) (any, int64) { return pair(impl.FirstGrowing(t)) },
	"LastGrowing":   func(t impl.Tree) (any, int64) { return pair(impl.LastGrowing(t)) },
	"GrowingOfRank": func(t impl.Tree) (any, int64) { return pair(impl.GrowingOfRank(t, 0)) },

	"StepsOf":      func(t impl.Tree) (any, int64) { return pair(impl.StepsOf(t, systemOf("(ab)>(ba)"))) },
	"FirstStep":    func(t impl.Tree) (any, int64) { return pair(impl.FirstStep(t, systemOf("(ab)>(ba)"))) },
	"IsNormal":     func(t impl.Tree) (any, int64) { return pair(impl.IsNormal(t, systemOf("(ab)>(ba)"))) },
	"NormalTree":   func(t impl.Tree) (any, int64) { return counted(impl.NormalTree(t, systemOf("(a)>a"), 30)) },
	"ReachedTrees": func(t impl.Tree) (any, int64) { return pair(impl.ReachedTrees(t, systemOf("(a)>a"))) },
	"Loops":        func(t impl.Tree) (any, int64) { return pair(impl.Loops(t, systemOf("(ab)>(ba)"))) },
	"MeetAgain":    func(t impl.Tree) (any, int64) { return pair(impl.MeetAgain(t, t, systemOf("(ab)>(ba)"))) },
}

// ofNode has each function of a tree and a node.
var ofNode = map[string]func(t impl.Tree, v int64) (any, int64){
	"ChildrenOf": func(t impl.Tree, v int64) (any, int64) { return pair(impl.ChildrenOf(t, v)) },
	"SubtreeAt":  func(t impl.Tree, v int64) (any, int64) { return pair(impl.SubtreeAt(t, v)) },
	"AddressOf":  func(t impl.Tree, v int64) (any, int64) { return pair(impl.AddressOf(t, v)) },
	"RemoveAt":   func(t impl.Tree, v int64) (any, int64) { return pair(impl.RemoveAt(t, v)) },
	"ReplaceAt":  func(t impl.Tree, v int64) (any, int64) { return pair(impl.ReplaceAt(t, v, degreesOf(0))) },
	"IsBelow":    func(t impl.Tree, v int64) (any, int64) { return pair(impl.IsBelow(t, v, 0)) },
	"IsBelow, w": func(t impl.Tree, v int64) (any, int64) { return pair(impl.IsBelow(t, 0, v)) },
	"MeetOf":     func(t impl.Tree, v int64) (any, int64) { return pair(impl.MeetOf(t, v, 0)) },
	"MeetOf, w":  func(t impl.Tree, v int64) (any, int64) { return pair(impl.MeetOf(t, 0, v)) },
	"MatchesAt":  func(t impl.Tree, v int64) (any, int64) { return pair(impl.MatchesAt(t, v, "(ab)")) },
	"OpenTrees":  func(t impl.Tree, v int64) (any, int64) { return pair(impl.OpenTrees(t, v, "(ab)")) },

	"WayBetween":      func(t impl.Tree, v int64) (any, int64) { return pair(impl.WayBetween(t, v, 0)) },
	"WayBetween, w":   func(t impl.Tree, v int64) (any, int64) { return pair(impl.WayBetween(t, 0, v)) },
	"StepsBetween":    func(t impl.Tree, v int64) (any, int64) { return pair(impl.StepsBetween(t, v, 0)) },
	"StepsBetween, w": func(t impl.Tree, v int64) (any, int64) { return pair(impl.StepsBetween(t, 0, v)) },
	"AroundOf":        func(t impl.Tree, v int64) (any, int64) { return pair(impl.AroundOf(t, v)) },
	"FromCorner":      func(t impl.Tree, v int64) (any, int64) { return pair(impl.FromCorner(t, v, 0)) },

	"TakeOut": func(t impl.Tree, v int64) (any, int64) { return pair(impl.TakeOut(t, v)) },
	"PutIn":   func(t impl.Tree, v int64) (any, int64) { return pair(impl.PutIn(t, v, 0, 0)) },

	"IntervalOf": func(t impl.Tree, v int64) (any, int64) { return ends(impl.IntervalOf(t, v)) },
	"AncestorOf": func(t impl.Tree, v int64) (any, int64) { return pair(impl.AncestorOf(t, v, 0)) },
	"LightSteps": func(t impl.Tree, v int64) (any, int64) { return pair(impl.LightSteps(t, v)) },

	"StepAt": func(t impl.Tree, v int64) (any, int64) { return pair(impl.StepAt(t, v, ruleOf("(ab)>(ba)"))) },
}

func pair(x any, code int64) (any, int64) { return x, code }

func TestErrorCodes(t *testing.T) {
	got := []int64{impl.ErrNone, impl.ErrInvalid, impl.ErrRange, impl.ErrLimit, impl.ErrNotFound, impl.ErrState, impl.ErrSyntax}
	wantList(t, "the codes", got, impl.ErrNone, 0, 1, 2, 3, 4, 5, 6)
	if impl.MaxNodes != 24 {
		t.Errorf("MaxNodes = %d", impl.MaxNodes)
	}
}

func TestIsTree(t *testing.T) {
	for _, text := range manyTexts() {
		if x := parsed(text); !impl.IsTree(x) {
			t.Errorf("IsTree(%v) = false", x)
		}
	}
	for _, x := range badTrees() {
		if impl.IsTree(x) {
			t.Errorf("IsTree(%v) = true", x)
		}
	}
}

// TestIsTreeOfShortLists holds all lists of at most five degrees in -1..5 against the known trees.
func TestIsTreeOfShortLists(t *testing.T) {
	known := map[string]bool{}
	for n := 1; n <= 5; n++ {
		for _, text := range treeTexts(n) {
			known[fmt.Sprint(parsed(text).Degrees)] = true
		}
	}
	found := 0
	var try func(list []int64)
	try = func(list []int64) {
		yes := impl.IsTree(impl.Tree{Degrees: list})
		if yes != known[fmt.Sprint(list)] {
			t.Errorf("IsTree(%v) = %v", list, yes)
		}
		if yes {
			found++
		}
		for d := int64(-1); d <= 5 && len(list) < 5; d++ {
			try(append(slices.Clone(list), d))
		}
	}
	try(nil)
	if found != 1+1+2+5+14 {
		t.Errorf("%d trees found", found)
	}
}

func TestListsOfNodes(t *testing.T) {
	for _, text := range manyTexts() {
		m := modelOf(text)
		x := m.tree()
		parents, code := impl.ParentsOf(x)
		wantList(t, "ParentsOf "+text, parents, code, m.up...)
		depths, code := impl.DepthsOf(x)
		wantList(t, "DepthsOf "+text, depths, code, m.each(m.depth)...)
		sizes, code := impl.SizesOf(x)
		wantList(t, "SizesOf "+text, sizes, code, m.each(func(v int64) int64 { return int64(len(m.part(v)) / 2) })...)
		height, code := impl.HeightOf(x)
		wantNumber(t, "HeightOf "+text, height, code, slices.Max(m.each(m.depth)))
		postorder, code := impl.PostorderOf(x)
		wantList(t, "PostorderOf "+text, postorder, code, m.closed...)
		nodes := m.each(func(v int64) int64 { return v })
		leaves, code := impl.LeavesOf(x)
		wantList(t, "LeavesOf "+text, leaves, code, slices.DeleteFunc(slices.Clone(nodes), func(v int64) bool { return m.part(v) != "()" })...)
		level, code := impl.LevelOrderOf(x)
		slices.SortStableFunc(nodes, func(v, w int64) int { return cmp.Compare(m.depth(v), m.depth(w)) })
		wantList(t, "LevelOrderOf "+text, level, code, nodes...)
	}
}

func TestOneNode(t *testing.T) {
	x := degreesOf(0)
	parents, code := impl.ParentsOf(x)
	wantList(t, "ParentsOf", parents, code, -1)
	children, code := impl.ChildrenOf(x, 0)
	wantList(t, "ChildrenOf", children, code)
	depths, code := impl.DepthsOf(x)
	wantList(t, "DepthsOf", depths, code, 0)
	sizes, code := impl.SizesOf(x)
	wantList(t, "SizesOf", sizes, code, 1)
	leaves, code := impl.LeavesOf(x)
	wantList(t, "LeavesOf", leaves, code, 0)
	height, code := impl.HeightOf(x)
	wantNumber(t, "HeightOf", height, code, 0)
	postorder, code := impl.PostorderOf(x)
	wantList(t, "PostorderOf", postorder, code, 0)
	level, code := impl.LevelOrderOf(x)
	wantList(t, "LevelOrderOf", level, code, 0)
	if text, code := impl.TreeText(x); text != "()" || code != impl.ErrNone {
		t.Errorf("TreeText = %q, %d", text, code)
	}
}

func TestNodes(t *testing.T) {
	for _, text := range manyTexts() {
		m := modelOf(text)
		x := m.tree()
		for v := range m.count() {
			what := fmt.Sprint(text, " ", v)
			children, code := impl.ChildrenOf(x, v)
			wantList(t, "ChildrenOf "+what, children, code, m.children(v)...)
			part, code := impl.SubtreeAt(x, v)
			wantTree(t, "SubtreeAt "+what, part, code, m.part(v))
			address, code := impl.AddressOf(x, v)
			wantList(t, "AddressOf "+what, address, code, m.address(v)...)
			at, code := impl.NodeAt(x, m.address(v))
			wantNumber(t, "NodeAt "+what, at, code, v)
		}
	}
}

func TestPairsOfNodes(t *testing.T) {
	for _, text := range manyTexts() {
		m := modelOf(text)
		x := m.tree()
		for v := range m.count() {
			for w := range m.count() {
				if yes, code := impl.IsBelow(x, v, w); yes != m.isBelow(v, w) || code != impl.ErrNone {
					t.Errorf("IsBelow %s %d %d = %v, %d", text, v, w, yes, code)
				}
				meet, code := impl.MeetOf(x, v, w)
				wantNumber(t, fmt.Sprint("MeetOf ", text, " ", v, " ", w), meet, code, m.meet(v, w))
			}
		}
	}
}

func TestNodeAtRefuses(t *testing.T) {
	x := parsed("((()())()(()))")
	for _, address := range [][]int64{{3}, {1, 0}, {0, 2}, {2, 0, 0}, {math.MaxInt64}, {0, math.MaxInt64}, make([]int64, impl.MaxNodes)} {
		v, code := impl.NodeAt(x, address)
		wantCode(t, fmt.Sprint("NodeAt ", address), v, code, impl.ErrNotFound)
	}
	for _, address := range [][]int64{{-1}, {0, -1}, {9, -1}, {math.MinInt64}, make([]int64, impl.MaxNodes+1)} {
		v, code := impl.NodeAt(x, address)
		wantCode(t, fmt.Sprint("NodeAt ", address), v, code, impl.ErrRange)
		v, code = impl.NodeAt(degreesOf(1), address)
		wantCode(t, fmt.Sprint("NodeAt of no tree ", address), v, code, impl.ErrInvalid)
	}
	deepest, code := impl.NodeAt(parsed(pathText(impl.MaxNodes)), make([]int64, impl.MaxNodes-1))
	wantNumber(t, "NodeAt the end of a path", deepest, code, impl.MaxNodes-1)
}

func TestMirrorOf(t *testing.T) {
	for _, text := range manyTexts() {
		x, code := impl.MirrorOf(parsed(text))
		wantTree(t, "MirrorOf "+text, x, code, mirrorText(text))
		back, code := impl.MirrorOf(x)
		wantTree(t, "MirrorOf twice "+text, back, code, text)
	}
}

func TestJoinTrees(t *testing.T) {
	one := degreesOf(0)
	joined, code := impl.JoinTrees(nil)
	wantTree(t, "JoinTrees of none", joined, code, "()")
	joined, code = impl.JoinTrees([]impl.Tree{})
	wantTree(t, "JoinTrees of an empty list", joined, code, "()")
	joined, code = impl.JoinTrees([]impl.Tree{one})
	wantTree(t, "JoinTrees of one", joined, code, "(())")
	joined, code = impl.JoinTrees([]impl.Tree{parsed("((())())"), one, parsed("(()()())")})
	wantTree(t, "JoinTrees of three", joined, code, "(((())())()(()()()))")
	joined, code = impl.JoinTrees(slices.Repeat([]impl.Tree{one}, impl.MaxNodes-1))
	wantTree(t, "JoinTrees of many", joined, code, starText(impl.MaxNodes))
	joined, code = impl.JoinTrees([]impl.Tree{parsed(pathText(impl.MaxNodes - 1))})
	wantTree(t, "JoinTrees of a path", joined, code, pathText(impl.MaxNodes))
}

func TestJoinTreesRefuses(t *testing.T) {
	one, large := degreesOf(0), parsed(pathText(impl.MaxNodes))
	for _, list := range [][]impl.Tree{{large}, slices.Repeat([]impl.Tree{one}, impl.MaxNodes), {large, large}, {parsed(starText(12)), parsed(starText(12))}} {
		joined, code := impl.JoinTrees(list)
		wantCode(t, "JoinTrees of too many nodes", joined, code, impl.ErrLimit)
	}
	for _, bad := range badTrees() {
		for _, list := range [][]impl.Tree{{bad}, {one, bad}, {bad, one}, {large, large, bad}} {
			joined, code := impl.JoinTrees(list)
			wantCode(t, fmt.Sprint("JoinTrees with ", bad), joined, code, impl.ErrInvalid)
		}
	}
}

func TestReplaceAt(t *testing.T) {
	for _, text := range manyTexts() {
		m := modelOf(text)
		x := m.tree()
		for v := range m.count() {
			for _, other := range []string{"()", "(())", "((()())(()))", pathText(impl.MaxNodes)} {
				y, code := impl.ReplaceAt(x, v, parsed(other))
				what := fmt.Sprint("ReplaceAt ", text, " ", v, " ", other)
				if want := m.with(v, other); len(want) > 2*impl.MaxNodes {
					wantCode(t, what, y, code, impl.ErrLimit)
				} else {
					wantTree(t, what, y, code, want)
				}
			}
		}
	}
}

func TestReplaceAtRefuses(t *testing.T) {
	x, large := parsed("(()(()))"), parsed(starText(impl.MaxNodes))
	for _, bad := range badTrees() {
		for _, v := range []int64{0, 1, 4, -1} {
			y, code := impl.ReplaceAt(x, v, bad)
			wantCode(t, fmt.Sprint("ReplaceAt by ", bad), y, code, impl.ErrInvalid)
			y, code = impl.ReplaceAt(bad, v, large)
			wantCode(t, fmt.Sprint("ReplaceAt in ", bad), y, code, impl.ErrInvalid)
		}
	}
	for _, v := range badNodes(4) {
		y, code := impl.ReplaceAt(x, v, large)
		wantCode(t, "ReplaceAt no node by a large tree", y, code, impl.ErrRange)
	}
	y, code := impl.ReplaceAt(x, 1, parsed(pathText(impl.MaxNodes-2)))
	wantCode(t, "ReplaceAt with one node too many", y, code, impl.ErrLimit)
	y, code = impl.ReplaceAt(x, 1, parsed(pathText(impl.MaxNodes-3)))
	wantTree(t, "ReplaceAt up to the limit", y, code, "("+pathText(impl.MaxNodes-3)+"(()))")
	y, code = impl.ReplaceAt(large, 0, degreesOf(0))
	wantTree(t, "ReplaceAt the root", y, code, "()")
}

func TestRemoveAt(t *testing.T) {
	for _, text := range manyTexts() {
		m := modelOf(text)
		x := m.tree()
		y, code := impl.RemoveAt(x, 0)
		wantCode(t, "RemoveAt the root of "+text, y, code, impl.ErrState)
		for v := int64(1); v < m.count(); v++ {
			y, code := impl.RemoveAt(x, v)
			wantTree(t, fmt.Sprint("RemoveAt ", text, " ", v), y, code, m.with(v, ""))
		}
	}
}

func TestCompareTrees(t *testing.T) {
	var all []impl.Tree
	for n := 1; n <= 6; n++ {
		all = append(all, orderedTrees(n)...)
	}
	for i, x := range all {
		for j, y := range all {
			got, code := impl.CompareTrees(x, y)
			wantNumber(t, fmt.Sprint("CompareTrees ", x, y), got, code, int64(cmp.Compare(i, j)))
		}
	}
	got, code := impl.CompareTrees(parsed(pathText(impl.MaxNodes)), parsed(starText(impl.MaxNodes-1)))
	wantNumber(t, "CompareTrees, more nodes first", got, code, 1)
	got, code = impl.CompareTrees(parsed(pathText(impl.MaxNodes)), parsed(starText(impl.MaxNodes)))
	wantNumber(t, "CompareTrees, a path and a star", got, code, -1)
	for _, bad := range badTrees() {
		got, code = impl.CompareTrees(bad, degreesOf(0))
		wantCode(t, fmt.Sprint("CompareTrees, first ", bad), got, code, impl.ErrInvalid)
		got, code = impl.CompareTrees(degreesOf(1, 0), bad)
		wantCode(t, fmt.Sprint("CompareTrees, second ", bad), got, code, impl.ErrInvalid)
	}
}

func TestTexts(t *testing.T) {
	if text, code := impl.TreeText(degreesOf(2, 0, 1, 0)); text != "(()(()))" || code != impl.ErrNone {
		t.Errorf("TreeText of the example = %q, %d", text, code)
	}
	for _, want := range manyTexts() {
		text, code := impl.TreeText(parsed(want))
		if text != want || code != impl.ErrNone {
			t.Errorf("TreeText = %q, %d; want %q", text, code, want)
		}
		x, code := impl.ParseTree(want)
		wantTree(t, "ParseTree "+want, x, code, want)
	}
}

func TestParseTreeRefuses(t *testing.T) {
	for _, text := range []string{
		"", "(", ")", ")(", "()()", "(()", "())", "(x)", " ()", "() ", "( )", "()\n", "\x00", "[]", "(a)", "（）",
		pathText(impl.MaxNodes) + "()", "(" + pathText(impl.MaxNodes) + ")", starText(impl.MaxNodes + 1),
		strings.Repeat("(", 1<<20), pathText(1 << 20),
	} {
		x, code := impl.ParseTree(text)
		wantCode(t, fmt.Sprintf("ParseTree of %d bytes, %.60q", len(text), text), x, code, impl.ErrSyntax)
	}
}

// TestParseTreeOfShortTexts holds all texts of at most eight bytes of three kinds against the known
// texts of trees.
func TestParseTreeOfShortTexts(t *testing.T) {
	known := map[string]bool{}
	for n := 1; n <= 4; n++ {
		for _, text := range treeTexts(n) {
			known[text] = true
		}
	}
	var try func(text string)
	try = func(text string) {
		x, code := impl.ParseTree(text)
		if known[text] {
			wantTree(t, "ParseTree "+text, x, code, text)
		} else {
			wantCode(t, "ParseTree "+text, x, code, impl.ErrSyntax)
		}
		for i := 0; i < 3 && len(text) < 8; i++ {
			try(text + "()a"[i:i+1])
		}
	}
	try("")
}

func TestNoTree(t *testing.T) {
	for _, bad := range badTrees() {
		for name, f := range ofTree {
			got, code := f(bad)
			wantCode(t, fmt.Sprint(name, " ", bad), got, code, impl.ErrInvalid)
		}
		for name, f := range ofNode {
			for _, v := range []int64{0, 1, -1, math.MaxInt64} {
				got, code := f(bad, v)
				wantCode(t, fmt.Sprint(name, " ", bad, " ", v), got, code, impl.ErrInvalid)
			}
		}
	}
}

func TestNoNode(t *testing.T) {
	for _, text := range []string{"()", "(()(()))", pathText(impl.MaxNodes), starText(impl.MaxNodes)} {
		x := parsed(text)
		for _, v := range badNodes(int64(len(x.Degrees))) {
			for name, f := range ofNode {
				got, code := f(x, v)
				wantCode(t, fmt.Sprint(name, " ", text, " ", v), got, code, impl.ErrRange)
			}
		}
	}
}
