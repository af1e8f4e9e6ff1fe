package tests

import (
	"fmt"
	"slices"
	"strings"
	"testing"

	"loop.example/g01391/impl"
)

// TestPromise8 checks promise 8 by the package's functions alone: nodes of one depth stand at least 2 columns
// apart in both drawings, and heavy paths have each node once.
func TestPromise8(t *testing.T) {
	for _, text := range drawnTexts() {
		x := parsed(text)
		even, code := impl.EvenColumns(x)
		checkApart(t, "EvenColumns "+text, x, even, code)
		tidy, code := impl.TidyColumns(x)
		checkApart(t, "TidyColumns "+text, x, tidy, code)
		checkHeavyPaths(t, x)
	}
}

// checkApart checks that each node stands at least 2 columns to the right of all of its depth ahead of it, that
// the least column is 0, and that each node with children stands in the middle of the outer ones.
func checkApart(t *testing.T, what string, x impl.Tree, columns []int64, code int64) {
	t.Helper()
	depths, _ := impl.DepthsOf(x)
	if code != impl.ErrNone || len(columns) != len(depths) || slices.Min(columns) != 0 {
		t.Fatalf("%s = %v, %d", what, columns, code)
	}
	for w := range columns {
		for v := range w {
			if depths[v] == depths[w] && columns[w]-columns[v] < 2 {
				t.Errorf("%s = %v: %d and %d stand too near", what, columns, v, w)
			}
		}
		if children, _ := impl.ChildrenOf(x, int64(w)); len(children) > 0 {
			outer := columns[children[0]] + columns[children[len(children)-1]]
			if rest := outer - 2*columns[w]; rest != 0 && rest != 1 {
				t.Errorf("%s = %v: %d does not stand in the middle of its children", what, columns, w)
			}
		}
	}
}

// checkHeavyPaths checks that all paths together have each node once, that each one begins at the root or at a
// child that is not heavy, and that it goes down by heavy children to a leaf.
func checkHeavyPaths(t *testing.T, x impl.Tree) {
	t.Helper()
	parents, _ := impl.ParentsOf(x)
	heavy, _ := impl.HeavyChildren(x)
	paths, code := impl.HeavyPaths(x)
	if code != impl.ErrNone || len(paths) == 0 || len(paths[0]) == 0 || paths[0][0] != 0 {
		t.Fatalf("HeavyPaths %v = %v, %d", x, paths, code)
	}
	nodes := slices.Sorted(slices.Values(slices.Concat(paths...)))
	wantList(t, fmt.Sprint("the nodes of HeavyPaths ", x), nodes, code, countedTo(0, int64(len(parents)-1))...)
	for i, path := range paths {
		top := path[0]
		if i > 0 && (top <= paths[i-1][0] || heavy[parents[top]] == top) {
			t.Errorf("HeavyPaths %v = %v: %d is no next top", x, paths, top)
		}
		for place, v := range path {
			if next := append(path, -1)[place+1]; heavy[v] != next {
				t.Errorf("HeavyPaths %v = %v: %d does not go on by its heavy child %d", x, paths, v, heavy[v])
			}
		}
	}
}

// TestPromise13 checks promise 13 by the package's functions alone: 2 multiplied by itself as often as there are
// light steps is at most the number of nodes. There are trees with 3 light steps among those of MaxNodes nodes.
func TestPromise13(t *testing.T) {
	greatest := int64(0)
	for _, text := range append(drawnTexts(), largeTexts()...) {
		x := parsed(text)
		for v := range int64(len(x.Degrees)) {
			steps, code := impl.LightSteps(x, v)
			if code != impl.ErrNone || steps < 0 || steps > 5 || 1<<steps > len(x.Degrees) {
				t.Errorf("LightSteps %s %d = %d, %d", text, v, steps, code)
			}
			greatest = max(greatest, steps)
		}
	}
	wantNumber(t, "the greatest number of light steps", greatest, impl.ErrNone, 3)
}

// TestLightStepsGoToOtherPaths checks that each light step, and no other one, goes on to another heavy path.
func TestLightStepsGoToOtherPaths(t *testing.T) {
	for _, text := range drawnTexts() {
		x := parsed(text)
		paths, _ := impl.HeavyPaths(x)
		for v := range int64(len(x.Degrees)) {
			way, _ := impl.WayBetween(x, 0, v)
			met := int64(0)
			for _, path := range paths {
				if slices.ContainsFunc(path, func(w int64) bool { return slices.Contains(way, w) }) {
					met++
				}
			}
			steps, code := impl.LightSteps(x, v)
			wantNumber(t, fmt.Sprint("LightSteps ", text, " ", v), steps, code, met-1)
		}
	}
}

// TestHeavyChildrenAreGreatest checks that heavy children have the greatest subtrees, and are the first ones.
func TestHeavyChildrenAreGreatest(t *testing.T) {
	for _, text := range drawnTexts() {
		x := parsed(text)
		sizes, _ := impl.SizesOf(x)
		heavy, code := impl.HeavyChildren(x)
		for v := range int64(len(sizes)) {
			children, _ := impl.ChildrenOf(x, v)
			if len(children) == 0 {
				wantNumber(t, fmt.Sprint("HeavyChildren of the leaf ", v, " of ", text), heavy[v], code, -1)
				continue
			}
			if !slices.Contains(children, heavy[v]) {
				t.Fatalf("HeavyChildren %s = %v, with the children %v of %d", text, heavy, children, v)
			}
			for _, child := range children {
				if sizes[child] > sizes[heavy[v]] || child < heavy[v] && sizes[child] == sizes[heavy[v]] {
					t.Errorf("HeavyChildren %s = %v, with the child %d of %d", text, heavy, child, v)
				}
			}
		}
	}
}

// TestSubtreesAreDrawnAlone checks that each subtree stands in both drawings as it stands alone, but for being
// moved as a whole.
func TestSubtreesAreDrawnAlone(t *testing.T) {
	for _, columnsOf := range []func(x impl.Tree) ([]int64, int64){impl.EvenColumns, impl.TidyColumns} {
		for _, text := range drawnTexts() {
			x := parsed(text)
			columns, _ := columnsOf(x)
			for v := range int64(len(x.Degrees)) {
				first, last, _ := impl.IntervalOf(x, v)
				part := slices.Clone(columns[first : last+1])
				least := slices.Min(part)
				for i := range part {
					part[i] -= least
				}
				subtree, _ := impl.SubtreeAt(x, v)
				alone, code := columnsOf(subtree)
				wantList(t, fmt.Sprint("the columns of the subtree of ", v, " of ", text), alone, code, part...)
			}
		}
	}
}

// TestNoSubtreeStandsTooFar checks that each subtree behind the first one of a node comes as near as 2 columns to
// those before it in some depth of the tidy drawing.
func TestNoSubtreeStandsTooFar(t *testing.T) {
	for _, text := range drawnTexts() {
		x := parsed(text)
		columns, _ := impl.TidyColumns(x)
		beside, _ := impl.BesideOf(x)
		parents, _ := impl.ParentsOf(x)
		for child := int64(1); child < int64(len(parents)); child++ {
			first, last, code := impl.IntervalOf(x, child)
			if parents[child] == child-1 {
				continue
			}
			// The nodes ahead of it, below the same parent.
			nearest := int64(1000)
			for v := parents[child] + 1; v < first; v++ {
				if next := beside[v]; first <= next && next <= last {
					nearest = min(nearest, columns[next]-columns[v])
				}
			}
			wantNumber(t, fmt.Sprint("the least gap ahead of the subtree of ", child, " of ", text), nearest, code, 2)
		}
	}
}

// TestPicturesHaveAllNodes reads all columns from the pictures: the rows from the root on have the nodes in level
// order.
func TestPicturesHaveAllNodes(t *testing.T) {
	for _, text := range drawnTexts() {
		x := parsed(text)
		picture, code := impl.PictureOf(x)
		rows := strings.Split(picture, "/")
		width, _ := impl.TidyWidth(x)
		height, _ := impl.HeightOf(x)
		if code != impl.ErrNone || int64(len(rows)) != height+1 {
			t.Fatalf("PictureOf %s = %q, %d", text, picture, code)
		}
		var read []int64
		for _, row := range rows {
			if int64(len(row)) != width+1 || strings.Trim(row, "o.") != "" {
				t.Fatalf("PictureOf %s = %q, with the width %d", text, picture, width)
			}
			for column := range row {
				if row[column] == 'o' {
					read = append(read, int64(column))
				}
			}
		}
		columns, _ := impl.TidyColumns(x)
		order, _ := impl.LevelOrderOf(x)
		var want []int64
		for _, v := range order {
			want = append(want, columns[v])
		}
		wantList(t, "the columns in PictureOf "+text, read, code, want...)
	}
}

// TestAncestorsAndIntervals checks that the interval of a node has the nodes whose ancestor it is, or that are
// the node itself.
func TestAncestorsAndIntervals(t *testing.T) {
	for _, text := range slices.Concat(treesUpTo(6), largeTexts(), fullTexts()) {
		x := parsed(text)
		depths, _ := impl.DepthsOf(x)
		for v := range int64(len(depths)) {
			for w := range int64(len(depths)) {
				first, last, code := impl.IntervalOf(x, w)
				below, _ := impl.IsBelow(x, v, w)
				wantAnswer(t, fmt.Sprint(v, " is in IntervalOf ", text, " ", w), first <= v && v <= last, code, below)
				if steps := depths[v] - depths[w]; steps >= 0 {
					above, code := impl.AncestorOf(x, v, steps)
					wantAnswer(t, fmt.Sprint("AncestorOf ", text, " ", v, " ", steps, " is ", w), above == w, code, below)
				}
			}
		}
	}
}

// TestNodesBesideAreInLevelOrder checks that the nodes beside each other are those next to each other in level
// order, but for the last ones of a depth.
func TestNodesBesideAreInLevelOrder(t *testing.T) {
	for _, text := range drawnTexts() {
		x := parsed(text)
		depths, _ := impl.DepthsOf(x)
		order, _ := impl.LevelOrderOf(x)
		beside, code := impl.BesideOf(x)
		want := slices.Repeat([]int64{-1}, len(order))
		for i, v := range order[1:] {
			if depths[order[i]] == depths[v] {
				want[order[i]] = v
			}
		}
		wantList(t, "BesideOf "+text, beside, code, want...)
	}
}

// TestArgumentsOfWideTreesStay checks the functions of this chapter, with those of the others, by trees in whose
// drawings subtrees are moved, and that no two lists of a result share memory.
func TestArgumentsOfWideTreesStay(t *testing.T) {
	for _, text := range []string{"()", "(()(()()()()))", fullText(3), combText(9, true), someText(impl.MaxNodes, 5), starText(impl.MaxNodes)} {
		x, memory := guarded(text)
		checkStay(t, callsOf(x), func() string { return fmt.Sprint(memory) })
	}
}
