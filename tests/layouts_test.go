package tests

import (
	"fmt"
	"math"
	"slices"
	"strings"
	"testing"

	"loop.example/g01391/impl"
)

// ends returns both nodes of an interval as one result.
func ends(v, w, code int64) (any, int64) { return [2]int64{v, w}, code }

// wantColumns holds columns against those that are wanted, and those of the model.
func wantColumns(t *testing.T, what string, got []int64, code int64, want, byModel []int64) {
	t.Helper()
	wantList(t, what, got, code, want...)
	wantList(t, what+" by the model", byModel, impl.ErrNone, want...)
}

func TestEvenColumns(t *testing.T) {
	for _, text := range drawnTexts() {
		columns, code := impl.EvenColumns(parsed(text))
		wantList(t, "EvenColumns "+text, columns, code, modelOf(text).even()...)
	}
}

// TestListedEvenColumns has sums of columns that are odd, and sums that are even.
func TestListedEvenColumns(t *testing.T) {
	for _, c := range []struct {
		text string
		want []int64
	}{
		{"()", []int64{0}}, {"(())", []int64{0, 0}}, {"(()())", []int64{1, 0, 2}}, {"(()()())", []int64{2, 0, 2, 4}}, {"(()()()())", []int64{3, 0, 2, 4, 6}},
		{"(()(()))", []int64{1, 0, 2, 2}}, {"((())())", []int64{1, 0, 0, 2}}, {"((()())())", []int64{2, 1, 0, 2, 4}}, {"(()(()()))", []int64{1, 0, 3, 2, 4}},
		{"((()())(()()))", []int64{3, 1, 0, 2, 5, 4, 6}}, {"(()(()()()()))", []int64{2, 0, 5, 2, 4, 6, 8}}, {"((()())((())()()))", []int64{3, 1, 0, 2, 6, 4, 4, 6, 8}},
		{"((()(()()))(())())", []int64{4, 1, 0, 3, 2, 4, 6, 6, 8}}, {pathText(24), make([]int64, 24)}, {starText(24), append([]int64{22}, listWith24()...)},
	} {
		columns, code := impl.EvenColumns(parsed(c.text))
		wantColumns(t, "EvenColumns "+c.text, columns, code, c.want, modelOf(c.text).even())
	}
}

// listWith24 returns the columns of the leaves of a star of MaxNodes nodes.
func listWith24() []int64 {
	var columns []int64
	for leaf := range int64(impl.MaxNodes - 1) {
		columns = append(columns, 2*leaf)
	}
	return columns
}

func TestTidyColumns(t *testing.T) {
	for _, text := range append(drawnTexts(), treeTexts(9)...) {
		columns, code := impl.TidyColumns(parsed(text))
		want := modelOf(text).tidy()
		wantList(t, "TidyColumns "+text, columns, code, want...)
		width, code := impl.TidyWidth(parsed(text))
		wantNumber(t, "TidyWidth "+text, width, code, slices.Max(want))
	}
}

// TestListedTidyColumns has drawings for each thing that can decide where a subtree comes to stand.
func TestListedTidyColumns(t *testing.T) {
	for _, c := range []struct {
		what, text string
		want       []int64
	}{
		{"one node", "()", []int64{0}},
		{"a path", "((()))", []int64{0, 0, 0}},
		{"two leaves", "(()())", []int64{1, 0, 2}},
		{"three leaves", "(()()())", []int64{2, 0, 2, 4}},
		{"an even number of leaves", "(()()()())", []int64{3, 0, 2, 4, 6}},
		{"a star beside a leaf that is not moved", "(()(()()()))", []int64{1, 0, 2, 0, 2, 4}},
		{"a star moved by -1, with the least column", "(()(()()()()))", []int64{2, 1, 3, 0, 2, 4, 6}},
		{"a later star moved by -2", "(()()(()()()()()()()))", []int64{4, 2, 4, 6, 0, 2, 4, 6, 8, 10, 12}},
		{"a leaf beside a star", "((()()()())())", []int64{4, 3, 0, 2, 4, 6, 5}},
		{"a later subtree is deeper", "(()((())))", []int64{1, 0, 2, 2, 2}},
		{"a later subtree is less deep", "(((()))())", []int64{1, 0, 0, 0, 2}},
		{"a lower depth decides, and the sum is odd", "((())(()()))", []int64{1, 0, 0, 3, 2, 4}},
		{"only the lowest of three depths decides", "(((()()()))((())))", []int64{4, 2, 2, 0, 2, 4, 6, 6, 6}},
		{"the last subtree meets the first one", "(((()()()()))()((())))", []int64{5, 3, 3, 0, 2, 4, 6, 5, 8, 8, 8}},
		{"the last subtree meets the first one, below a later one", "((()()())()(()(()()()())()))", []int64{5, 2, 0, 2, 4, 4, 8, 6, 8, 5, 7, 9, 11, 10}},
		{"the last subtree meets the first one, and is moved by -1", "((()()())()((()()()()()()()())()))", []int64{5, 3, 1, 3, 5, 5, 8, 7, 0, 2, 4, 6, 8, 10, 12, 14, 9}},
		{"a sum is negative and odd before all is moved", "(()(((())(()()))()()()))", []int64{3, 2, 4, 1, 0, 0, 3, 2, 4, 3, 5, 7}},
		{"a subtree moved by 1, with one moved by -3", "(()(()(()()()()()())))", []int64{3, 2, 4, 3, 5, 0, 2, 4, 6, 8, 10}},
		{"a subtree moved by -1, with one moved by -3", "(()(()(()()()()()())()()))", []int64{5, 4, 6, 3, 5, 0, 2, 4, 6, 8, 10, 7, 9}},
		{"a subtree reaches far to the right", farTexts()[0], slices.Concat([]int64{10, 9, 0, 0, 18, 2, 2}, listWith24()[2:18], []int64{11})},
		{"a subtree reaches far to the left", farTexts()[1], slices.Concat([]int64{24, 23, 25, 16}, listWith24()[:8], []int64{14}, listWith24()[8:17], []int64{34, 34})},
		{"a large path", pathText(24), make([]int64, 24)},
		{"a large star", starText(24), append([]int64{22}, listWith24()...)},
	} {
		x := parsed(c.text)
		columns, code := impl.TidyColumns(x)
		wantColumns(t, "TidyColumns "+c.text+", "+c.what, columns, code, c.want, modelOf(c.text).tidy())
		width, code := impl.TidyWidth(x)
		wantNumber(t, "TidyWidth "+c.text, width, code, slices.Max(c.want))
	}
}

func TestIntervalOf(t *testing.T) {
	for _, text := range append(manyTexts(), fullTexts()...) {
		m := modelOf(text)
		for v := range m.count() {
			first, last, code := impl.IntervalOf(m.tree(), v)
			want := m.interval(v)
			wantList(t, fmt.Sprint("IntervalOf ", text, " ", v), []int64{first, last}, code, want[:]...)
		}
	}
	for _, c := range []struct {
		text           string
		v, first, last int64
	}{
		{"()", 0, 0, 0}, {"(()(()))", 0, 0, 3}, {"(()(()))", 1, 1, 1}, {"(()(()))", 2, 2, 3}, {"(()(()))", 3, 3, 3}, {"((()())())", 1, 1, 3}, {"((()())())", 4, 4, 4},
		{pathText(24), 0, 0, 23}, {pathText(24), 11, 11, 23}, {pathText(24), 23, 23, 23}, {starText(24), 0, 0, 23}, {starText(24), 1, 1, 1}, {starText(24), 23, 23, 23},
	} {
		first, last, code := impl.IntervalOf(parsed(c.text), c.v)
		wantList(t, fmt.Sprint("IntervalOf ", c.text, " ", c.v), []int64{first, last}, code, c.first, c.last)
	}
}

// stepsUp returns numbers of steps around all limits, and far off.
func stepsUp() []int64 {
	return append(countedTo(-2, impl.MaxNodes+2), math.MinInt64, math.MinInt64+1, -1<<32, 1<<32, 1<<32+1, math.MaxInt64-1, math.MaxInt64)
}

func TestAncestorOf(t *testing.T) {
	for _, text := range slices.Concat(treesUpTo(6), largeTexts(), fullTexts()) {
		m := modelOf(text)
		for v := range m.count() {
			for _, k := range stepsUp() {
				above, code := impl.AncestorOf(m.tree(), v, k)
				what := fmt.Sprint("AncestorOf ", text, " ", v, " ", k)
				switch {
				case k < 0 || k > impl.MaxNodes:
					wantCode(t, what, above, code, impl.ErrRange)
				case k > m.depth(v):
					wantCode(t, what, above, code, impl.ErrNotFound)
				default:
					wantNumber(t, what, above, code, m.ancestor(v, k))
				}
			}
		}
	}
}

func TestListedAncestors(t *testing.T) {
	for _, c := range []struct {
		text              string
		v, k, want, error int64
	}{
		{"()", 0, 0, 0, impl.ErrNone}, {"()", 0, 1, 0, impl.ErrNotFound}, {"()", 0, -1, 0, impl.ErrRange}, {"()", 0, 24, 0, impl.ErrNotFound}, {"()", 0, 25, 0, impl.ErrRange},
		{"(()(()))", 3, 0, 3, impl.ErrNone}, {"(()(()))", 3, 1, 2, impl.ErrNone}, {"(()(()))", 3, 2, 0, impl.ErrNone}, {"(()(()))", 3, 3, 0, impl.ErrNotFound},
		{"(()(()))", 1, 1, 0, impl.ErrNone}, {"(()(()))", 1, 2, 0, impl.ErrNotFound}, {"(()(()))", 3, 23, 0, impl.ErrNotFound}, {"(()(()))", 4, 24, 0, impl.ErrRange},
		{pathText(24), 23, 23, 0, impl.ErrNone}, {pathText(24), 23, 22, 1, impl.ErrNone}, {pathText(24), 23, 24, 0, impl.ErrNotFound}, {pathText(24), 23, 25, 0, impl.ErrRange},
		{pathText(24), 22, 23, 0, impl.ErrNotFound}, {starText(24), 23, 1, 0, impl.ErrNone}, {starText(24), 23, 0, 23, impl.ErrNone},
	} {
		above, code := impl.AncestorOf(parsed(c.text), c.v, c.k)
		if above != c.want || code != c.error {
			t.Errorf("AncestorOf %s %d %d = %d, %d; want %d, %d", c.text, c.v, c.k, above, code, c.want, c.error)
		}
	}
}

// TestAncestorOfRefuses checks the order of the codes, with several faults at once.
func TestAncestorOfRefuses(t *testing.T) {
	for _, k := range stepsUp() {
		for _, bad := range badTrees() {
			for _, v := range []int64{0, 1, -1, 24, math.MaxInt64, math.MinInt64} {
				above, code := impl.AncestorOf(bad, v, k)
				wantCode(t, fmt.Sprint("AncestorOf ", bad, " ", v, " ", k), above, code, impl.ErrInvalid)
			}
		}
		for _, text := range []string{"()", "(()(()))", pathText(24), starText(24)} {
			for _, v := range badNodes(int64(len(text) / 2)) {
				above, code := impl.AncestorOf(parsed(text), v, k)
				wantCode(t, fmt.Sprint("AncestorOf ", text, " ", v, " ", k), above, code, impl.ErrRange)
			}
		}
	}
}

func TestBesideOf(t *testing.T) {
	for _, text := range append(manyTexts(), drawnTexts()...) {
		beside, code := impl.BesideOf(parsed(text))
		m := modelOf(text)
		wantList(t, "BesideOf "+text, beside, code, m.each(m.beside)...)
	}
}

// TestListedNodesBeside has nodes beside each other with one parent, and with different ones.
func TestListedNodesBeside(t *testing.T) {
	for _, c := range []struct {
		text string
		want []int64
	}{
		{"()", []int64{-1}}, {"(())", []int64{-1, -1}}, {"(()())", []int64{-1, 2, -1}}, {"(()(()))", []int64{-1, 2, -1, -1}}, {"((())())", []int64{-1, 3, -1, -1}},
		{"((())(()))", []int64{-1, 3, 4, -1, -1}}, {"((()())()(()))", []int64{-1, 4, 3, 6, 5, -1, -1}}, {"(((()))()((())))", []int64{-1, 4, 6, 7, 5, -1, -1, -1}},
		{pathText(24), slices.Repeat([]int64{-1}, 24)}, {starText(24), slices.Concat([]int64{-1}, countedTo(2, 23), []int64{-1})},
	} {
		beside, code := impl.BesideOf(parsed(c.text))
		wantList(t, "BesideOf "+c.text, beside, code, c.want...)
	}
}

func TestHeavyNodes(t *testing.T) {
	for _, text := range append(manyTexts(), drawnTexts()...) {
		m := modelOf(text)
		heavy, code := impl.HeavyChildren(m.tree())
		wantList(t, "HeavyChildren "+text, heavy, code, m.each(m.heavy)...)
		paths, code := impl.HeavyPaths(m.tree())
		wantPairs(t, "HeavyPaths "+text, paths, code, m.heavyPaths())
	}
}

// TestListedHeavyPaths has trees in which several subtrees have the greatest size, and paths of one node.
func TestListedHeavyPaths(t *testing.T) {
	var light [][]int64
	for v := int64(2); v < impl.MaxNodes; v++ {
		light = append(light, []int64{v})
	}
	for _, c := range []struct {
		text  string
		heavy []int64
		paths [][]int64
	}{
		{"()", []int64{-1}, [][]int64{{0}}},
		{"(())", []int64{1, -1}, [][]int64{{0, 1}}},
		{"(()())", []int64{1, -1, -1}, [][]int64{{0, 1}, {2}}},
		{"(()(()))", []int64{2, -1, 3, -1}, [][]int64{{0, 2, 3}, {1}}},
		{"(()(())(()))", []int64{2, -1, 3, -1, 5, -1}, [][]int64{{0, 2, 3}, {1}, {4, 5}}},
		{"((())(()())((())))", []int64{3, 2, -1, 4, -1, -1, 7, 8, -1}, [][]int64{{0, 3, 4}, {1, 2}, {5}, {6, 7, 8}}},
		{"((()())()(()(())))", []int64{5, 2, -1, -1, -1, 7, -1, 8, -1}, [][]int64{{0, 5, 7, 8}, {1, 2}, {3}, {4}, {6}}},
		{"((()()()())(((()))))", []int64{1, 2, -1, -1, -1, -1, 7, 8, 9, -1}, [][]int64{{0, 1, 2}, {3}, {4}, {5}, {6, 7, 8, 9}}},
		{pathText(24), append(countedTo(1, 23), -1), [][]int64{countedTo(0, 23)}},
		{starText(24), append([]int64{1}, slices.Repeat([]int64{-1}, 23)...), slices.Concat([][]int64{{0, 1}}, light)},
	} {
		heavy, code := impl.HeavyChildren(parsed(c.text))
		wantList(t, "HeavyChildren "+c.text, heavy, code, c.heavy...)
		paths, code := impl.HeavyPaths(parsed(c.text))
		wantPairs(t, "HeavyPaths "+c.text, paths, code, c.paths)
	}
}

func TestLightSteps(t *testing.T) {
	for _, text := range slices.Concat(manyTexts(), distantTexts(), wideTexts(), fullTexts()) {
		m := modelOf(text)
		for v := range m.count() {
			steps, code := impl.LightSteps(m.tree(), v)
			wantNumber(t, fmt.Sprint("LightSteps ", text, " ", v), steps, code, m.light(v))
		}
	}
}

func TestListedLightSteps(t *testing.T) {
	deep := fullTexts()[2]
	for _, c := range []struct {
		text    string
		v, want int64
	}{
		{"()", 0, 0}, {"(())", 1, 0}, {"(()())", 0, 0}, {"(()())", 1, 0}, {"(()())", 2, 1}, {"(()(()))", 1, 1}, {"(()(()))", 2, 0}, {"(()(()))", 3, 0},
		{"((()())(()()))", 1, 0}, {"((()())(()()))", 2, 0}, {"((()())(()()))", 3, 1}, {"((()())(()()))", 4, 1}, {"((()())(()()))", 5, 1}, {"((()())(()()))", 6, 2},
		{fullText(3), 14, 3}, {fullText(3), 13, 2}, {fullText(3), 12, 2}, {fullText(3), 3, 0}, {fullText(3), 4, 1}, {fullText(3), 7, 2}, {deep, 8, 0}, {deep, 23, 3}, {deep, 9, 0},
		{pathText(24), 0, 0}, {pathText(24), 23, 0}, {starText(24), 0, 0}, {starText(24), 1, 0}, {starText(24), 2, 1}, {starText(24), 23, 1},
	} {
		steps, code := impl.LightSteps(parsed(c.text), c.v)
		wantNumber(t, fmt.Sprint("LightSteps ", c.text, " ", c.v), steps, code, c.want)
	}
}

func TestPictureOf(t *testing.T) {
	for _, text := range drawnTexts() {
		picture, code := impl.PictureOf(parsed(text))
		wantText(t, "PictureOf "+text, picture, code, modelOf(text).picture())
	}
}

// TestListedPictures has pictures of one row, rows with one node and with many, and rows that end in a point.
func TestListedPictures(t *testing.T) {
	points := strings.Repeat(".", 22)
	for _, c := range []struct{ text, want string }{
		{"()", "o"}, {"(())", "o/o"}, {"(()())", ".o./o.o"}, {"(()(()))", ".o./o.o/..o"}, {"((())())", ".o./o.o/o.."}, {"(()()())", "..o../o.o.o"},
		{"(()()()())", "...o.../o.o.o.o"}, {"((())(()()))", ".o.../o..o./o.o.o"}, {"(()(()()()()))", "..o..../.o.o.../o.o.o.o"}, {"((()()()())())", "....o../...o.o./o.o.o.o"},
		{"(()((()())))", ".o../o.o./..o./.o.o"}, {"(((()))())", ".o./o.o/o../o.."},
		{pathText(24), "o" + strings.Repeat("/o", 23)}, {starText(24), points + "o" + points + "/o" + strings.Repeat(".o", 22)},
	} {
		picture, code := impl.PictureOf(parsed(c.text))
		wantText(t, "PictureOf "+c.text, picture, code, c.want)
	}
}
