package tests

import (
	"fmt"
	"math"
	"slices"
	"testing"

	"loop.example/g01391/impl"
)

// ofTwoTrees has each function of two trees.
var ofTwoTrees = map[string]func(t, u impl.Tree) (any, int64){
	"EditDistance":          func(t, u impl.Tree) (any, int64) { return pair(impl.EditDistance(t, u)) },
	"NodesInCommon":         func(t, u impl.Tree) (any, int64) { return pair(impl.NodesInCommon(t, u)) },
	"DoAgree":               func(t, u impl.Tree) (any, int64) { return pair(impl.DoAgree(t, u, [][]int64{{0, 0}})) },
	"DoAgree, no pairs":     func(t, u impl.Tree) (any, int64) { return pair(impl.DoAgree(t, u, nil)) },
	"DoAgree, bad pairs":    func(t, u impl.Tree) (any, int64) { return pair(impl.DoAgree(t, u, [][]int64{{-1}, {99, 99}})) },
	"DoAgree, no such node": func(t, u impl.Tree) (any, int64) { return pair(impl.DoAgree(t, u, [][]int64{{24, 24}})) },
	"DoAgree, many pairs":   func(t, u impl.Tree) (any, int64) { return pair(impl.DoAgree(t, u, make([][]int64, 25))) },
	"CommonPairs":           func(t, u impl.Tree) (any, int64) { return pair(impl.CommonPairs(t, u)) },
	"CanTakeOut":            func(t, u impl.Tree) (any, int64) { return pair(impl.CanTakeOut(t, u)) },
	"LeafDistance":          func(t, u impl.Tree) (any, int64) { return pair(impl.LeafDistance(t, u)) },
	"EditWay":               func(t, u impl.Tree) (any, int64) { return pair(impl.EditWay(t, u)) },
	"MeetAgain":             func(t, u impl.Tree) (any, int64) { return pair(impl.MeetAgain(t, u, systemOf("(a)>a"))) },
	"MeetAgain by no rules": func(t, u impl.Tree) (any, int64) { return pair(impl.MeetAgain(t, u, nil)) },
}

func wantPairs(t *testing.T, what string, got [][]int64, code int64, want [][]int64) {
	t.Helper()
	if fmt.Sprint(got) != fmt.Sprint(want) || code != impl.ErrNone {
		t.Errorf("%s = %v, code %d; want %v, code 0", what, got, code, want)
	}
}

func TestLimitsOfEdits(t *testing.T) {
	if impl.MaxWayNodes != 7 {
		t.Errorf("MaxWayNodes = %d", impl.MaxWayNodes)
	}
}

func TestTakeOut(t *testing.T) {
	for _, text := range append(manyTexts(), distantTexts()...) {
		m := modelOf(text)
		y, code := impl.TakeOut(m.tree(), 0)
		wantCode(t, "TakeOut the root of "+text, y, code, impl.ErrState)
		for v := int64(1); v < m.count(); v++ {
			y, code := impl.TakeOut(m.tree(), v)
			wantTree(t, fmt.Sprint("TakeOut ", text, " ", v), y, code, m.withoutPair(v))
		}
	}
}

func TestListedTakingsOut(t *testing.T) {
	for _, c := range []struct {
		text string
		v    int64
		want string
	}{
		{"(())", 1, "()"}, {"((()))", 1, "(())"}, {"((()))", 2, "(())"}, {"((()())())", 1, "(()()())"}, {"(()(()())())", 2, "(()()()())"},
		{"((()())())", 4, "((()()))"}, {"((()())())", 2, "((())())"}, {"((()((())())))", 3, "((()(())()))"}, {"((()((())())))", 1, "(()((())()))"},
		{pathText(24), 23, pathText(23)}, {pathText(24), 1, pathText(23)}, {starText(24), 1, starText(23)}, {"(" + starText(23) + ")", 1, starText(23)},
	} {
		y, code := impl.TakeOut(parsed(c.text), c.v)
		wantTree(t, fmt.Sprint("TakeOut ", c.text, " ", c.v), y, code, c.want)
	}
}

// checkPutIn holds PutIn of a tree against the model, with all places and numbers of children that there
// are, and some that there are not.
func checkPutIn(t *testing.T, m model, v int64) {
	t.Helper()
	degree := int64(len(m.children(v)))
	for place := int64(-2); place <= degree+2; place++ {
		for children := int64(-2); children <= degree+2; children++ {
			y, code := impl.PutIn(m.tree(), v, place, children)
			what := fmt.Sprint("PutIn ", m.text, " ", v, " ", place, " ", children)
			switch {
			case place < 0 || children < 0 || place+children > degree:
				wantCode(t, what, y, code, impl.ErrRange)
			case m.count() == impl.MaxNodes:
				wantCode(t, what, y, code, impl.ErrLimit)
			default:
				wantTree(t, what, y, code, m.withPair(v, place, children))
			}
		}
	}
}

func TestPutIn(t *testing.T) {
	for _, text := range append(manyTexts(), distantTexts()...) {
		m := modelOf(text)
		for v := range m.count() {
			checkPutIn(t, m, v)
		}
	}
}

func TestListedPuttingsIn(t *testing.T) {
	for _, c := range []struct {
		text    string
		v, i, k int64
		want    string
	}{
		{"()", 0, 0, 0, "(())"}, {"(())", 0, 0, 0, "(()())"}, {"(())", 0, 1, 0, "(()())"}, {"(())", 0, 0, 1, "((()))"}, {"(())", 1, 0, 0, "((()))"},
		{"(()(())())", 0, 0, 0, "(()()(())())"}, {"(()(())())", 0, 2, 0, "(()(())()())"}, {"(()(())())", 0, 3, 0, "(()(())()())"}, {"(()(())())", 0, 0, 3, "((()(())()))"},
		{"(()(())())", 0, 1, 1, "(()((()))())"}, {"(()(())())", 0, 1, 2, "(()((())()))"}, {"(()(())())", 0, 0, 2, "((()(()))())"}, {"(()(())())", 2, 1, 0, "(()(()())())"},
		{"(()(())())", 2, 0, 1, "(()((()))())"}, {"(()(())())", 4, 0, 0, "(()(())(()))"}, {starText(23), 0, 0, 22, "(" + starText(23) + ")"},
		{starText(23), 0, 22, 0, starText(24)}, {pathText(23), 22, 0, 0, pathText(24)}, {pathText(23), 0, 0, 1, pathText(24)}, {starText(23), 0, 21, 1, starText(22)[:43] + "(()))"},
	} {
		y, code := impl.PutIn(parsed(c.text), c.v, c.i, c.k)
		wantTree(t, fmt.Sprint("PutIn ", c.text, " ", c.v, " ", c.i, " ", c.k), y, code, c.want)
	}
}

// TestPutInRefuses checks great and negative numbers, whose sums and differences overflow, and the order of
// the codes.
func TestPutInRefuses(t *testing.T) {
	numbers := []int64{math.MinInt64, math.MinInt64 + 1, math.MinInt64 + 2, -1 << 32, -3, -1, 3, 4, 24, 1 << 32, math.MaxInt64 - 1, math.MaxInt64}
	for _, text := range []string{"(()())", "((()()))", starText(23), starText(24), pathText(24)} {
		x := parsed(text)
		for _, number := range numbers {
			number = oneNumber(number, text)
			for _, other := range append(numbers, 0, 1, 2) {
				for v := range int64(2) {
					y, code := impl.PutIn(x, v, number, other)
					wantCode(t, fmt.Sprint("PutIn ", text, " ", v, " ", number, " ", other), y, code, impl.ErrRange)
					y, code = impl.PutIn(x, v, other, number)
					wantCode(t, fmt.Sprint("PutIn ", text, " ", v, " ", other, " ", number), y, code, impl.ErrRange)
				}
				for _, v := range badNodes(int64(len(x.Degrees))) {
					y, code := impl.PutIn(x, v, number, other)
					wantCode(t, fmt.Sprint("PutIn ", text, " ", v, " ", number, " ", other), y, code, impl.ErrRange)
					y, code = impl.PutIn(x, v, 0, 0)
					wantCode(t, fmt.Sprint("PutIn ", text, " ", v, " 0 0"), y, code, impl.ErrRange)
				}
			}
		}
	}
	for _, bad := range badTrees() {
		for _, number := range append(numbers, 0) {
			y, code := impl.PutIn(bad, number, number, number)
			wantCode(t, fmt.Sprint("PutIn ", bad, " ", number), y, code, impl.ErrInvalid)
			y, code = impl.TakeOut(bad, number)
			wantCode(t, fmt.Sprint("TakeOut ", bad, " ", number), y, code, impl.ErrInvalid)
		}
	}
}

// oneNumber returns a number that is no place in a tree, and no number of children: small ones are made
// greater.
func oneNumber(number int64, text string) int64 {
	if number > 0 && number < int64(len(text)) {
		return number + int64(len(text))
	}
	return number
}

func TestByTakingOut(t *testing.T) {
	for _, text := range append(manyTexts(), distantTexts()...) {
		list, code := impl.ByTakingOut(parsed(text))
		wantTrees(t, "ByTakingOut "+text, list, code, withOneLess(text))
	}
}

func TestByPuttingIn(t *testing.T) {
	for _, text := range append(manyTexts(), distantTexts()...) {
		list, code := impl.ByPuttingIn(parsed(text))
		if len(text) == 2*impl.MaxNodes {
			wantCode(t, "ByPuttingIn "+text, list, code, impl.ErrLimit)
		} else {
			wantTrees(t, "ByPuttingIn "+text, list, code, withOneMore(text))
		}
	}
}

// TestByPuttingInGoesBack tells of the trees that come by putting in only by what comes by taking out.
func TestByPuttingInGoesBack(t *testing.T) {
	for n := 1; n <= 6; n++ {
		more := map[string][]string{}
		for _, text := range treeTexts(n + 1) {
			for _, less := range withOneLess(text) {
				more[less] = append(more[less], text)
			}
		}
		for _, text := range treeTexts(n) {
			list, code := impl.ByPuttingIn(parsed(text))
			wantTrees(t, "ByPuttingIn "+text, list, code, inOrderOfTrees(more[text]))
		}
	}
}

func TestListedNeighbours(t *testing.T) {
	for _, c := range []struct {
		text       string
		less, more []string
	}{
		{"()", nil, []string{"(())"}}, {"(())", []string{"()"}, []string{"((()))", "(()())"}}, {"((()))", []string{"(())"}, []string{"(((())))", "((()()))", "(()(()))", "((())())"}},
		{"(()())", []string{"(())"}, []string{"((()()))", "(()(()))", "((())())", "(()()())"}}, {"((())())", []string{"((()))", "(()())"}, nil},
		{"(()(()))", []string{"((()))", "(()())"}, nil}, {pathText(24), []string{pathText(23)}, nil}, {starText(24), []string{starText(23)}, nil},
	} {
		less, code := impl.ByTakingOut(parsed(c.text))
		wantTrees(t, "ByTakingOut "+c.text, less, code, c.less)
		if c.more != nil {
			more, code := impl.ByPuttingIn(parsed(c.text))
			wantTrees(t, "ByPuttingIn "+c.text, more, code, c.more)
		}
	}
	more, code := impl.ByPuttingIn(parsed(starText(23)))
	if len(more) != 1+22+22*21/2 || code != impl.ErrNone {
		t.Errorf("ByPuttingIn of a star has %d trees, code %d", len(more), code)
	}
}

// TestDistances holds distances of all trees of at most seven nodes against those that a search by edits
// finds, where one node more can be put in on the way.
func TestDistances(t *testing.T) {
	edits, leaves := editGraphOf(impl.MaxWayNodes+1, isAnyNode), editGraphOf(impl.MaxWayNodes+1, isLeafNode)
	texts := treesUpTo(impl.MaxWayNodes)
	for _, text := range texts {
		steps, leafSteps, left := edits.stepsFrom(text), leaves.stepsFrom(text), leftByTakingOut(text)
		for _, other := range texts {
			x, y := parsed(text), parsed(other)
			what := text + " " + other
			distance, code := impl.EditDistance(x, y)
			wantNumber(t, "EditDistance "+what, distance, code, steps[other])
			common, code := impl.NodesInCommon(x, y)
			wantNumber(t, "NodesInCommon "+what, common, code, (int64(len(what)-1)/2-steps[other])/2)
			distance, code = impl.LeafDistance(x, y)
			wantNumber(t, "LeafDistance "+what, distance, code, leafSteps[other])
			yes, code := impl.CanTakeOut(x, y)
			wantAnswer(t, "CanTakeOut "+what, yes, code, left[other])
		}
	}
}

// checkByTexts holds what is told of two trees of any size against the model of texts.
func checkByTexts(t *testing.T, text, other string) {
	t.Helper()
	x, y := parsed(text), parsed(other)
	what := text + " " + other
	n, m := int64(len(x.Degrees)), int64(len(y.Degrees))
	most := commonByTexts(text, other, false)
	common, code := impl.NodesInCommon(x, y)
	wantNumber(t, "NodesInCommon "+what, common, code, most)
	distance, code := impl.EditDistance(x, y)
	wantNumber(t, "EditDistance "+what, distance, code, n+m-2*most)
	distance, code = impl.LeafDistance(x, y)
	wantNumber(t, "LeafDistance "+what, distance, code, n+m-2*commonByTexts(text, other, true))
	yes, code := impl.CanTakeOut(x, y)
	wantAnswer(t, "CanTakeOut "+what, yes, code, most == m)
	pairs, code := impl.CommonPairs(x, y)
	wantPairs(t, "CommonPairs "+what, pairs, code, commonPairsByTexts(text, other))
}

func TestDistancesOfLargeTrees(t *testing.T) {
	for _, text := range distantTexts() {
		for _, other := range distantTexts() {
			checkByTexts(t, text, other)
		}
	}
}

func TestListedDistances(t *testing.T) {
	for _, c := range []struct {
		text, other      string
		edits, leafEdits int64
	}{
		{"()", "()", 0, 0}, {"()", "(())", 1, 1}, {"((()))", "(()())", 2, 2}, {"((())())", "(()(()))", 2, 2}, {"((()())())", "(()()())", 1, 3},
		{"((()()))", "(()())", 1, 3}, {"(((()())))", "(()())", 2, 4}, {"((((()()()))))", "(()()())", 3, 7}, {"(()(()()))", "((()())())", 2, 2}, {"(()()(()()))", "((()())()())", 2, 4},
		{"()", pathText(24), 23, 23}, {starText(24), "()", 23, 23}, {pathText(24), starText(24), 44, 44}, {starText(24), pathText(24), 44, 44},
		{pathText(24), pathText(23), 1, 1}, {starText(24), starText(12), 12, 12}, {pathText(24), pathText(24), 0, 0}, {starText(24), starText(24), 0, 0},
		{"(" + starText(23) + ")", starText(23), 1, 43}, {starText(23), "(" + starText(23) + ")", 1, 43}, {"(" + pathText(12) + pathText(11) + ")", pathText(13), 11, 11},
		{combText(23, true), combText(23, false), 20, 20}, {combText(23, true), pathText(12), 11, 11}, {combText(23, false), starText(12), 11, 29},
	} {
		distance, code := impl.EditDistance(parsed(c.text), parsed(c.other))
		wantNumber(t, "EditDistance "+c.text+" "+c.other, distance, code, c.edits)
		distance, code = impl.LeafDistance(parsed(c.text), parsed(c.other))
		wantNumber(t, "LeafDistance "+c.text+" "+c.other, distance, code, c.leafEdits)
	}
}

// TestCanTakeOutOfLargeTrees takes nodes out of large trees, and then changes what is left by a node.
func TestCanTakeOutOfLargeTrees(t *testing.T) {
	found := map[bool]int{}
	for i, text := range distantTexts() {
		draw := draws(uint64(i))
		for range 12 {
			left := text
			for range draw(int64(len(text) / 2)) {
				m := modelOf(left)
				left = m.withoutPair(1 + draw(m.count()-1))
			}
			yes, code := impl.CanTakeOut(parsed(text), parsed(left))
			wantAnswer(t, "CanTakeOut "+text+" "+left, yes, code, true)
			if len(left) == 2 || len(left) == 2*impl.MaxNodes {
				continue
			}
			m := modelOf(left)
			less := m.withoutPair(1 + draw(m.count()-1))
			all := append(withOneMore(less), withOneMore(left)...)
			for range 4 {
				near := all[draw(int64(len(all)))]
				want := commonByTexts(text, near, false) == int64(len(near)/2)
				yes, code := impl.CanTakeOut(parsed(text), parsed(near))
				wantAnswer(t, "CanTakeOut "+text+" "+near, yes, code, want)
				found[want]++
			}
		}
	}
	if found[true] < 100 || found[false] < 100 {
		t.Errorf("trees were left, or nearly so: %v", found)
	}
}

// TestCanTakeOutAsInside checks that a tree is left exactly if it is inside by some list of nodes.
func TestCanTakeOutAsInside(t *testing.T) {
	for _, text := range append(treesUpTo(6), someText(12, 2), someText(12, 11), starText(12), pathText(12), combText(11, true)) {
		for _, other := range append(treesUpTo(5), starText(7), pathText(7), text) {
			count, code := impl.CountInside(parsed(other), parsed(text))
			yes, codeOfYes := impl.CanTakeOut(parsed(text), parsed(other))
			if yes != (count > 0) || code != impl.ErrNone || codeOfYes != impl.ErrNone {
				t.Errorf("CanTakeOut %s %s = %v, %d, but CountInside %d, %d", text, other, yes, codeOfYes, count, code)
			}
		}
	}
}

// pairsOf returns all pairs of a node of a tree of n nodes and one of a tree of m nodes.
func pairsOf(n, m int64) [][]int64 {
	var pairs [][]int64
	for v := range n {
		for w := range m {
			pairs = append(pairs, []int64{v, w})
		}
	}
	return pairs
}

func checkAgree(t *testing.T, m, o model, pairs [][]int64) {
	t.Helper()
	yes, code := impl.DoAgree(m.tree(), o.tree(), pairs)
	wantAnswer(t, fmt.Sprint("DoAgree ", m.text, " ", o.text, " ", pairs), yes, code, doAgreeByBrackets(m, o, pairs))
}

// TestDoAgree holds all lists of at most two pairs of small trees, and of three pairs of smaller ones,
// against the model.
func TestDoAgree(t *testing.T) {
	for _, text := range treesUpTo(5) {
		for _, other := range treesUpTo(5) {
			m, o := modelOf(text), modelOf(other)
			all := pairsOf(m.count(), o.count())
			checkAgree(t, m, o, nil)
			for _, p := range all {
				checkAgree(t, m, o, [][]int64{p})
				for _, q := range all {
					checkAgree(t, m, o, [][]int64{p, q})
					for i := 0; i < len(all) && len(all) <= 9; i++ {
						checkAgree(t, m, o, [][]int64{p, q, all[i]})
					}
				}
			}
		}
	}
}

// TestSetsThatAgree asks for all sets that agree, in other orders, and with one pair changed.
func TestSetsThatAgree(t *testing.T) {
	for _, text := range []string{"((())())", "(()(()))", "((()())())", "(()((())))", starText(5), pathText(5)} {
		for _, other := range []string{"(()(()))", "((()()))", "((()())())", pathText(4), starText(5)} {
			m, o := modelOf(text), modelOf(other)
			for i, set := range agreeingSets(m, o) {
				checkAgree(t, m, o, set)
				turned := slices.Clone(set)
				slices.Reverse(turned)
				checkAgree(t, m, o, turned)
				if len(set) == 0 {
					continue
				}
				at := i % len(set)
				checkAgree(t, m, o, slices.Concat(set[at:], set[:at]))
				for _, p := range pairsOf(m.count(), o.count()) {
					checkAgree(t, m, o, slices.Concat(set[:at], [][]int64{p}, set[at+1:]))
					checkAgree(t, m, o, append(slices.Clone(set), p))
				}
			}
		}
	}
}

// itself returns the pairs of each of n nodes with itself.
func itself(n int64) [][]int64 {
	var pairs [][]int64
	for v := range n {
		pairs = append(pairs, []int64{v, v})
	}
	return pairs
}

func TestDoAgreeOfLargeTrees(t *testing.T) {
	for _, text := range largeTexts() {
		m := modelOf(text)
		all := itself(impl.MaxNodes)
		checkAgree(t, m, m, all)
		yes, code := impl.DoAgree(m.tree(), m.tree(), all)
		wantAnswer(t, "DoAgree with itself "+text, yes, code, true)
		for i := range all {
			for _, p := range [][]int64{all[(i+1)%len(all)], {all[i][0], all[(i+5)%len(all)][1]}, {all[(i+7)%len(all)][0], all[i][1]}} {
				checkAgree(t, m, m, slices.Concat(all[:i], [][]int64{p}, all[i+1:]))
			}
		}
		for _, other := range largeTexts() {
			o := modelOf(other)
			checkAgree(t, m, o, all)
			common := commonPairsByTexts(text, other)
			checkAgree(t, m, o, common)
			for i := range common {
				for _, w := range []int64{0, common[i][1] - 1, common[i][1] + 1, 23} {
					p := []int64{common[i][0], min(max(w, 0), 23)}
					checkAgree(t, m, o, slices.Concat(common[:i], [][]int64{p}, common[i+1:]))
				}
			}
		}
	}
}

func TestListedAgreements(t *testing.T) {
	x, y := parsed("((())())"), parsed("(()(()))")
	for _, c := range []struct {
		pairs [][]int64
		want  bool
	}{
		{nil, true}, {[][]int64{}, true}, {[][]int64{{3, 2}}, true}, {[][]int64{{0, 0}, {1, 1}, {3, 2}}, true}, {[][]int64{{3, 2}, {0, 0}, {1, 1}}, true},
		{[][]int64{{0, 0}, {1, 2}, {2, 3}}, true}, {[][]int64{{1, 1}, {2, 2}}, false}, {[][]int64{{1, 2}, {3, 3}}, false}, {[][]int64{{2, 2}, {3, 1}}, false},
		{[][]int64{{0, 0}, {0, 0}}, false}, {[][]int64{{2, 1}, {2, 1}}, false}, {[][]int64{{1, 1}, {1, 2}}, false}, {[][]int64{{1, 1}, {2, 1}}, false},
		{[][]int64{{0, 2}, {1, 3}}, true}, {[][]int64{{0, 3}, {1, 2}}, false}, {[][]int64{{1, 0}, {0, 1}}, false}, {[][]int64{{0, 0}, {1, 1}, {3, 2}, {0, 0}}, false},
	} {
		yes, code := impl.DoAgree(x, y, c.pairs)
		wantAnswer(t, fmt.Sprint("DoAgree ", c.pairs), yes, code, c.want)
	}
}

func TestDoAgreeRefuses(t *testing.T) {
	small, large := parsed("(()())"), parsed(someText(impl.MaxNodes, 3))
	twice := slices.Repeat([][]int64{{0, 0}}, impl.MaxNodes)
	yes, code := impl.DoAgree(small, small, twice)
	wantAnswer(t, "DoAgree of MaxNodes pairs", yes, code, false)
	for _, pairs := range [][][]int64{
		append(slices.Clone(twice), []int64{0, 0}), append(itself(impl.MaxNodes), []int64{0, 0}), itself(impl.MaxNodes + 1), itself(300), make([][]int64, 1<<16),
		{{}}, {nil}, {{0}}, {{0, 0, 0}}, {{0, 0}, {1}}, {{0, 0}, {1, 1, 1}}, {{0, 0}, {}, {1, 1}}, {{0, 0}, {0, 0}, {0}}, {{0, 0, 0}, {1, 1}}, {make([]int64, 300)},
	} {
		yes, code := impl.DoAgree(large, large, pairs)
		wantCode(t, fmt.Sprintf("DoAgree of %d pairs, %.60s", len(pairs), fmt.Sprint(pairs)), yes, code, impl.ErrRange)
	}
	for _, x := range []impl.Tree{small, large} {
		n, m := int64(len(x.Degrees)), int64(len(small.Degrees))
		for _, bad := range badNodes(n) {
			for _, pairs := range [][][]int64{{{bad, 0}}, {{0, 0}, {bad, 1}}, {{bad, bad}}, {{1, 1}, {1, 1}, {bad, 0}}, {{bad, 0}, {0}}} {
				yes, code := impl.DoAgree(x, small, pairs)
				wantCode(t, fmt.Sprint("DoAgree ", x, small, pairs), yes, code, impl.ErrRange)
			}
		}
		for _, bad := range badNodes(m) {
			for _, pairs := range [][][]int64{{{0, bad}}, {{0, 0}, {1, bad}}, {{bad, bad}}, {{1, 1}, {1, 1}, {0, bad}}, {{0, 0}, {0, 0}, {0, bad}}} {
				yes, code := impl.DoAgree(x, small, pairs)
				wantCode(t, fmt.Sprint("DoAgree ", x, small, pairs), yes, code, impl.ErrRange)
			}
		}
	}
	last, code := impl.DoAgree(large, small, [][]int64{{23, 2}})
	wantAnswer(t, "DoAgree of the last nodes", last, code, true)
	last, code = impl.DoAgree(small, large, [][]int64{{2, 23}})
	wantAnswer(t, "DoAgree of the last nodes", last, code, true)
}

// TestCommonPairs holds the pairs of small trees against those that are found among all sets that agree.
func TestCommonPairs(t *testing.T) {
	for _, text := range treesUpTo(5) {
		for _, other := range treesUpTo(5) {
			pairs, code := impl.CommonPairs(parsed(text), parsed(other))
			wantPairs(t, "CommonPairs "+text+" "+other, pairs, code, commonPairsBySets(text, other))
		}
	}
	for i, text := range treesUpTo(7) {
		for j, other := range treesUpTo(7) {
			pairs, code := impl.CommonPairs(parsed(text), parsed(other))
			wantPairs(t, "CommonPairs "+text+" "+other, pairs, code, commonPairsByTexts(text, other))
			if (i*197+j)%331 == 0 {
				wantPairs(t, "CommonPairs "+text+" "+other, pairs, code, commonPairsBySets(text, other))
			}
		}
	}
}

// TestListedCommonPairs has trees of which several sets have the most pairs.
func TestListedCommonPairs(t *testing.T) {
	for _, c := range []struct {
		text, other string
		want        [][]int64
	}{
		{"()", "()", [][]int64{{0, 0}}}, {"()", "((())())", [][]int64{{0, 0}}}, {"((())())", "()", [][]int64{{0, 0}}}, {"((()))", "(()())", [][]int64{{0, 0}, {1, 2}}},
		{"(()())", "((()))", [][]int64{{0, 0}, {2, 1}}}, {"(())", "(()()())", [][]int64{{0, 0}, {1, 3}}}, {"(()()())", "(())", [][]int64{{0, 0}, {3, 1}}},
		{"((((()))))", "((()))", [][]int64{{0, 0}, {1, 1}, {2, 2}}}, {"((()))", "((((()))))", [][]int64{{0, 0}, {1, 1}, {2, 2}}},
		{"((())())", "(()(()))", [][]int64{{0, 0}, {1, 1}, {3, 2}}}, {"(()(()))", "((())())", [][]int64{{0, 0}, {1, 1}, {2, 3}}},
		{pathText(24), starText(24), [][]int64{{0, 0}, {1, 23}}}, {starText(24), pathText(24), [][]int64{{0, 0}, {23, 1}}}, {starText(24), starText(24), itself(24)},
		{starText(24), starText(3), [][]int64{{0, 0}, {22, 1}, {23, 2}}}, {"(" + starText(23) + ")", starText(3), [][]int64{{0, 0}, {22, 1}, {23, 2}}},
	} {
		pairs, code := impl.CommonPairs(parsed(c.text), parsed(c.other))
		wantPairs(t, "CommonPairs "+c.text+" "+c.other, pairs, code, c.want)
	}
}

// TestEditWay holds the ways between all trees of at most five nodes, and some of more, against those that
// a search by edits finds.
func TestEditWay(t *testing.T) {
	edits := editGraphOf(impl.MaxWayNodes+1, isAnyNode)
	check := func(text, other string, steps map[string]int64) {
		t.Helper()
		way, code := impl.EditWay(parsed(text), parsed(other))
		wantTrees(t, "EditWay "+text+" "+other, way, code, edits.way(text, steps))
	}
	for _, other := range append(treesUpTo(5), pathsAndStars()...) {
		steps := edits.stepsFrom(other)
		for _, text := range append(treesUpTo(5), pathsAndStars()...) {
			check(text, other, steps)
		}
	}
	texts := treesUpTo(impl.MaxWayNodes)
	for i, other := range texts {
		steps := edits.stepsFrom(other)
		for j := i * 5 % 19; j < len(texts); j += 19 {
			check(texts[j], other, steps)
		}
	}
}

func TestListedWaysOfEdits(t *testing.T) {
	for _, c := range []struct {
		text, other string
		want        []string
	}{
		{"()", "()", []string{"()"}}, {pathText(7), pathText(7), []string{pathText(7)}}, {"()", "(())", []string{"()", "(())"}}, {"(())", "()", []string{"(())", "()"}},
		{"((()))", "(()())", []string{"((()))", "(())", "(()())"}}, {"((())())", "(()(()))", []string{"((())())", "((()))", "(()(()))"}},
		{"()", starText(4), []string{"()", "(())", "(()())", "(()()())"}}, {starText(7), "(())", []string{starText(7), starText(6), starText(5), starText(4), "(()())", "(())"}},
		{pathText(4), starText(4), []string{pathText(4), "((()))", "(())", "(()())", "(()()())"}}, {"()", "((())())", []string{"()", "(())", "((()))", "((())())"}},
	} {
		way, code := impl.EditWay(parsed(c.text), parsed(c.other))
		wantTrees(t, "EditWay "+c.text+" "+c.other, way, code, c.want)
	}
}

func TestEditWayLimits(t *testing.T) {
	small := parsedAll([]string{"()", "(()(()))", pathText(impl.MaxWayNodes), starText(impl.MaxWayNodes)})
	for n := impl.MaxWayNodes + 1; n <= impl.MaxNodes; n++ {
		for _, large := range parsedAll([]string{pathText(n), starText(n), someText(n, 3)}) {
			for _, x := range append(small, large) {
				way, code := impl.EditWay(x, large)
				wantCode(t, fmt.Sprint("EditWay ", x, large), way, code, impl.ErrLimit)
				way, code = impl.EditWay(large, x)
				wantCode(t, fmt.Sprint("EditWay ", large, x), way, code, impl.ErrLimit)
			}
		}
	}
	way, code := impl.EditWay(small[2], small[3])
	if len(way) != 11 || code != impl.ErrNone {
		t.Errorf("EditWay from a path to a star = %v, %d", way, code)
	}
}

func TestTwoTreesRefuse(t *testing.T) {
	for _, bad := range badTrees() {
		for name, f := range ofTwoTrees {
			for _, good := range parsedAll([]string{"()", "(()(()))", pathText(8), starText(impl.MaxNodes)}) {
				got, code := f(bad, good)
				wantCode(t, fmt.Sprint(name, ", first ", bad), got, code, impl.ErrInvalid)
				got, code = f(good, bad)
				wantCode(t, fmt.Sprint(name, ", second ", bad), got, code, impl.ErrInvalid)
			}
			got, code := f(bad, bad)
			wantCode(t, fmt.Sprint(name, ", both ", bad), got, code, impl.ErrInvalid)
		}
	}
}
