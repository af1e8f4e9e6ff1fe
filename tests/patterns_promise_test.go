package tests

import (
	"fmt"
	"slices"
	"strings"
	"testing"

	"loop.example/g01391/impl"
)

// TestPromise4 checks promise 4 by the package's functions alone: patterns filled with the trees at
// their open places are the trees that they match.
func TestPromise4(t *testing.T) {
	for _, text := range manyTexts() {
		x := parsed(text)
		for _, p := range append(patternsUpTo(4), "(abcdefgh)", "((a)b)", text) {
			if !impl.IsPattern(p) {
				t.Fatalf("IsPattern %q = false", p)
			}
			nodes, code := impl.MatchedNodes(x, p)
			if code != impl.ErrNone {
				t.Fatalf("MatchedNodes %s %s: code %d", text, p, code)
			}
			for v := range int64(len(x.Degrees)) {
				checkOpened(t, x, v, p, slices.Contains(nodes, v))
			}
		}
	}
}

// checkOpened checks that a pattern filled with the open trees is the subtree, if it matches, and
// that there are no open trees otherwise.
func checkOpened(t *testing.T, x impl.Tree, v int64, p string, matched bool) {
	t.Helper()
	what := fmt.Sprint(x, " ", v, " ", p)
	yes, code := impl.MatchesAt(x, v, p)
	wantAnswer(t, "MatchesAt "+what, yes, code, matched)
	open, code := impl.OpenTrees(x, v, p)
	if !matched {
		wantCode(t, "OpenTrees "+what, open, code, impl.ErrNotFound)
		return
	}
	part, _ := impl.SubtreeAt(x, v)
	back, code := impl.FillPattern(p, open)
	wantList(t, fmt.Sprint("FillPattern ", p, " ", open), back.Degrees, code, part.Degrees...)
}

// TestFilledPatternsMatch goes the other way: the trees with which a pattern is filled stand open.
func TestFilledPatternsMatch(t *testing.T) {
	trees := parsedAll(append(treesUpTo(3), starText(5), pathText(6)))
	for _, p := range append(patternsUpTo(5), "(hgfedcba)", "(a"+pathText(15)+")") {
		for first := range trees {
			var list []impl.Tree
			for i := range len(pieceOf(p).letters()) {
				list = append(list, trees[(first+2*i)%len(trees)])
			}
			x, code := impl.FillPattern(p, list)
			if code == impl.ErrLimit {
				continue
			}
			open, code := impl.OpenTrees(x, 0, p)
			if fmt.Sprint(open) != fmt.Sprint(list) || code != impl.ErrNone {
				t.Errorf("OpenTrees %v %s = %v, %d; want %v", x, p, open, code, list)
			}
		}
	}
}

// TestCommonPatternsAreLessGeneral checks that common patterns are less general than both, and more
// general than each other pattern that is so.
func TestCommonPatternsAreLessGeneral(t *testing.T) {
	isMoreGeneral := func(p, q string) bool {
		yes, code := impl.IsMoreGeneral(p, q)
		return yes && code == impl.ErrNone
	}
	all := patternsUpTo(4)
	for _, p := range all {
		if !isMoreGeneral(p, p) || !isMoreGeneral("d", p) {
			t.Errorf("%s is less general than itself, or than a letter", p)
		}
		for _, q := range all {
			common, code := impl.CommonPattern(p, q)
			back, codeBack := impl.CommonPattern(q, p)
			if common != back || code != codeBack {
				t.Errorf("CommonPattern %s %s = %q, %d, and the other way %q, %d", p, q, common, code, back, codeBack)
			}
			for _, other := range append(all, common) {
				both := impl.IsPattern(other) && isMoreGeneral(p, other) && isMoreGeneral(q, other)
				if both != (code == impl.ErrNone && isMoreGeneral(common, other)) {
					t.Errorf("CommonPattern %s %s = %q, %d, with %s less general than both: %v", p, q, common, code, other, both)
				}
			}
		}
	}
}

func TestTreesAreInsideThemselves(t *testing.T) {
	for _, text := range append(manyTexts(), pathText(12), starText(12), someText(12, 3)) {
		x := parsed(text)
		all := modelOf(text).each(func(v int64) int64 { return v })
		yes, code := impl.IsInsideBy(x, x, all)
		wantAnswer(t, "IsInsideBy "+text, yes, code, true)
		first, code := impl.FirstInside(x, x)
		count, codeOfCount := impl.CountInside(x, x)
		if len(all) > impl.MaxInside {
			wantCode(t, "FirstInside "+text, first, code, impl.ErrLimit)
			wantCode(t, "CountInside "+text, count, codeOfCount, impl.ErrLimit)
			continue
		}
		wantList(t, "FirstInside "+text, first, code, all...)
		wantNumber(t, "CountInside "+text, count, codeOfCount, 1)
	}
}

// TestFoundListsAreInside checks that the first list found is one by which the tree is inside.
func TestFoundListsAreInside(t *testing.T) {
	for _, u := range parsedAll(append(treesUpTo(5), someText(12, 6), someText(12, 7))) {
		for _, x := range parsedAll(treesUpTo(5)) {
			count, _ := impl.CountInside(x, u)
			list, code := impl.FirstInside(x, u)
			if (count == 0) != (code == impl.ErrNotFound) {
				t.Errorf("CountInside %v %v = %d, and FirstInside %v, %d", x, u, count, list, code)
			}
			if code == impl.ErrNone {
				yes, code := impl.IsInsideBy(x, u, list)
				wantAnswer(t, fmt.Sprint("IsInsideBy ", x, u, list), yes, code, true)
			}
		}
	}
}

func TestPatternArgumentsStay(t *testing.T) {
	x, xMemory := guarded("((())())")
	u, uMemory := guarded("(()((()())(()))())")
	list := []int64{0, 3, 4, 8, -77, -77}
	trees := []impl.Tree{x, u, {}, {}}
	memories := [][]int64{xMemory, uMemory, list}
	before := fmt.Sprint(memories)
	calls := map[string]func() (any, int64){
		"FillPattern":          func() (any, int64) { return pair(impl.FillPattern("(b(a))", trees[:2])) },
		"FillPattern too many": func() (any, int64) { return pair(impl.FillPattern("(b)", trees[:2])) },
		"OpenTrees":            func() (any, int64) { return pair(impl.OpenTrees(u, 2, "(c(b))")) },
		"OpenTrees whole":      func() (any, int64) { return pair(impl.OpenTrees(u, 0, "h")) },
		"IsInsideBy":           func() (any, int64) { return pair(impl.IsInsideBy(x, u, list[:4])) },
		"FirstInside":          func() (any, int64) { return pair(impl.FirstInside(x, u)) },
		"CountInside":          func() (any, int64) { return pair(impl.CountInside(x, u)) },
		"FirstAvoiding":        func() (any, int64) { return pair(impl.FirstAvoiding(5, "((a))")) },
	}
	for name, call := range calls {
		first, code := call()
		told := fmt.Sprint(first)
		spoil(first)
		if after := fmt.Sprint(memories); after != before || len(trees[2].Degrees) != 0 || !sameList(trees[1].Degrees, u.Degrees) {
			t.Fatalf("%s wrote into an argument, or shares memory with one: %s", name, after)
		}
		if again, codeAgain := call(); fmt.Sprint(again) != told || codeAgain != code {
			t.Errorf("%s = %s, %d, and then %v, %d", name, told, code, again, codeAgain)
		}
	}
}

// TestOpenTreesAreNew checks that no two open trees share memory.
func TestOpenTreesAreNew(t *testing.T) {
	want := []string{"(()())", "()", "(())"}
	x := parsed("((()())()(()))")
	open, code := impl.OpenTrees(x, 0, "(cab)")
	wantTrees(t, "OpenTrees", open, code, want)
	for i := range open {
		spoil(open[i])
		if left := fmt.Sprint(open[i+1:]); left != fmt.Sprint(parsedAll(want[i+1:])) {
			t.Fatalf("open tree %d shares memory with those behind it: %s", i, left)
		}
	}
	for i := range slices.Backward(want) {
		open, _ := impl.OpenTrees(x, 0, "(cab)")
		spoil(open[i])
		if left := fmt.Sprint(open[:i]); left != fmt.Sprint(parsedAll(want[:i])) {
			t.Fatalf("open tree %d shares memory with those ahead of it: %s", i, left)
		}
	}
}

// TestCommonPatternsAreNew checks that no common pattern lies in the memory of an argument.
func TestCommonPatternsAreNew(t *testing.T) {
	for _, p := range patternsUpTo(3) {
		for _, q := range patternsUpTo(3) {
			p, q := strings.Clone(p), strings.Clone(q)
			if common, _ := impl.CommonPattern(p, q); liesIn(common, p) || liesIn(common, q) {
				t.Errorf("the common pattern %q lies in the memory of %q or %q", common, p, q)
			}
		}
	}
}
