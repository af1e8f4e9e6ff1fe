package tests

import (
	"fmt"
	"math"
	"slices"
	"strings"
	"testing"

	"loop.example/g01391/impl"
)

// ofPattern has each function that asks for a pattern, with all else as told.
var ofPattern = map[string]func(p string) (any, int64){
	"MatchesAt":        func(p string) (any, int64) { return pair(impl.MatchesAt(degreesOf(0), 0, p)) },
	"MatchedNodes":     func(p string) (any, int64) { return pair(impl.MatchedNodes(degreesOf(0), p)) },
	"OpenTrees":        func(p string) (any, int64) { return pair(impl.OpenTrees(degreesOf(0), 0, p)) },
	"FillPattern":      func(p string) (any, int64) { return pair(impl.FillPattern(p, someTrees(p))) },
	"IsMoreGeneral":    func(p string) (any, int64) { return pair(impl.IsMoreGeneral(p, "(a)")) },
	"IsMoreGeneral, q": func(p string) (any, int64) { return pair(impl.IsMoreGeneral("(a)", p)) },
	"CommonPattern":    func(p string) (any, int64) { return pair(impl.CommonPattern(p, "(a)")) },
	"CommonPattern, q": func(p string) (any, int64) { return pair(impl.CommonPattern("(a)", p)) },
	"CountAvoiding":    func(p string) (any, int64) { return pair(impl.CountAvoiding(3, p)) },
	"FirstAvoiding":    func(p string) (any, int64) { return pair(impl.FirstAvoiding(3, p)) },
}

// ofPatternBeside has each function that asks for a pattern, beside other arguments that are refused
// only behind it.
var ofPatternBeside = map[string]func(p string) (any, int64){
	"MatchesAt no node":         func(p string) (any, int64) { return pair(impl.MatchesAt(degreesOf(0), 1, p)) },
	"OpenTrees no node":         func(p string) (any, int64) { return pair(impl.OpenTrees(degreesOf(0), -1, p)) },
	"FillPattern with too many": func(p string) (any, int64) { return pair(impl.FillPattern(p, append(someTrees(p), degreesOf(0)))) },
	"FillPattern with large trees": func(p string) (any, int64) {
		return pair(impl.FillPattern(p, parsedAll([]string{pathText(24), starText(24)})))
	},
	"CountAvoiding no tree":         func(p string) (any, int64) { return pair(impl.CountAvoiding(0, p)) },
	"FirstAvoiding too large trees": func(p string) (any, int64) { return pair(impl.FirstAvoiding(9, p)) },
}

// ofInside has each function of two trees, one of which may be inside the other one.
var ofInside = map[string]func(t, u impl.Tree) (any, int64){
	"IsInsideBy":           func(t, u impl.Tree) (any, int64) { return pair(impl.IsInsideBy(t, u, []int64{0})) },
	"IsInsideBy, bad list": func(t, u impl.Tree) (any, int64) { return pair(impl.IsInsideBy(t, u, []int64{-1, -1})) },
	"FirstInside":          func(t, u impl.Tree) (any, int64) { return pair(impl.FirstInside(t, u)) },
	"CountInside":          func(t, u impl.Tree) (any, int64) { return pair(impl.CountInside(t, u)) },
}

// someTrees returns as many trees as a text has letters.
func someTrees(p string) []impl.Tree {
	letters := 0
	for _, letter := range strings.Split(letterNames, "") {
		letters += strings.Count(p, letter)
	}
	return slices.Repeat([]impl.Tree{degreesOf(0)}, letters)
}

func wantTrees(t *testing.T, what string, got []impl.Tree, code int64, want []string) {
	t.Helper()
	if fmt.Sprint(got) != fmt.Sprint(parsedAll(want)) || code != impl.ErrNone {
		t.Errorf("%s = %v, code %d; want %v, code 0", what, got, code, want)
	}
}

func TestLimitsOfPatterns(t *testing.T) {
	if impl.MaxPattern != 60 || impl.MaxInside != 12 {
		t.Errorf("MaxPattern = %d, MaxInside = %d", impl.MaxPattern, impl.MaxInside)
	}
}

func TestIsPattern(t *testing.T) {
	for _, p := range slices.Concat(patternsUpTo(6), longPatterns(), strings.Split(letterNames, ""), []string{"(abcdefgh)", "(h(g)(f(e))dcba)"}) {
		if !impl.IsPattern(p) {
			t.Errorf("IsPattern %q = false", p)
		}
	}
	for _, p := range badPatterns() {
		if impl.IsPattern(p) {
			t.Errorf("IsPattern %.80q = true", p)
		}
	}
}

// TestShortPatterns holds all texts of at most seven bytes of four kinds against the model, and
// checks that each function refuses those that are no patterns.
func TestShortPatterns(t *testing.T) {
	found := map[bool]int{}
	var try func(p string)
	try = func(p string) {
		yes := isPatternText(p)
		found[yes]++
		if impl.IsPattern(p) != yes {
			t.Errorf("IsPattern %q = %v", p, !yes)
		}
		if !yes && len(p) <= 4 {
			checkNoPattern(t, p)
		}
		for i := 0; i < 4 && len(p) < 7; i++ {
			try(p + "()ah"[i:i+1])
		}
	}
	try("")
	if found[true] < 40 || found[false] < 4000 {
		t.Errorf("%v patterns found", found)
	}
}

// TestPatternsWithOtherBytes puts each byte in the place of each one of some patterns, and takes it
// out, and puts it in.
func TestPatternsWithOtherBytes(t *testing.T) {
	for _, p := range append(longPatterns(), "a", "()", "(a)", "((a)b)", "(h(g(f)ed)c(ba))") {
		for i := range p {
			for c := range 256 {
				other := string([]byte{byte(c)})
				for _, text := range []string{p[:i] + other + p[i+1:], p[:i] + other + p[i:], p[:i] + p[i+1:]} {
					if impl.IsPattern(text) != isPatternText(text) {
						t.Errorf("IsPattern %q = %v", text, impl.IsPattern(text))
					}
				}
			}
		}
	}
}

func TestNoPattern(t *testing.T) {
	for _, p := range badPatterns() {
		checkNoPattern(t, p)
	}
}

// checkNoPattern checks that each function refuses a text that is no pattern, whatever stands beside
// it.
func checkNoPattern(t *testing.T, p string) {
	t.Helper()
	for _, calls := range []map[string]func(p string) (any, int64){ofPattern, ofPatternBeside} {
		for name, f := range calls {
			got, code := f(p)
			wantCode(t, fmt.Sprintf("%s of %.80q", name, p), got, code, impl.ErrSyntax)
		}
	}
	for _, bad := range []impl.Tree{{}, degreesOf(1)} {
		matches, code := impl.MatchesAt(bad, 3, p)
		wantCode(t, "MatchesAt of no tree", matches, code, impl.ErrInvalid)
		nodes, code := impl.MatchedNodes(bad, p)
		wantCode(t, "MatchedNodes of no tree", nodes, code, impl.ErrInvalid)
		open, code := impl.OpenTrees(bad, 3, p)
		wantCode(t, "OpenTrees of no tree", open, code, impl.ErrInvalid)
		x, code := impl.FillPattern(p, []impl.Tree{degreesOf(0), bad})
		wantCode(t, "FillPattern with no tree", x, code, impl.ErrInvalid)
	}
}

// checkMatches holds what is told of a pattern and of all nodes of a tree against the model.
func checkMatches(t *testing.T, text, p string) {
	t.Helper()
	m := modelOf(text)
	x := parsed(text)
	var want []int64
	for v := range m.count() {
		what := fmt.Sprint(" ", text, " ", v, " ", p)
		texts, ok := pieceOf(p).open(pieceOf(m.part(v)))
		yes, code := impl.MatchesAt(x, v, p)
		wantAnswer(t, "MatchesAt"+what, yes, code, ok)
		open, code := impl.OpenTrees(x, v, p)
		if !ok {
			wantCode(t, "OpenTrees"+what, open, code, impl.ErrNotFound)
			continue
		}
		wantTrees(t, "OpenTrees"+what, open, code, texts)
		want = append(want, v)
	}
	nodes, code := impl.MatchedNodes(x, p)
	wantList(t, "MatchedNodes "+text+" "+p, nodes, code, want...)
}

func TestMatches(t *testing.T) {
	for _, text := range treesUpTo(6) {
		for _, p := range patternsUpTo(5) {
			checkMatches(t, text, p)
		}
	}
	for _, text := range manyTexts() {
		for _, p := range slices.Concat(patternsUpTo(3), longPatterns(), []string{text, "(abcdefgh)", "((a)b)", "(a(b)c)", "(" + text + "a)"}) {
			if isPatternText(p) {
				checkMatches(t, text, p)
			}
		}
	}
}

func TestMatchesOfExamples(t *testing.T) {
	x := parsed("(()(()))")
	for _, c := range []struct {
		p    string
		want []int64
	}{
		{"a", []int64{0, 1, 2, 3}}, {"()", []int64{1, 3}}, {"(a)", []int64{2}}, {"(ab)", []int64{0}}, {"(()a)", []int64{0}}, {"(a())", nil},
		{"(()(()))", []int64{0}}, {"(abc)", nil}, {"((a)b)", nil}, {"(b(a))", []int64{0}}, {"(())", []int64{2}},
	} {
		nodes, code := impl.MatchedNodes(x, c.p)
		wantList(t, "MatchedNodes "+c.p, nodes, code, c.want...)
	}
	open, code := impl.OpenTrees(x, 0, "(ba)")
	wantTrees(t, "OpenTrees (ba)", open, code, []string{"()", "(())"})
	open, code = impl.OpenTrees(x, 0, "h")
	wantTrees(t, "OpenTrees h", open, code, []string{"(()(()))"})
	open, code = impl.OpenTrees(x, 0, "(()(()))")
	wantTrees(t, "OpenTrees without letters", open, code, nil)
	open, code = impl.OpenTrees(parsed(starText(9)), 0, "(hgfedcba)")
	wantTrees(t, "OpenTrees of eight letters", open, code, slices.Repeat([]string{"()"}, 8))
	open, code = impl.OpenTrees(parsed(pathText(24)), 3, strings.Repeat("(", 20)+"a"+strings.Repeat(")", 20))
	wantTrees(t, "OpenTrees of the end of a path", open, code, []string{"()"})
}

func TestFillPattern(t *testing.T) {
	texts := append(treesUpTo(3), pathText(5), starText(9), "((()())())", someText(12, 1))
	for k, p := range append(patternsUpTo(5), "(abcdefgh)", "(h(g)(f(e))dcba)") {
		for first := range texts {
			var list []string
			for i := range len(pieceOf(p).letters()) {
				list = append(list, texts[(first+i*(k+1))%len(texts)])
			}
			checkFilled(t, p, list)
		}
	}
	for _, p := range longPatterns() {
		checkFilled(t, p, slices.Repeat([]string{"()"}, len(pieceOf(p).letters())))
	}
}

// checkFilled holds a filled pattern against the model.
func checkFilled(t *testing.T, p string, texts []string) {
	t.Helper()
	x, code := impl.FillPattern(p, parsedAll(texts))
	what := fmt.Sprint("FillPattern ", p, " ", texts)
	if want := filled(p, texts); len(want) > 2*impl.MaxNodes {
		wantCode(t, what, x, code, impl.ErrLimit)
	} else {
		wantTree(t, what, x, code, want)
	}
}

func TestFillPatternLimits(t *testing.T) {
	for _, c := range []struct {
		p     string
		texts []string
		want  int64
	}{
		{"a", []string{pathText(24)}, impl.ErrNone}, {"(a)", []string{pathText(23)}, impl.ErrNone}, {"(a)", []string{pathText(24)}, impl.ErrLimit},
		{"(h(a))", []string{starText(11), pathText(11)}, impl.ErrNone}, {"(h(a))", []string{starText(11), pathText(12)}, impl.ErrLimit},
		{"(h(a))", []string{starText(12), pathText(11)}, impl.ErrLimit}, {pathText(24), nil, impl.ErrNone}, {starText(24), nil, impl.ErrNone},
		{pathText(25), nil, impl.ErrLimit}, {starText(25), nil, impl.ErrLimit}, {pathText(30), nil, impl.ErrLimit},
		{"(abcdefgh" + strings.Repeat("()", 15) + ")", slices.Repeat([]string{"()"}, 8), impl.ErrNone},
		{"(abcdefgh" + strings.Repeat("()", 16) + ")", slices.Repeat([]string{"()"}, 8), impl.ErrLimit},
		{"(abcdefgh)", slices.Repeat([]string{pathText(24)}, 8), impl.ErrLimit},
	} {
		x, code := impl.FillPattern(c.p, parsedAll(c.texts))
		if code != c.want {
			t.Errorf("FillPattern %s %v: code %d; want %d", c.p, c.texts, code, c.want)
		}
		if code == impl.ErrNone {
			wantTree(t, "FillPattern "+c.p, x, code, filled(c.p, c.texts))
		} else if !isZero(x) {
			t.Errorf("FillPattern %s = %v beside an error", c.p, x)
		}
	}
}

func TestFillPatternRefuses(t *testing.T) {
	one, large := degreesOf(0), parsed(pathText(impl.MaxNodes))
	for _, p := range []string{"a", "()", "(ab)", "(abcdefgh)", pathText(30)} {
		letters := len(pieceOf(p).letters())
		for _, n := range []int{0, 1, 2, 3, 7, 8, 9, 30, 1000} {
			for _, x := range []impl.Tree{one, large} {
				if n != letters {
					filled, code := impl.FillPattern(p, slices.Repeat([]impl.Tree{x}, n))
					wantCode(t, fmt.Sprint("FillPattern ", p, " with ", n, " trees"), filled, code, impl.ErrRange)
				}
			}
		}
		for _, bad := range badTrees() {
			for _, list := range [][]impl.Tree{{bad}, {bad, one}, {one, bad}, {large, large, bad}, append(slices.Repeat([]impl.Tree{one}, max(0, letters-1)), bad)} {
				x, code := impl.FillPattern(p, list)
				wantCode(t, fmt.Sprint("FillPattern ", p, " ", list), x, code, impl.ErrInvalid)
			}
		}
	}
	for _, list := range [][]impl.Tree{nil, {}} {
		x, code := impl.FillPattern("(()())", list)
		wantTree(t, "FillPattern without letters", x, code, "(()())")
	}
}

// TestPairsOfPatterns holds what is told of two patterns against the model, and the meaning of it
// against the trees that they match.
func TestPairsOfPatterns(t *testing.T) {
	all := append(patternsUpTo(5), "(abcdefgh)", pathText(30))
	for _, p := range all {
		for _, q := range all {
			_, want := pieceOf(p).open(pieceOf(q))
			yes, code := impl.IsMoreGeneral(p, q)
			wantAnswer(t, "IsMoreGeneral "+p+" "+q, yes, code, want)
			common, code := impl.CommonPattern(p, q)
			if text, ok := pieceOf(p).common(pieceOf(q)); ok {
				wantText(t, "CommonPattern "+p+" "+q, common, code, named(text, letterNames))
			} else {
				wantCode(t, "CommonPattern "+p+" "+q, common, code, impl.ErrNotFound)
			}
		}
	}
}

// TestCommonPatternsOfLargeTrees holds pairs of patterns that match the same tree, which can have
// more than MaxNodes nodes, against the model.
func TestCommonPatternsOfLargeTrees(t *testing.T) {
	found := map[int64]int{}
	for seed := range uint64(4000) {
		text := someText(20+int(seed%20), seed)
		p, q := opened(text, 3*seed), opened(text, 3*seed+1)
		if !isPatternText(p) || !isPatternText(q) {
			continue
		}
		unnamed, _ := pieceOf(p).common(pieceOf(q))
		common, code := impl.CommonPattern(p, q)
		found[code]++
		if len(unnamed) > impl.MaxPattern || strings.Count(unnamed, "x") > len(letterNames) {
			wantCode(t, "CommonPattern "+p+" "+q, common, code, impl.ErrLimit)
		} else {
			wantText(t, "CommonPattern "+p+" "+q, common, code, named(unnamed, letterNames))
		}
	}
	if found[impl.ErrNone] < 500 || found[impl.ErrLimit] < 50 {
		t.Errorf("common patterns found, by their codes: %v", found)
	}
}

// TestCommonPatternsMatch checks that common patterns match just the trees that both match.
func TestCommonPatternsMatch(t *testing.T) {
	matched := map[string][]bool{}
	trees := parsedAll(treesUpTo(7))
	matchedBy := func(p string) []bool {
		if matched[p] == nil {
			for _, x := range trees {
				yes, _ := impl.MatchesAt(x, 0, p)
				matched[p] = append(matched[p], yes)
			}
		}
		return matched[p]
	}
	for _, p := range patternsUpTo(4) {
		for _, q := range patternsUpTo(4) {
			common, code := impl.CommonPattern(p, q)
			for i, x := range trees {
				both := matchedBy(p)[i] && matchedBy(q)[i]
				if code == impl.ErrNotFound && both || code == impl.ErrNone && both != matchedBy(common)[i] {
					t.Fatalf("CommonPattern %s %s = %q, %d, with the tree %v", p, q, common, code, x)
				}
			}
		}
	}
}

func TestCommonPatternLimits(t *testing.T) {
	for _, c := range []struct {
		p, q, want string
		code       int64
	}{
		{"(a(b))", "((c)d)", "((a)(b))", impl.ErrNone}, {"h", "a", "a", impl.ErrNone}, {"(hg)", "(ba)", "(ab)", impl.ErrNone},
		{"(ab)", "(ba)", "(ab)", impl.ErrNone}, {"(h()a)", "(()gb)", "(()()a)", impl.ErrNone}, {"(a)", "()", "", impl.ErrNotFound}, {"()", "(a)", "", impl.ErrNotFound},
		{"(a)", "(ab)", "", impl.ErrNotFound}, {"(ab)", "(a)", "", impl.ErrNotFound}, {"((a)b)", "(()c)", "", impl.ErrNotFound}, {"(a(b))", "(c())", "", impl.ErrNotFound},
		{pathText(30), "a", pathText(30), impl.ErrNone}, {"h", starText(30), starText(30), impl.ErrNone},
		// With as many letters as there are, and with one more.
		{"((abcdefg)h)", "(a(b))", "((abcdefg)(h))", impl.ErrNone}, {"((abcdefg)h)", "(a(bc))", "", impl.ErrLimit},
		{"(a(bc))", "((hgfedcb)a)", "", impl.ErrLimit}, {"(abcdefgh)", "(hgfedcba)", "(abcdefgh)", impl.ErrNone}, {"(abcdefgh)", "h", "(abcdefgh)", impl.ErrNone},
		{"((abcdefgh))", "(b)", "((abcdefgh))", impl.ErrNone}, {"(b)", "((hgfedcba))", "((abcdefgh))", impl.ErrNone},
		{"((abcd)(efgh)" + pathText(10) + ")", "(a(bcde)f)", "((abcd)(efgh)" + pathText(10) + ")", impl.ErrNone},
		// With as many bytes as there may be, and with one more.
		{"(a" + pathText(14) + ")", "(" + pathText(15) + "b)", "(" + pathText(15) + pathText(14) + ")", impl.ErrNone},
		{"(a" + pathText(14) + "c)", "(" + pathText(14) + "bd)", "(" + pathText(14) + pathText(14) + "a)", impl.ErrNone},
		{"(a" + pathText(14) + "c)", "(" + pathText(15) + "bd)", "", impl.ErrLimit},
		{"(a" + pathText(14) + "cd)", "(" + pathText(14) + "bef)", "(" + pathText(14) + pathText(14) + "ab)", impl.ErrNone},
		{"(a" + pathText(15) + ")", "(" + pathText(15) + "b)", "", impl.ErrLimit}, {"(a" + pathText(28) + ")", "(" + pathText(28) + "b)", "", impl.ErrLimit},
		// Beyond both limits, and what does not go together beyond them.
		{"(a" + pathText(20) + "(bcdefg)h)", "(" + pathText(20) + "ac(def))", "", impl.ErrLimit},
		{"(a" + pathText(28) + ")", "(" + pathText(28) + "())", "", impl.ErrNotFound}, {"((abcdefg)h())", "(a(bc)(d))", "", impl.ErrNotFound},
	} {
		got, code := impl.CommonPattern(c.p, c.q)
		if got != c.want || code != c.code {
			t.Errorf("CommonPattern %s %s = %q, %d; want %q, %d", c.p, c.q, got, code, c.want, c.code)
		}
	}
}

// TestAvoiding holds the numbers and the first trees against the trees that the model matches.
func TestAvoiding(t *testing.T) {
	for n := 1; n <= 8; n++ {
		most := 5
		if n == 8 {
			most = 3
		}
		for _, p := range append(patternsUpTo(most), "(abcdefgh)", "(abcdefg)", pathText(8), starText(30), "(((a)b)c)") {
			checkAvoiding(t, n, p)
		}
	}
	count, code := impl.CountAvoiding(4, "(ab)")
	wantNumber(t, "CountAvoiding of the example", count, code, 2)
}

func checkAvoiding(t *testing.T, n int, p string) {
	t.Helper()
	var avoiding []impl.Tree
	for _, x := range orderedTrees(n) {
		if !isMatchedSomewhere(x, p) {
			avoiding = append(avoiding, x)
		}
	}
	what := fmt.Sprint(n, " ", p)
	count, code := impl.CountAvoiding(int64(n), p)
	wantNumber(t, "CountAvoiding "+what, count, code, int64(len(avoiding)))
	first, code := impl.FirstAvoiding(int64(n), p)
	if len(avoiding) == 0 {
		wantCode(t, "FirstAvoiding "+what, first, code, impl.ErrNotFound)
	} else {
		wantList(t, "FirstAvoiding "+what, first.Degrees, code, avoiding[0].Degrees...)
	}
}

func isMatchedSomewhere(x impl.Tree, p string) bool {
	text, _ := impl.TreeText(x)
	m := modelOf(text)
	for v := range m.count() {
		if _, ok := pieceOf(p).open(pieceOf(m.part(v))); ok {
			return true
		}
	}
	return false
}

func TestAvoidingRefuses(t *testing.T) {
	for _, p := range []string{"a", "()", "(a)", pathText(30)} {
		for _, n := range badSizes(8) {
			count, code := impl.CountAvoiding(n, p)
			wantCode(t, fmt.Sprint("CountAvoiding ", n, " ", p), count, code, impl.ErrRange)
			first, code := impl.FirstAvoiding(n, p)
			wantCode(t, fmt.Sprint("FirstAvoiding ", n, " ", p), first, code, impl.ErrRange)
		}
	}
	for n := int64(1); n <= 8; n++ {
		count, code := impl.CountAvoiding(n, pathText(30))
		wantNumber(t, "CountAvoiding a large tree", count, code, knownTrees(n))
		for _, p := range []string{"a", "()"} {
			none, code := impl.FirstAvoiding(n, p)
			wantCode(t, "FirstAvoiding "+p, none, code, impl.ErrNotFound)
		}
	}
}

// TestInside holds all lists of small trees against the model.
func TestInside(t *testing.T) {
	for _, u := range treesUpTo(6) {
		for _, text := range treesUpTo(6) {
			checkInside(t, text, u)
		}
	}
}

// checkInside holds what is told of two trees, and of all lists of nodes of the second one, against
// the model.
func checkInside(t *testing.T, text, u string) {
	t.Helper()
	x, y := parsed(text), parsed(u)
	for _, list := range listsUpTo(int64(len(y.Degrees))) {
		yes, code := impl.IsInsideBy(x, y, list)
		what := fmt.Sprint("IsInsideBy ", text, " ", u, " ", list)
		if len(list) != len(x.Degrees) {
			wantCode(t, what, yes, code, impl.ErrRange)
		} else {
			wantAnswer(t, what, yes, code, leftOf(u, list) == text)
		}
	}
	checkFoundInside(t, text, u)
}

func checkFoundInside(t *testing.T, text, u string) {
	t.Helper()
	lists := insideLists(text, u)
	count, code := impl.CountInside(parsed(text), parsed(u))
	wantNumber(t, "CountInside "+text+" "+u, count, code, int64(len(lists)))
	first, code := impl.FirstInside(parsed(text), parsed(u))
	if len(lists) == 0 {
		wantCode(t, "FirstInside "+text+" "+u, first, code, impl.ErrNotFound)
	} else {
		wantList(t, "FirstInside "+text+" "+u, first, code, lists[0]...)
	}
}

// TestInsideLargest looks into trees with MaxInside nodes, also for trees that are larger.
func TestInsideLargest(t *testing.T) {
	for _, u := range []string{pathText(12), starText(12), "(" + pathText(5) + starText(6) + ")", someText(12, 1), someText(12, 5), someText(11, 8)} {
		for _, text := range append(treesUpTo(4), pathText(6), starText(6), pathText(11), starText(11), pathText(12), starText(12), pathText(13), starText(13), pathText(24), starText(24), u) {
			checkFoundInside(t, text, u)
		}
	}
	count, code := impl.CountInside(parsed(pathText(6)), parsed(pathText(12)))
	wantNumber(t, "CountInside of paths", count, code, 924)
	count, code = impl.CountInside(parsed(starText(6)), parsed(starText(12)))
	wantNumber(t, "CountInside of stars", count, code, 462)
}

// TestIsInsideByOfLargeTrees looks into trees with MaxNodes nodes, in which no list is searched for.
func TestIsInsideByOfLargeTrees(t *testing.T) {
	inside := 0
	large := []string{pathText(impl.MaxNodes), starText(impl.MaxNodes)}
	for seed := range uint64(20) {
		large = append(large, someText(impl.MaxNodes, seed))
	}
	for seed := range uint64(400) {
		u := large[seed%22]
		var list []int64
		for v := range int64(impl.MaxNodes) {
			bit := (seed*0x9E3779B97F4A7C15 + seed>>3) >> v & 1
			if bit == 1 || v == int64(seed%3) {
				list = append(list, v)
			}
		}
		left := leftOf(u, list)
		for _, text := range []string{pathText(len(list)), starText(len(list)), someText(len(list), seed), left} {
			if _, behind, _ := readPiece(text); behind != "" {
				continue
			}
			yes, code := impl.IsInsideBy(parsed(text), parsed(u), list)
			wantAnswer(t, fmt.Sprint("IsInsideBy ", text, " ", u, " ", list), yes, code, text == left)
			inside += int(map[bool]int64{true: 1}[yes])
		}
	}
	if inside < 150 {
		t.Errorf("only %d trees were inside", inside)
	}
}

func TestInsideRefuses(t *testing.T) {
	one, x := degreesOf(0), parsed("(()(()))")
	for _, bad := range badTrees() {
		for _, good := range []impl.Tree{one, x, parsed(pathText(13)), parsed(pathText(24))} {
			for name, f := range ofInside {
				got, code := f(bad, good)
				wantCode(t, fmt.Sprint(name, ", first ", bad), got, code, impl.ErrInvalid)
				got, code = f(good, bad)
				wantCode(t, fmt.Sprint(name, ", second ", bad), got, code, impl.ErrInvalid)
			}
		}
	}
	for n := 13; n <= impl.MaxNodes; n++ {
		for _, u := range []impl.Tree{parsed(pathText(n)), parsed(starText(n))} {
			for _, text := range []string{"()", pathText(12), pathText(13), pathText(24)} {
				list, code := impl.FirstInside(parsed(text), u)
				wantCode(t, fmt.Sprint("FirstInside a tree of ", n), list, code, impl.ErrLimit)
				count, code := impl.CountInside(parsed(text), u)
				wantCode(t, fmt.Sprint("CountInside a tree of ", n), count, code, impl.ErrLimit)
			}
		}
	}
	for _, list := range [][]int64{
		nil, {}, {0}, {0, 1}, {0, 1, 2, 3}, {0, 0, 1}, {0, 1, 1}, {0, 0, 0}, {1, 0, 2}, {0, 3, 2}, {3, 2, 1}, {-1, 0, 1}, {0, 1, 4}, {0, -1, 2}, {0, 1, -1},
		{2, 3, 4}, {4, 5, 6}, {0, 1, math.MaxInt64}, {math.MinInt64, 0, 1}, {0, math.MaxInt64, 1}, {0, math.MaxInt64, math.MinInt64}, {0, 1, 1 << 32},
		{-1, -1, -1, -1}, make([]int64, 3000),
	} {
		yes, code := impl.IsInsideBy(parsed("(()())"), x, list)
		wantCode(t, fmt.Sprint("IsInsideBy ", list), yes, code, impl.ErrRange)
	}
	larger, code := impl.IsInsideBy(parsed(pathText(5)), x, []int64{0, 1, 2, 3, 4})
	wantCode(t, "IsInsideBy a tree that is larger", larger, code, impl.ErrRange)
	for _, list := range [][]int64{{1, 2, 3}, {0, 2, 3}} {
		yes, code := impl.IsInsideBy(parsed("(()())"), x, list)
		wantAnswer(t, fmt.Sprint("IsInsideBy ", list), yes, code, false)
	}
}
