package tests

import (
	"fmt"
	"math"
	"slices"
	"strings"
	"testing"

	"loop.example/g01391/impl"
)

// ofSystem has each function of a tree and a system.
var ofSystem = map[string]func(x impl.Tree, rules []impl.Rule) (any, int64){
	"StepsOf":      func(x impl.Tree, rules []impl.Rule) (any, int64) { return pair(impl.StepsOf(x, rules)) },
	"FirstStep":    func(x impl.Tree, rules []impl.Rule) (any, int64) { return pair(impl.FirstStep(x, rules)) },
	"IsNormal":     func(x impl.Tree, rules []impl.Rule) (any, int64) { return pair(impl.IsNormal(x, rules)) },
	"NormalTree":   func(x impl.Tree, rules []impl.Rule) (any, int64) { return counted(impl.NormalTree(x, rules, 9)) },
	"ReachedTrees": func(x impl.Tree, rules []impl.Rule) (any, int64) { return pair(impl.ReachedTrees(x, rules)) },
	"Loops":        func(x impl.Tree, rules []impl.Rule) (any, int64) { return pair(impl.Loops(x, rules)) },
	"MeetAgain":    func(x impl.Tree, rules []impl.Rule) (any, int64) { return pair(impl.MeetAgain(x, x, rules)) },
	"MeetAgain, u": func(x impl.Tree, rules []impl.Rule) (any, int64) {
		return pair(impl.MeetAgain(degreesOf(1, 0), x, rules))
	},
	"MeetAgain, t": func(x impl.Tree, rules []impl.Rule) (any, int64) {
		return pair(impl.MeetAgain(x, degreesOf(1, 0), rules))
	},
}

// ofSystemBeside has functions of a tree and a system beside a number that is refused only behind both.
var ofSystemBeside = map[string]func(x impl.Tree, rules []impl.Rule) (any, int64){
	"NormalTree, k of -1": func(x impl.Tree, rules []impl.Rule) (any, int64) { return counted(impl.NormalTree(x, rules, -1)) },
	"NormalTree, k of 101": func(x impl.Tree, rules []impl.Rule) (any, int64) {
		return counted(impl.NormalTree(x, rules, impl.MaxSteps+1))
	},
}

// ofRule has each function that asks for a rule, with all else as told.
var ofRule = map[string]func(r impl.Rule) (any, int64){
	"StepAt":            func(r impl.Rule) (any, int64) { return pair(impl.StepAt(degreesOf(0), 0, r)) },
	"StepAt no node":    func(r impl.Rule) (any, int64) { return pair(impl.StepAt(degreesOf(0), 1, r)) },
	"CriticalPlaces":    func(r impl.Rule) (any, int64) { return pair(impl.CriticalPlaces(r, ruleOf("(a)>a"))) },
	"CriticalPlaces, s": func(r impl.Rule) (any, int64) { return pair(impl.CriticalPlaces(ruleOf("(a)>a"), r)) },
	"RuleText":          func(r impl.Rule) (any, int64) { return pair(impl.RuleText(r)) },
}

// counted returns both results of NormalTree as one, which is a zero value if both are.
func counted(x impl.Tree, count, code int64) (any, int64) {
	if isZero(x) && count == 0 {
		return x, code
	}
	return [][]int64{x.Degrees, {count}}, code
}

func TestLimitsOfRules(t *testing.T) {
	if impl.MaxRules != 6 || impl.MaxSteps != 100 {
		t.Errorf("MaxRules = %d, MaxSteps = %d", impl.MaxRules, impl.MaxSteps)
	}
}

func TestIsRule(t *testing.T) {
	rules := append(rulesUpTo(3), systemOf(
		"(a)>a", "(h)>h", "()>()", "()>(())", "(abcdefgh)>(hgfedcba)", "(abcdefgh)>e", "((a)b)>(ab)", "(ab)>(aaabbbaaa)", "(ab)>()", "(a(b))>b",
		// Trees of any number of nodes stand on both sides, up to MaxPattern bytes.
		pathText(30)+">()", "()>"+starText(30), pathText(25)+">"+starText(25), starText(30)+">"+pathText(30), "(a)>(aa"+strings.Repeat("()", 28)+")",
		"(ab"+strings.Repeat("()", 28)+")>(b"+strings.Repeat("a", 57)+")", "(a)>("+strings.Repeat("a", 58)+")",
	)...)
	for _, r := range rules {
		if !impl.IsRule(r) || !isRuleOfPieces(r) {
			t.Errorf("IsRule %q = %v", r, impl.IsRule(r))
		}
		wantRuleText(t, r)
	}
	for _, r := range badRules() {
		if impl.IsRule(r) || isRuleOfPieces(r) {
			t.Errorf("IsRule %.80q = %v", r, impl.IsRule(r))
		}
	}
}

// wantRuleText checks the text of a rule, and that it comes back.
func wantRuleText(t *testing.T, r impl.Rule) {
	t.Helper()
	text, code := impl.RuleText(r)
	wantText(t, fmt.Sprint("RuleText ", r), text, code, r.Left+">"+r.Right)
	back, code := impl.ParseRule(text)
	if back != r || code != impl.ErrNone {
		t.Errorf("ParseRule %q = %q, code %d", text, back, code)
	}
}

func TestNoRule(t *testing.T) {
	for _, r := range badRules() {
		for name, f := range ofRule {
			got, code := f(r)
			wantCode(t, fmt.Sprintf("%s of %.80q", name, r), got, code, impl.ErrSyntax)
		}
		for name, f := range ofSystem {
			got, code := f(degreesOf(1, 0), []impl.Rule{r})
			wantCode(t, fmt.Sprintf("%s by %.80q", name, r), got, code, impl.ErrSyntax)
		}
		both, code := impl.CriticalPlaces(r, r)
		wantCode(t, fmt.Sprintf("CriticalPlaces of %.80q twice", r), both, code, impl.ErrSyntax)
		text := r.Left + ">" + r.Right
		back, code := impl.ParseRule(text)
		wantCode(t, fmt.Sprintf("ParseRule %.80q", text), back, code, impl.ErrSyntax)
	}
}

func TestParseRuleRefuses(t *testing.T) {
	for _, text := range []string{
		"", ">", ">>", "()", "a", "(a)", "(a)a", ">()", "()>", ">a", "a>", "()>>()", "()>()>", ">()>()", "()>()>()", "(a)>>a", "(a)>a>a", "(a)>a>", "()>(>)", "(>)>()",
		" ()>()", "()>() ", "() >()", "()> ()", "() > ()", "()<()", "()->()", "()=>()", "()->", "()\n>()", "()>()\n", "()＞()", "a>a", "a>()", "()>a", "(a)>b", "(aa)>a", "(a)>(b)",
		pathText(31) + ">()", "()>" + pathText(31), "(a" + strings.Repeat("()", 29) + ")>a", "(a)>(a" + strings.Repeat("()", 29) + ")",
		strings.Repeat(">", 1<<20), pathText(1 << 20), pathText(1<<20) + ">()", "()>" + pathText(1<<20), "()" + strings.Repeat(">()", 1<<18),
	} {
		r, code := impl.ParseRule(text)
		wantCode(t, fmt.Sprintf("ParseRule %.80q", text), r, code, impl.ErrSyntax)
		if isRuleText(text) {
			t.Errorf("the model takes %.80q", text)
		}
	}
}

// checkParsed holds what is told of a text of a rule against the model.
func checkParsed(t *testing.T, text string) bool {
	t.Helper()
	r, code := impl.ParseRule(text)
	if !isRuleText(text) {
		wantCode(t, fmt.Sprintf("ParseRule %q", text), r, code, impl.ErrSyntax)
		return false
	}
	if r != ruleOf(text) || code != impl.ErrNone || !impl.IsRule(r) {
		t.Errorf("ParseRule %q = %q, code %d", text, r, code)
	}
	return true
}

// TestShortRuleTexts holds all texts of at most eight bytes of four kinds against the model.
func TestShortRuleTexts(t *testing.T) {
	found := 0
	var try func(text string)
	try = func(text string) {
		if checkParsed(t, text) {
			found++
		}
		for i := 0; i < 4 && len(text) < 8; i++ {
			try(text + "()a>"[i:i+1])
		}
	}
	try("")
	if found != 14 {
		t.Errorf("%d rules found", found)
	}
}

// TestRuleTextsWithOtherBytes puts each byte in the place of each one of some texts, and puts it in, and takes one out.
func TestRuleTextsWithOtherBytes(t *testing.T) {
	for _, text := range []string{"()>()", "(a)>a", "((a)b)>(ab)", "(h(g))>((h)h)", "(abc)>b", pathText(30) + ">(()())", "(a)>(a" + pathText(28) + ")"} {
		for i := range text {
			for c := range 256 {
				other := string([]byte{byte(c)})
				for _, changed := range []string{text[:i] + other + text[i+1:], text[:i] + other + text[i:], text[:i] + text[i+1:]} {
					checkParsed(t, changed)
				}
			}
		}
	}
}

// checkSteps holds all that is told of the steps of a tree against the model, and returns how many are open, and how
// many are not.
func checkSteps(t *testing.T, text string, rules []impl.Rule) (int, int) {
	t.Helper()
	m := modelOf(text)
	x := m.tree()
	moves, open := m.moves(rules), m.openMoves(rules)
	what := fmt.Sprint(" ", text, " ", rules)
	var want [][]int64
	for _, s := range open {
		want = append(want, []int64{s.node, s.rule})
	}
	steps, code := impl.StepsOf(x, rules)
	wantPairs(t, "StepsOf"+what, steps, code, want)
	normal, code := impl.IsNormal(x, rules)
	wantAnswer(t, "IsNormal"+what, normal, code, len(moves) == 0)
	first, code := impl.FirstStep(x, rules)
	if len(open) == 0 {
		wantCode(t, "FirstStep"+what, first, code, impl.ErrNotFound)
	} else {
		wantTree(t, "FirstStep"+what, first, code, open[0].behind)
	}
	for v := range m.count() {
		for i, r := range rules {
			step, code := impl.StepAt(x, v, r)
			what := fmt.Sprint("StepAt ", text, " ", v, " ", r)
			isThere := func(s move) bool { return s.node == v && s.rule == int64(i) }
			if k := slices.IndexFunc(open, isThere); k >= 0 {
				wantTree(t, what, step, code, open[k].behind)
			} else if slices.ContainsFunc(moves, isThere) {
				wantCode(t, what, step, code, impl.ErrLimit)
			} else {
				wantCode(t, what, step, code, impl.ErrNotFound)
			}
		}
	}
	return len(open), len(moves) - len(open)
}

func TestStepsBySmallRules(t *testing.T) {
	rules := rulesUpTo(3)
	for i, r := range rules {
		for _, text := range treesUpTo(5) {
			checkSteps(t, text, []impl.Rule{r})
		}
		checkSteps(t, someText(12, uint64(i)), slices.Concat(rules[i:], rules)[:impl.MaxRules])
	}
}

func TestStepsOfLargeTrees(t *testing.T) {
	open, closed := 0, 0
	for i, rules := range append(someSystems(150, 1), systemOf("(abcdefgh)>(hgfedcba)", "(a)>(aaaa)", "(ab)>((ab)(ab))", "()>((()))")) {
		for _, text := range append(largeTexts(), someText(23, uint64(i)), someText(22, uint64(i)), someText(17, uint64(i))) {
			k, l := checkSteps(t, text, rules)
			open, closed = open+k, closed+l
		}
	}
	if open < 5000 || closed < 5000 {
		t.Errorf("%d steps are open, %d are not", open, closed)
	}
}

// TestListedSteps has steps worked out by hand: at the root, at a leaf, at nodes where nothing matches, by letters that
// go, come several times, or are exchanged.
func TestListedSteps(t *testing.T) {
	for _, c := range []struct {
		text string
		v    int64
		rule string
		want string
		code int64
	}{
		{"()", 0, "()>(())", "(())", impl.ErrNone}, {"()", 0, "()>()", "()", impl.ErrNone}, {"()", 0, "(a)>a", "", impl.ErrNotFound},
		{"(())", 0, "(a)>a", "()", impl.ErrNone}, {"(())", 1, "(a)>a", "", impl.ErrNotFound}, {"(())", 1, "()>(()())", "((()()))", impl.ErrNone},
		{"(())", 0, "(a)>()", "()", impl.ErrNone}, {"(())", 0, "(h)>(hhh)", "(()()())", impl.ErrNone}, {"(())", 0, "(())>((()))", "((()))", impl.ErrNone},
		{"(()(()))", 0, "(a(b))>((a)b)", "((())())", impl.ErrNone}, {"(()(()))", 0, "(ab)>(ba)", "((())())", impl.ErrNone}, {"(()(()))", 0, "(ab)>b", "(())", impl.ErrNone},
		{"(()(()))", 0, "(ab)>a", "()", impl.ErrNone}, {"(()(()))", 0, "(ba)>(bb)", "(()())", impl.ErrNone}, {"(()(()))", 0, "(ba)>(aab)", "((())(())())", impl.ErrNone},
		{"(()(()))", 2, "(a)>a", "(()())", impl.ErrNone}, {"(()(()))", 3, "()>(())", "(()((())))", impl.ErrNone}, {"(()(()))", 1, "()>(()())", "((()())(()))", impl.ErrNone},
		{"(()(()))", 1, "(a)>a", "", impl.ErrNotFound}, {"(()(()))", 0, "(a)>a", "", impl.ErrNotFound}, {"(()(()))", 0, "((a)b)>a", "", impl.ErrNotFound},
		{"(()(()))", 0, "(()(()))>()", "()", impl.ErrNone}, {"(()(()))", 2, "(()(()))>()", "", impl.ErrNotFound},
		{"((()())())", 1, "(ab)>((a)(b))", "(((())(()))())", impl.ErrNone}, {"((()())())", 4, "()>((()))", "((()())((())))", impl.ErrNone},
		{"(((())()))", 0, "((ab))>(a(b))", "((())(()))", impl.ErrNone}, {starText(9), 0, "(abcdefgh)>(h(g)(f)edcba)", "(()(())(())()()()()())", impl.ErrNone},
		// Rules that match at no tree of MaxNodes nodes, and such that no step by them is open.
		{pathText(24), 0, pathText(25) + ">()", "", impl.ErrNotFound}, {pathText(24), 0, pathText(24) + ">()", "()", impl.ErrNone}, {"()", 0, "()>" + pathText(30), "", impl.ErrLimit},
		{"()", 0, "()>" + pathText(25), "", impl.ErrLimit}, {"()", 0, "()>" + pathText(24), pathText(24), impl.ErrNone}, {"(())", 1, "()>" + pathText(24), "", impl.ErrLimit},
		{"(())", 1, "()>" + pathText(23), pathText(24), impl.ErrNone}, {pathText(24), 23, "()>(())", "", impl.ErrLimit}, {pathText(23), 22, "()>(())", pathText(24), impl.ErrNone},
		{starText(24), 7, "()>(())", "", impl.ErrLimit}, {starText(23), 7, "()>(())", "(" + strings.Repeat("()", 6) + "(())" + strings.Repeat("()", 15) + ")", impl.ErrNone},
		// A tree of 12 nodes twice has 24, with one node above both 25.
		{pathText(12), 0, "(a)>(aa)", "(" + pathText(11) + pathText(11) + ")", impl.ErrNone}, {pathText(13), 0, "(a)>(aa)", "", impl.ErrLimit},
		{pathText(13), 1, "(a)>(aa)", "((" + pathText(11) + pathText(11) + "))", impl.ErrNone}, {pathText(24), 0, "(a)>(" + strings.Repeat("a", 58) + ")", "", impl.ErrLimit},
	} {
		step, code := impl.StepAt(parsed(c.text), c.v, ruleOf(c.rule))
		what := fmt.Sprint("StepAt ", c.text, " ", c.v, " ", c.rule)
		if c.code == impl.ErrNone {
			wantTree(t, what, step, code, c.want)
		} else {
			wantCode(t, what, step, code, c.code)
		}
		checkSteps(t, c.text, systemOf(c.rule))
	}
}

// TestStepAtRefuses checks the order of the codes, with several faults at once.
func TestStepAtRefuses(t *testing.T) {
	good, bad := ruleOf("(ab)>(ba)"), ruleOf("(aa)>a")
	for _, x := range badTrees() {
		for _, v := range append(badNodes(4), 0, 1) {
			for _, r := range []impl.Rule{good, bad, {}} {
				step, code := impl.StepAt(x, v, r)
				wantCode(t, fmt.Sprint("StepAt ", x, " ", v, " ", r), step, code, impl.ErrInvalid)
			}
		}
	}
	x := parsed("(()(()))")
	for _, v := range append(badNodes(4), farNumbers()...) {
		for _, r := range systemOf("(ab)>(ba)", "()>"+pathText(30), pathText(30)+">()") {
			step, code := impl.StepAt(x, v, r)
			wantCode(t, fmt.Sprint("StepAt no node ", v, " ", r), step, code, impl.ErrRange)
		}
		step, code := impl.StepAt(x, v, bad)
		wantCode(t, fmt.Sprint("StepAt no node ", v, " by no rule"), step, code, impl.ErrSyntax)
	}
}

func TestListedStepsOf(t *testing.T) {
	x := parsed("(()(()))")
	for _, c := range []struct {
		rules []string
		want  [][]int64
		first string
	}{
		{[]string{"(ab)>(ba)"}, [][]int64{{0, 0}}, "((())())"}, {[]string{"(a)>a", "(ab)>(ba)"}, [][]int64{{0, 1}, {2, 0}}, "((())())"},
		{[]string{"(a)>a"}, [][]int64{{2, 0}}, "(()())"}, {[]string{"()>(())"}, [][]int64{{1, 0}, {3, 0}}, "((())(()))"},
		// Two rules match at one node, the same one twice among them.
		{[]string{"(ab)>b", "(ba)>b"}, [][]int64{{0, 0}, {0, 1}}, "(())"}, {[]string{"(ba)>b", "(ab)>b"}, [][]int64{{0, 0}, {0, 1}}, "()"},
		{[]string{"(a)>a", "(a)>a", "(a)>a"}, [][]int64{{2, 0}, {2, 1}, {2, 2}}, "(()())"},
		{[]string{"()>(())", "()>()", "(a)>a", "()>(())", "(a)>()", "(ab)>(ab)"}, [][]int64{{0, 5}, {1, 0}, {1, 1}, {1, 3}, {2, 2}, {2, 4}, {3, 0}, {3, 1}, {3, 3}}, "(()(()))"},
		// Steps at the least nodes, and by the first rules, that are not open.
		{[]string{"(ab)>" + pathText(25), "()>(())"}, [][]int64{{1, 1}, {3, 1}}, "((())(()))"}, {[]string{"(ab)>" + starText(30), "(ab)>a"}, [][]int64{{0, 1}}, "()"},
		{[]string{"(ab)>" + pathText(25), "()>" + pathText(22), "(a)>()"}, [][]int64{{2, 2}}, "(()())"}, {[]string{"()>" + pathText(22), "()>" + pathText(21)}, [][]int64{{1, 1}, {3, 1}}, "(" + pathText(21) + "(()))"},
	} {
		rules := systemOf(c.rules...)
		steps, code := impl.StepsOf(x, rules)
		wantPairs(t, fmt.Sprint("StepsOf ", rules), steps, code, c.want)
		first, code := impl.FirstStep(x, rules)
		wantTree(t, fmt.Sprint("FirstStep ", rules), first, code, c.first)
		normal, code := impl.IsNormal(x, rules)
		wantAnswer(t, fmt.Sprint("IsNormal ", rules), normal, code, false)
		checkSteps(t, "(()(()))", rules)
	}
}

// TestWithoutOpenSteps has trees that are normal, and trees with steps none of which is open.
func TestWithoutOpenSteps(t *testing.T) {
	for _, c := range []struct {
		text   string
		normal bool
		rules  []string
	}{
		{"()", true, []string{"(a)>a"}}, {"(()(()))", true, []string{"(abc)>a"}}, {"(()(()))", true, []string{"((a)b)>(ab)", "(abc)>a", "(a(b(c)))>a", "((a))>a", "((ab))>a", "(((a)))>a"}},
		{pathText(24), true, []string{"(ab)>a", "(abc)>a"}}, {starText(24), true, []string{"(a)>a", "((a)b)>a"}}, {"()", true, []string{pathText(30) + ">()"}},
		{"()", false, []string{"()>" + pathText(25)}}, {"(()(()))", false, []string{"(ab)>" + starText(25)}}, {pathText(24), false, []string{"(a)>((a))"}},
		{starText(24), false, []string{"()>(())", "()>(()())"}}, {pathText(13), false, []string{"(" + pathText(12) + ")>(" + pathText(12) + pathText(12) + ")", "(abc)>a"}},
		{pathText(24), false, []string{"()>(())", "(ab)>a"}}, {starText(24), false, []string{"(ab)>a", "()>((()))"}},
	} {
		x, rules := parsed(c.text), systemOf(c.rules...)
		what := fmt.Sprint(" ", c.text, " ", rules)
		normal, code := impl.IsNormal(x, rules)
		wantAnswer(t, "IsNormal"+what, normal, code, c.normal)
		steps, code := impl.StepsOf(x, rules)
		wantPairs(t, "StepsOf"+what, steps, code, nil)
		first, code := impl.FirstStep(x, rules)
		wantCode(t, "FirstStep"+what, first, code, impl.ErrNotFound)
		for _, k := range []int64{0, 1, impl.MaxSteps} {
			end, count, code := impl.NormalTree(x, rules, k)
			if c.normal {
				wantTree(t, "NormalTree"+what, end, code|count, c.text)
			} else if got, code := counted(end, count, code); true {
				wantCode(t, "NormalTree"+what, got, code, impl.ErrLimit)
			}
		}
		reached, code := impl.ReachedTrees(x, rules)
		wantTrees(t, "ReachedTrees"+what, reached, code, []string{c.text})
		loops, code := impl.Loops(x, rules)
		wantAnswer(t, "Loops"+what, loops, code, false)
	}
}

// checkNormal holds what is told of the tree at the end of at most k first steps against the model, and returns the code.
func checkNormal(t *testing.T, text string, rules []impl.Rule, k int64) int64 {
	t.Helper()
	end, count, code := impl.NormalTree(parsed(text), rules, k)
	what := fmt.Sprint("NormalTree ", text, " ", rules, " ", k)
	want, wantedCount, ok := normalText(text, rules, k)
	if !ok {
		got, code := counted(end, count, code)
		wantCode(t, what, got, code, impl.ErrLimit)
		return code
	}
	wantTree(t, what, end, code, want)
	wantNumber(t, "the number of steps of "+what, count, code, wantedCount)
	return code
}

func TestNormalTrees(t *testing.T) {
	found := map[int64]int{}
	for i, rules := range someSystems(60, 2) {
		for _, text := range []string{someText(8, uint64(i)), someText(16, uint64(i)), someText(24, uint64(i)), treeTexts(6)[i%42]} {
			for _, k := range []int64{0, 1, 2, 5, 11, impl.MaxSteps} {
				found[checkNormal(t, text, rules, k)]++
			}
		}
	}
	if found[impl.ErrNone] < 50 || found[impl.ErrLimit] < 50 {
		t.Errorf("normal trees found, by their codes: %v", found)
	}
	for i, r := range rulesUpTo(3) {
		for _, text := range treesUpTo(4) {
			checkNormal(t, text, []impl.Rule{r}, int64(i%7))
		}
	}
}

// sortingRules and longSorting have systems and trees from which just MaxSteps first steps lead to a normal tree, and
// one more.
func sortingRules() []impl.Rule { return systemOf("((a)())>((a()))", "(()())>((()))") }

func longSorting() (string, []impl.Rule) {
	return "(()()" + sortingText(10, 0) + ")", append(sortingRules(), ruleOf("(()()a)>(a)"))
}

// TestNumbersOfFirstSteps has just as many steps as are allowed, and one more, and systems that never come to an end.
func TestNumbersOfFirstSteps(t *testing.T) {
	long, longRules := longSorting()
	for _, c := range []struct {
		text  string
		rules []impl.Rule
		count int64
		end   string
	}{
		{"()", systemOf("(a)>a"), 0, "()"}, {"(()(()))", systemOf("(a)>a"), 1, "(()())"}, {pathText(24), systemOf("(a)>a"), 23, "()"}, {pathText(24), systemOf("((a))>a"), 11, "(())"},
		{starText(24), systemOf("(a)>a", "(()())>()"), 0, starText(24)}, {sortingText(6, 11), sortingRules()[:1], 66, strings.Repeat("(", 11) + sortingText(6, 0) + strings.Repeat(")", 11)},
		{"((()())(()()))", systemOf("(ab)>b"), 2, "()"}, {"((()())(()()))", systemOf("(()())>()"), 3, "()"},
		{sortingText(10, 0), sortingRules(), 100, pathText(21)}, {long, longRules, 101, pathText(22)},
	} {
		for k := int64(0); k <= impl.MaxSteps; k++ {
			end, count, code := impl.NormalTree(parsed(c.text), c.rules, k)
			what := fmt.Sprint("NormalTree ", c.text, " ", c.rules, " ", k)
			if k < c.count {
				got, code := counted(end, count, code)
				wantCode(t, what, got, code, impl.ErrLimit)
				continue
			}
			wantNumber(t, "the number of steps of "+what, count, code, c.count)
			wantTree(t, what, end, code, c.end)
		}
	}
	for _, rules := range [][]impl.Rule{systemOf("(ab)>(ba)"), systemOf("()>()"), systemOf("(a)>a", "()>(())"), systemOf("(ab)>(ab)", "(a)>a"), systemOf("((a)b)>(a(b))", "(a(b))>((a)b)")} {
		for _, k := range []int64{0, 1, 99, 100} {
			if code := checkNormal(t, "(()(()))", rules, k); code != impl.ErrLimit {
				t.Errorf("NormalTree by %v in %d steps: code %d", rules, k, code)
			}
		}
	}
}

func TestNormalTreeRefuses(t *testing.T) {
	for _, text := range []string{"()", "(()(()))", pathText(24)} {
		for _, k := range append(farNumbers(), -1, -2, -100, impl.MaxSteps+1, impl.MaxSteps+2, math.MinInt64) {
			for _, rules := range [][]impl.Rule{systemOf("(a)>a"), systemOf("()>()"), systemOf("()>" + pathText(30)), systemOf("(abc)>a")} {
				got, code := counted(impl.NormalTree(parsed(text), rules, k))
				wantCode(t, fmt.Sprint("NormalTree ", text, " ", rules, " ", k), got, code, impl.ErrRange)
			}
		}
	}
}

// checkReached holds what is told of the trees that are reached against the model, and returns how many they are, 0 if
// they are more than MaxSteps.
func checkReached(t *testing.T, text string, rules []impl.Rule) int {
	t.Helper()
	what := fmt.Sprint(" ", text, " ", rules)
	crossings := crossingTexts(text, rules)
	reached, code := impl.ReachedTrees(parsed(text), rules)
	loops, codeOfLoops := impl.Loops(parsed(text), rules)
	if len(crossings) == manyReached {
		wantCode(t, "ReachedTrees"+what, reached, code, impl.ErrLimit)
		wantCode(t, "Loops"+what, loops, codeOfLoops, impl.ErrLimit)
		return 0
	}
	wantTrees(t, "ReachedTrees"+what, reached, code, reachedTexts(text, rules))
	wantAnswer(t, "Loops"+what, loops, codeOfLoops, comesBack(crossings))
	return len(crossings)
}

func TestReachedTrees(t *testing.T) {
	found := map[bool]int{}
	for i, rules := range someSystems(60, 3) {
		for _, text := range []string{someText(6, uint64(i)), someText(9, uint64(i)), someText(24, uint64(i)), treeTexts(5)[i%14]} {
			found[checkReached(t, text, rules) > 1]++
			found[checkReached(t, text, rules[:1]) > 1]++
		}
	}
	if found[true] < 100 || found[false] < 100 {
		t.Errorf("more than one tree is reached, and not: %v", found)
	}
}

func TestReachedTreesBySmallRules(t *testing.T) {
	for i, r := range rulesUpTo(3) {
		// Rules that let trees grow at leaves reach very many, so that a few of these are enough.
		if r.Left == "()" && i > 3 {
			continue
		}
		for _, text := range treesUpTo(4) {
			checkReached(t, text, []impl.Rule{r})
		}
	}
}

// TestNumbersOfReachedTrees has trees of which just MaxSteps are reached, one less, and one more.
func TestNumbersOfReachedTrees(t *testing.T) {
	shrinking := ruleOf("(a)>a")
	for _, c := range []struct {
		text  string
		rules []impl.Rule
		want  int
	}{
		{"()", systemOf("(a)>a"), 1}, {"(()())", systemOf("(a)>a"), 1}, {"(()())", systemOf("(ab)>(ba)"), 1}, {"(()(()))", systemOf("(ab)>(ba)"), 2}, {pathText(24), systemOf("(a)>a"), 24},
		{"(" + pathText(10) + pathText(10) + ")", []impl.Rule{shrinking}, 100}, {"(" + pathText(10) + pathText(10) + ")", []impl.Rule{shrinking, ruleOf("(()())>(()()())")}, 0},
		{"(" + pathText(10) + pathText(10) + ")", []impl.Rule{shrinking, ruleOf("(()())>()")}, 0}, {"(" + pathText(11) + pathText(9) + ")", []impl.Rule{shrinking}, 99},
		{"(" + pathText(11) + pathText(9) + ")", []impl.Rule{shrinking, ruleOf("(()())>()")}, 100}, {"(" + pathText(11) + pathText(10) + ")", []impl.Rule{shrinking}, 0},
		{"(" + pathText(5) + pathText(5) + pathText(4) + ")", []impl.Rule{shrinking}, 100}, {starText(24), systemOf("()>(())"), 1}, {starText(14), systemOf("()>(())"), 0},
	} {
		x := parsed(c.text)
		what := fmt.Sprint(" ", c.text, " ", c.rules)
		reached, code := impl.ReachedTrees(x, c.rules)
		loops, codeOfLoops := impl.Loops(x, c.rules)
		meet, codeOfMeet := impl.MeetAgain(x, x, c.rules)
		if c.want == 0 {
			wantCode(t, "ReachedTrees"+what, reached, code, impl.ErrLimit)
			wantCode(t, "Loops"+what, loops, codeOfLoops, impl.ErrLimit)
			wantCode(t, "MeetAgain"+what, meet, codeOfMeet, impl.ErrLimit)
		} else {
			wantNumber(t, "the number of ReachedTrees"+what, int64(len(reached)), code|codeOfLoops, int64(c.want))
			wantList(t, "MeetAgain"+what, meet.Degrees, codeOfMeet, reached[0].Degrees...)
		}
		checkReached(t, c.text, c.rules)
	}
}

// TestListedLoops has loops of one step, of several, loops that are only reached, and none.
func TestListedLoops(t *testing.T) {
	for _, c := range []struct {
		text  string
		rules []string
		want  bool
	}{
		{"()", []string{"()>()"}, true}, {"(()())", []string{"(ab)>(ba)"}, true}, {"(()(()))", []string{"(ab)>(ab)"}, true}, {"()", []string{"(a)>(a)"}, false},
		{"(()(()))", []string{"(ab)>(ba)"}, true}, {"(()(())((())))", []string{"(abc)>(bca)"}, true}, {"(()(()))", []string{"(a(b))>((a)b)", "((a)b)>(a(b))"}, true},
		{"(()(()))", []string{"(a(b))>((a)b)"}, false}, {"((())())", []string{"(a(b))>((a)b)"}, false}, {"(())", []string{"(a)>(aa)"}, false},
		{"(()()())", []string{"(()()())>(()(()))", "(()(()))>((())())", "((())())>(()())", "(()())>((()))", "((()))>(()())"}, true},
		{"(()()())", []string{"(()()())>(()(()))", "(()(()))>((())())", "((())())>(()())", "(()())>((()))", "(((a)))>()"}, false},
		{"(()()())", []string{"(()()())>(()())", "(()())>(())", "(())>()", "(((a)))>((a))"}, false},
		// A leaf alone is reached, and loops; a tree beside it does not.
		{pathText(4), []string{"(a)>a", "()>()"}, true}, {"(()()())", []string{"(abc)>(ab)", "(()())>(()())"}, true}, {"(()()())", []string{"(abc)>(ab)", "((a)b)>((a)b)"}, false},
		{"(()(()))", []string{"(a)>()", "(()())>()"}, false}, {pathText(24), []string{"()>(())"}, false}, {pathText(24), []string{"(a)>a", "((()))>(())", "(())>((()))"}, true},
		{pathText(23), []string{"()>(())"}, false}, {"()", []string{"()>(())", "((a))>(a)"}, true}, {pathText(20), []string{"()>(())", "(a)>((a))"}, false},
	} {
		x, rules := parsed(c.text), systemOf(c.rules...)
		loops, code := impl.Loops(x, rules)
		// Leaves that become paths grow until there is no room: some such systems reach too many trees.
		if len(crossingTexts(c.text, rules)) == manyReached {
			t.Fatalf("too many trees are reached from %s by %v", c.text, rules)
		}
		wantAnswer(t, fmt.Sprint("Loops ", c.text, " ", rules), loops, code, c.want)
		checkReached(t, c.text, rules)
	}
}

// checkMeeting holds the first tree that is reached from both against the model.
func checkMeeting(t *testing.T, text, other string, rules []impl.Rule) string {
	t.Helper()
	meet, code := impl.MeetAgain(parsed(text), parsed(other), rules)
	what := fmt.Sprint("MeetAgain ", text, " ", other, " ", rules)
	want := meetingText(text, other, rules)
	switch {
	case reachedTexts(text, rules) == nil || reachedTexts(other, rules) == nil:
		wantCode(t, what, meet, code, impl.ErrLimit)
	case want == "":
		wantCode(t, what, meet, code, impl.ErrNotFound)
	default:
		wantTree(t, what, meet, code, want)
	}
	return want
}

func TestMeetAgain(t *testing.T) {
	found := map[bool]int{}
	for i, rules := range someSystems(40, 4) {
		rules = rules[:1+i%2*(len(rules)-1)]
		for k, text := range treeTexts(4) {
			other := treeTexts(5)[(i+3*k)%14]
			found[checkMeeting(t, text, other, rules) != ""]++
			checkMeeting(t, other, text, rules)
		}
		// Trees behind two steps of one tree often meet again.
		moves := modelOf(treeTexts(6)[i]).openMoves(rules)
		for k := 0; k < len(moves) && k < 4; k++ {
			found[checkMeeting(t, moves[k].behind, moves[len(moves)-1].behind, rules) != ""]++
		}
	}
	if found[true] < 20 || found[false] < 20 {
		t.Errorf("trees that meet, and do not: %v", found)
	}
}

// TestListedMeetings has trees that meet at one of them, at another one, at several, never, and such with too many.
func TestListedMeetings(t *testing.T) {
	wide := "(" + pathText(11) + pathText(10) + ")"
	for _, c := range []struct {
		text, other string
		rules       []string
		want        string
		code        int64
	}{
		{"()", "()", []string{"(a)>a"}, "()", impl.ErrNone}, {"(())", "()", []string{"(a)>a"}, "()", impl.ErrNone}, {"()", "(())", []string{"(a)>a"}, "()", impl.ErrNone},
		{"(()(()))", "(()())", []string{"(a)>a"}, "(()())", impl.ErrNone}, {"(()(()))", "((())())", []string{"(a)>a"}, "(()())", impl.ErrNone},
		{"(()(()))", "((())())", []string{"(ab)>(ba)"}, "(()(()))", impl.ErrNone}, {"((())())", "(()(()))", []string{"(ab)>(ba)"}, "(()(()))", impl.ErrNone},
		{"(()(()))", "((())())", []string{"((a)b)>(a(b))"}, "(()(()))", impl.ErrNone}, {"(()(()))", "((())())", []string{"(a(b))>((a)b)"}, "((())())", impl.ErrNone},
		{"(()(()))", "((())())", []string{"(abc)>a"}, "", impl.ErrNotFound}, {"()", "(()())", []string{"(a)>a"}, "", impl.ErrNotFound}, {"((()()))", "(((())))", []string{"(a)>a"}, "", impl.ErrNotFound},
		{pathText(5), "((()()))", []string{"(a)>a", "(ab)>b"}, "()", impl.ErrNone}, {pathText(5), pathText(3), []string{"((a))>(a)"}, "(())", impl.ErrNone},
		{starText(24), pathText(24), []string{"(a)>a"}, "", impl.ErrNotFound}, {starText(24), starText(24), []string{"()>(())"}, starText(24), impl.ErrNone},
		// One of both, or both, reach too many trees, also where they meet.
		{wide, "(()())", []string{"(a)>a"}, "", impl.ErrLimit}, {"(()())", wide, []string{"(a)>a"}, "", impl.ErrLimit}, {wide, wide, []string{"(a)>a"}, "", impl.ErrLimit},
		{wide, "()", []string{"(a)>a"}, "", impl.ErrLimit}, {"()", wide, []string{"(a)>a"}, "", impl.ErrLimit},
	} {
		rules := systemOf(c.rules...)
		meet, code := impl.MeetAgain(parsed(c.text), parsed(c.other), rules)
		what := fmt.Sprint("MeetAgain ", c.text, " ", c.other, " ", rules)
		if c.code == impl.ErrNone {
			wantTree(t, what, meet, code, c.want)
		} else {
			wantCode(t, what, meet, code, c.code)
		}
		checkMeeting(t, c.text, c.other, rules)
	}
}

func TestSystemsRefuse(t *testing.T) {
	for _, rules := range badSystems() {
		for _, calls := range []map[string]func(x impl.Tree, rules []impl.Rule) (any, int64){ofSystem, ofSystemBeside} {
			for name, f := range calls {
				for _, text := range []string{"()", "(()(()))", starText(24)} {
					got, code := f(parsed(text), rules)
					wantCode(t, fmt.Sprint(name, " ", text, " ", len(rules), " rules"), got, code, impl.ErrSyntax)
				}
				for _, bad := range badTrees() {
					got, code := f(bad, rules)
					wantCode(t, fmt.Sprint(name, " of no tree ", bad, " ", len(rules), " rules"), got, code, impl.ErrInvalid)
				}
			}
		}
	}
	for _, bad := range badTrees() {
		for name, f := range ofSystem {
			got, code := f(bad, systemOf("(a)>a"))
			wantCode(t, fmt.Sprint(name, " of no tree ", bad), got, code, impl.ErrInvalid)
		}
	}
}

// TestSystemsOfManyRules has systems of one rule, and of MaxRules.
func TestSystemsOfManyRules(t *testing.T) {
	for _, text := range []string{"()", "(()(()))", "((()())(()()))"} {
		for n := 1; n <= impl.MaxRules; n++ {
			for _, rules := range [][]impl.Rule{slices.Repeat(systemOf("(ab)>b"), n), systemOf("(a)>a", "(ab)>(ba)", "()>()", "((a)b)>(ab)", "(abc)>a", "(a(b))>((a)b)")[:n]} {
				checkSteps(t, text, rules)
				checkNormal(t, text, rules, 7)
				checkReached(t, text, rules)
				checkMeeting(t, text, text, rules)
			}
		}
	}
}

func TestCriticalPlaces(t *testing.T) {
	lefts := append(patternsUpTo(4), longPatterns()...)
	for _, p := range lefts {
		for _, q := range lefts {
			if len(p) == 1 || len(q) == 1 {
				continue
			}
			r, s := impl.Rule{Left: p, Right: "()"}, impl.Rule{Left: q, Right: "(())"}
			places, code := impl.CriticalPlaces(r, s)
			wantList(t, "CriticalPlaces "+p+" "+q, places, code, criticalIn(r, s)...)
		}
	}
}

func TestListedCriticalPlaces(t *testing.T) {
	for _, c := range []struct {
		r, s string
		want []int64
	}{
		{"((a)b)>(ab)", "((a)b)>(ab)", []int64{0}}, {"(a)>a", "(a)>a", []int64{0}}, {"()>(())", "()>()", []int64{0}}, {"(ab)>a", "((ab)c)>a", []int64{0, 1}},
		{"(ab)>a", "(a(bc))>(cb)", []int64{0, 2}}, {"(a)>a", "((a)b)>b", []int64{1}}, {"(a)>a", "(ab)>b", nil}, {"()>(())", "(ab)>(ba)", nil}, {"()>(())", "(()a)>a", []int64{1}},
		{"()>(())", "(a()(b()))>b", []int64{2, 6}}, {"(a)>a", "(((b)))>b", []int64{0, 1, 2}}, {"((a))>a", "(((b)))>b", []int64{0, 1, 2}}, {"((()))>()", "(((b)))>b", []int64{1, 2}},
		{"((()))>()", "((()b))>b", nil}, {"((((a))))>a", "(((b))())>b", []int64{1, 2}}, {"(((a))())>a", "((((b))))>b", nil}, {"((a)b)>a", "(c(d))>c", []int64{0}}, {"((a)b)>a", "(()(d))>d", nil}, {"(abc)>a", "((abc)(def)(gh))>a", []int64{0, 1, 6}},
		{"(ab)>a", "(ba)>a", []int64{0}}, {pathText(30) + ">()", "(a)>a", []int64{0}}, {"(a)>a", pathText(30) + ">()", countedTo(0, 28)}, {pathText(30) + ">()", pathText(30) + ">()", []int64{0}},
		// What is common has more than MaxPattern bytes, or more than eight letters, and goes together all the same.
		{"((abcdefgh)a)>()", "((a)(bcdefgh))>()", nil}, {"(h(abcdefg))>h", "((abcdefg)h)>h", []int64{0}},
		{"(" + pathText(28) + "a)>()", "(b" + pathText(28) + ")>()", []int64{0}}, {"(a" + starText(20) + ")>()", "((b)" + "c)>()", []int64{0}},
	} {
		if !isRuleText(c.r) {
			continue
		}
		r, s := ruleOf(c.r), ruleOf(c.s)
		places, code := impl.CriticalPlaces(r, s)
		wantList(t, "CriticalPlaces "+c.r+" "+c.s, places, code, c.want...)
		wantList(t, "the model of "+c.r+" "+c.s, criticalIn(r, s), impl.ErrNone, c.want...)
	}
}
