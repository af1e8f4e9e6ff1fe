package tests

import (
	"fmt"
	"slices"
	"strings"
	"testing"
	"testing/synctest"

	"loop.example/g01391/impl"
)

// hasTree reports whether a list has a tree.
func hasTree(list []impl.Tree, x impl.Tree) bool {
	return slices.ContainsFunc(list, func(y impl.Tree) bool { return sameList(x.Degrees, y.Degrees) })
}

// eachSystem calls a function with systems and trees of many kinds.
func eachSystem(f func(x impl.Tree, rules []impl.Rule)) {
	for i, rules := range someSystems(80, 5) {
		for _, text := range []string{treeTexts(5)[i%14], treeTexts(6)[i%42], someText(9, uint64(i)), someText(24, uint64(i))} {
			f(parsed(text), rules)
			f(parsed(text), rules[:1])
		}
	}
	long, longRules := longSorting()
	for _, rules := range [][]impl.Rule{longRules, sortingRules(), systemOf("(a)>a"), systemOf("(ab)>(ba)")} {
		for _, text := range []string{long, sortingText(6, 11), sortingText(10, 0), "()", pathText(24), starText(24)} {
			f(parsed(text), rules)
		}
	}
}

// TestPromise10 checks promise 10 by the package's functions alone: steps lead to trees that are reached, and normal
// trees by first steps are normal.
func TestPromise10(t *testing.T) {
	eachSystem(func(x impl.Tree, rules []impl.Rule) {
		checkStepsAreReached(t, x, rules)
		checkNormalIsNormal(t, x, rules)
	})
}

// checkStepsAreReached checks that the reached trees are the tree and those behind the steps of reached ones.
func checkStepsAreReached(t *testing.T, x impl.Tree, rules []impl.Rule) {
	t.Helper()
	reached, code := impl.ReachedTrees(x, rules)
	if code == impl.ErrLimit {
		return
	}
	what := fmt.Sprint(x, " ", rules)
	if code != impl.ErrNone || !hasTree(reached, x) || len(reached) > impl.MaxSteps {
		t.Fatalf("ReachedTrees %s = %v, code %d", what, reached, code)
	}
	checkTreeOrder(t, reached)
	behind := []impl.Tree{x}
	for _, y := range reached {
		steps, code := impl.StepsOf(y, rules)
		for _, s := range steps {
			z, codeOfStep := impl.StepAt(y, s[0], rules[s[1]])
			if code|codeOfStep != impl.ErrNone || !hasTree(reached, z) {
				t.Fatalf("the step %v of %v, behind %s, leads to %v, code %d", s, y, what, z, codeOfStep)
			}
			behind = append(behind, z)
		}
	}
	for _, y := range reached {
		if !hasTree(behind, y) {
			t.Errorf("no step leads to %v, which is reached from %s", y, what)
		}
	}
}

// checkNormalIsNormal goes by first steps to the normal tree, which is reached by so many steps and not by one less.
func checkNormalIsNormal(t *testing.T, x impl.Tree, rules []impl.Rule) {
	t.Helper()
	end, count, code := impl.NormalTree(x, rules, impl.MaxSteps)
	if code == impl.ErrLimit {
		return
	}
	what := fmt.Sprint(x, " ", rules)
	normal, codeOfNormal := impl.IsNormal(end, rules)
	wantAnswer(t, "IsNormal NormalTree "+what, normal, code|codeOfNormal, true)
	last := x
	for range count {
		next, code := impl.FirstStep(last, rules)
		normal, codeOfNormal := impl.IsNormal(last, rules)
		wantAnswer(t, fmt.Sprint("IsNormal ", last, " ahead of a first step"), normal, code|codeOfNormal, false)
		last = next
	}
	wantList(t, "the first steps of "+what, last.Degrees, code, end.Degrees...)
	again, countAgain, code := impl.NormalTree(x, rules, count)
	wantList(t, "NormalTree in just so many steps, "+what, again.Degrees, code|countAgain-count, end.Degrees...)
	if count > 0 {
		less, code := counted(impl.NormalTree(x, rules, count-1))
		wantCode(t, "NormalTree in a step less, "+what, less, code, impl.ErrLimit)
	}
	again, countAgain, code = impl.NormalTree(end, rules, 0)
	wantList(t, "NormalTree NormalTree "+what, again.Degrees, code|countAgain, end.Degrees...)
	if reached, code := impl.ReachedTrees(x, rules); code == impl.ErrNone && !hasTree(reached, end) {
		t.Errorf("NormalTree %s = %v is not reached", what, end)
	}
}

// TestPromise14 checks promise 14 by the package's functions alone: rules have the critical place 0 with themselves, and
// come back from their texts.
func TestPromise14(t *testing.T) {
	rules := append(rulesUpTo(4), slices.Concat(someSystems(20, 6)...)...)
	for _, left := range longPatterns() {
		rules = append(rules, impl.Rule{Left: left, Right: "()"}, impl.Rule{Left: left, Right: left})
	}
	for _, r := range rules {
		if !impl.IsRule(r) {
			t.Fatalf("%q is no rule", r)
		}
		places, code := impl.CriticalPlaces(r, r)
		if code != impl.ErrNone || len(places) == 0 || places[0] != 0 {
			t.Errorf("CriticalPlaces of %q with itself: %v, code %d", r, places, code)
		}
		wantRuleText(t, r)
	}
}

// TestNormalTreesHaveNoSteps checks that trees are normal just if no rule leads on from a node, open or not.
func TestNormalTreesHaveNoSteps(t *testing.T) {
	eachSystem(func(x impl.Tree, rules []impl.Rule) {
		none := true
		var open [][]int64
		for v := range int64(len(x.Degrees)) {
			for i, r := range rules {
				_, code := impl.StepAt(x, v, r)
				none = none && code == impl.ErrNotFound
				if code == impl.ErrNone {
					open = append(open, []int64{v, int64(i)})
				}
			}
		}
		what := fmt.Sprint(" ", x, " ", rules)
		normal, code := impl.IsNormal(x, rules)
		wantAnswer(t, "IsNormal"+what, normal, code, none)
		steps, code := impl.StepsOf(x, rules)
		wantPairs(t, "StepsOf"+what, steps, code, open)
		first, code := impl.FirstStep(x, rules)
		if len(open) == 0 {
			wantCode(t, "FirstStep"+what, first, code, impl.ErrNotFound)
			return
		}
		step, _ := impl.StepAt(x, open[0][0], rules[open[0][1]])
		wantList(t, "FirstStep"+what, first.Degrees, code, step.Degrees...)
	})
}

// TestTreesThatDoNotLoopEnd checks that trees that do not loop lead to normal ones or to steps that are not open, and
// that trees loop just if one that is reached is reached again from one of its steps.
func TestTreesThatDoNotLoopEnd(t *testing.T) {
	found := map[bool]int{}
	for i, rules := range someSystems(120, 7) {
		x := parsed(someText(5+i%3, uint64(i)))
		loops, code := impl.Loops(x, rules)
		if code == impl.ErrLimit {
			continue
		}
		reached, codeOfReached := impl.ReachedTrees(x, rules)
		comesBack, ends := false, false
		for _, y := range reached {
			steps, _ := impl.StepsOf(y, rules)
			ends = ends || len(steps) == 0
			for _, s := range steps {
				z, _ := impl.StepAt(y, s[0], rules[s[1]])
				behind, code := impl.ReachedTrees(z, rules)
				comesBack = comesBack || code == impl.ErrNone && hasTree(behind, y)
			}
		}
		found[loops]++
		wantAnswer(t, fmt.Sprint("Loops ", x, " ", rules), loops, code|codeOfReached, comesBack)
		if !loops && !ends {
			t.Errorf("%v does not loop by %v, and does not end", x, rules)
		}
	}
	if found[true] < 10 || found[false] < 10 {
		t.Errorf("trees that loop, and do not: %v", found)
	}
}

// TestMeetingsAreReached checks that two trees meet at the first tree that is reached from both, in whatever order they
// are told, and that a tree meets each one that is reached from it.
func TestMeetingsAreReached(t *testing.T) {
	for i, rules := range someSystems(60, 8) {
		x, y := parsed(treeTexts(5)[i%14]), parsed(treeTexts(5)[(5*i+1)%14])
		fromX, codeOfX := impl.ReachedTrees(x, rules)
		fromY, codeOfY := impl.ReachedTrees(y, rules)
		meet, code := impl.MeetAgain(x, y, rules)
		other, codeOfOther := impl.MeetAgain(y, x, rules)
		what := fmt.Sprint("MeetAgain ", x, " ", y, " ", rules)
		if codeOfX|codeOfY != impl.ErrNone {
			wantCode(t, what, meet, code, impl.ErrLimit)
			wantCode(t, what+" turned", other, codeOfOther, impl.ErrLimit)
			continue
		}
		both := slices.DeleteFunc(slices.Clone(fromX), func(z impl.Tree) bool { return !hasTree(fromY, z) })
		if len(both) == 0 {
			wantCode(t, what, meet, code, impl.ErrNotFound)
			wantCode(t, what+" turned", other, codeOfOther, impl.ErrNotFound)
		} else {
			wantList(t, what, meet.Degrees, code, both[0].Degrees...)
			wantList(t, what+" turned", other.Degrees, codeOfOther, both[0].Degrees...)
		}
		for _, z := range fromX {
			fromZ, _ := impl.ReachedTrees(z, rules)
			meet, code := impl.MeetAgain(x, z, rules)
			wantList(t, fmt.Sprint("MeetAgain ", x, " ", z, " ", rules), meet.Degrees, code, fromZ[0].Degrees...)
		}
	}
}

// TestStepsFillRights checks, for rules whose Right is a pattern, that steps put the Right filled with the trees at the
// open places of the Left in the place of a subtree.
func TestStepsFillRights(t *testing.T) {
	checked := 0
	for _, r := range rulesUpTo(4) {
		if !impl.IsPattern(r.Right) {
			continue
		}
		for _, x := range parsedAll([]string{"((()())(()))", "(()((()))())", someText(12, 4), someText(24, 5), pathText(24)}) {
			for v := range int64(len(x.Degrees)) {
				open, code := impl.OpenTrees(x, v, r.Left)
				if code != impl.ErrNone {
					continue
				}
				var list []impl.Tree
				letters := pieceOf(r.Left).letters()
				for _, letter := range pieceOf(r.Right).letters() {
					list = append(list, open[strings.IndexRune(letters, letter)])
				}
				checked++
				want, wantedCode := impl.FillPattern(r.Right, list)
				if wantedCode == impl.ErrNone {
					want, wantedCode = impl.ReplaceAt(x, v, want)
				}
				step, code := impl.StepAt(x, v, r)
				wantListOrCode(t, fmt.Sprint("StepAt ", x, " ", v, " ", r), step.Degrees, code, want.Degrees, wantedCode)
			}
		}
	}
	if checked < 5000 {
		t.Errorf("%d steps checked", checked)
	}
}

// TestCriticalPlacesGoTogether checks the critical places of small rules against the trees that both match.
func TestCriticalPlacesGoTogether(t *testing.T) {
	trees := parsedAll(treesUpTo(6))
	matched := func(p string) []bool {
		var list []bool
		for _, x := range trees {
			yes, _ := impl.MatchesAt(x, 0, p)
			list = append(list, yes)
		}
		return list
	}
	lefts := slices.DeleteFunc(patternsUpTo(3), func(p string) bool { return len(p) == 1 })
	for _, p := range lefts {
		byFirst := matched(p)
		for _, q := range lefts {
			var want []int64
			for place, c := range q {
				if c != '(' {
					continue
				}
				part, _, _ := readPiece(q[place:])
				for i, yes := range matched(part.text()) {
					if yes && byFirst[i] {
						want = append(want, int64(place))
						break
					}
				}
			}
			places, code := impl.CriticalPlaces(impl.Rule{Left: p, Right: "()"}, impl.Rule{Left: q, Right: "()"})
			wantList(t, "CriticalPlaces "+p+" "+q, places, code, want...)
		}
	}
}

// guardedRules returns a system that has other rules behind it, and all of its memory.
func guardedRules(rules []impl.Rule) ([]impl.Rule, []impl.Rule) {
	memory := append(slices.Clone(rules), systemOf("()>()", "(a)>(aaa)", "(abc)>b")...)
	return memory[:len(rules)], memory
}

// TestRuleArgumentsStay checks that trees and systems stay as they are, and that results are new.
func TestRuleArgumentsStay(t *testing.T) {
	systems := append(someSystems(10, 9), systemOf("(abc)>a"), systemOf("()>"+pathText(25)), systemOf("(a)>b"), nil, sortingRules())
	for i, given := range systems {
		for _, text := range []string{"()", "(()(()))", someText(7, uint64(i)), pathText(24)} {
			x, memory := guarded(text)
			y, otherMemory := guarded(someText(6, uint64(i)))
			rules, ruleMemory := guardedRules(given)
			calls := map[string]func() (any, int64){
				"MeetAgain x, y": func() (any, int64) { return pair(impl.MeetAgain(x, y, rules)) },
				"NormalTree all": func() (any, int64) { return counted(impl.NormalTree(x, rules, impl.MaxSteps)) },
			}
			for name, f := range ofSystem {
				calls[name] = func() (any, int64) { return f(x, rules) }
			}
			for k, r := range rules {
				for v := range int64(len(x.Degrees)) {
					calls[fmt.Sprint("StepAt ", v, " ", k)] = func() (any, int64) { return pair(impl.StepAt(x, v, r)) }
				}
				calls[fmt.Sprint("CriticalPlaces ", k)] = func() (any, int64) { return pair(impl.CriticalPlaces(r, r)) }
			}
			checkStay(t, calls, func() string { return fmt.Sprint(memory, otherMemory, ruleMemory) })
		}
	}
}

// TestRulesAreNew checks that no text of a rule lies in the memory of an argument.
func TestRulesAreNew(t *testing.T) {
	for _, r := range rulesUpTo(3) {
		text, _ := impl.RuleText(r)
		if liesIn(text, r.Left) || liesIn(text, r.Right) {
			t.Errorf("RuleText %q lies in the memory of the rule", r)
		}
		back, _ := impl.ParseRule(text)
		if liesIn(back.Left, text) || liesIn(back.Right, text) || liesIn(back.Left, back.Right) {
			t.Errorf("ParseRule %q lies in the memory of the text", text)
		}
	}
}

// TestNoNodeIsLeft checks that no goroutine of a call goes on behind it, and that several calls at once return what they
// return alone.
func TestNoNodeIsLeft(t *testing.T) {
	synctest.Test(t, func(t *testing.T) {
		told := make(chan string)
		for i, rules := range someSystems(12, 10) {
			x := parsed(someText(7+i, uint64(i)))
			tellAll := func() string {
				text := ""
				for _, name := range []string{"StepsOf", "FirstStep", "IsNormal", "NormalTree", "ReachedTrees", "Loops", "MeetAgain"} {
					got, code := ofSystem[name](x, rules)
					text += fmt.Sprintln(name, got, code)
				}
				return text
			}
			alone := tellAll()
			for range 4 {
				go func() { told <- tellAll() }()
			}
			for range 4 {
				if together := <-told; together != alone {
					t.Errorf("%v by %v: %s, and at once %s", x, rules, alone, together)
				}
			}
		}
		synctest.Wait()
	})
}
