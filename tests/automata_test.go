package tests

import (
	"fmt"
	"math"
	"regexp"
	"slices"
	"strings"
	"testing"

	"loop.example/g01391/impl"
)

// ofAutomaton has each function of an automaton, with other arguments that are as told.
var ofAutomaton = map[string]func(a impl.Automaton) (any, int64){
	"StatesOf":           func(a impl.Automaton) (any, int64) { return pair(impl.StatesOf(a, parsed("(()(()))"))) },
	"TakesTree":          func(a impl.Automaton) (any, int64) { return pair(impl.TakesTree(a, parsed("(()(()))"))) },
	"CountTaken":         func(a impl.Automaton) (any, int64) { return pair(impl.CountTaken(a, 9)) },
	"CountByState":       func(a impl.Automaton) (any, int64) { return pair(impl.CountByState(a, 9)) },
	"CountByState, one":  func(a impl.Automaton) (any, int64) { return pair(impl.CountByState(a, 1)) },
	"ReachedStates":      func(a impl.Automaton) (any, int64) { return pair(impl.ReachedStates(a)) },
	"FirstOfState":       func(a impl.Automaton) (any, int64) { return pair(impl.FirstOfState(a, 0)) },
	"FirstTaken":         func(a impl.Automaton) (any, int64) { return pair(impl.FirstTaken(a)) },
	"OppositeAutomaton":  func(a impl.Automaton) (any, int64) { return pair(impl.OppositeAutomaton(a)) },
	"CombineAutomata":    func(a impl.Automaton) (any, int64) { return pair(impl.CombineAutomata(a, oneState(0), 1)) },
	"CombineAutomata, b": func(a impl.Automaton) (any, int64) { return pair(impl.CombineAutomata(oneState(0), a, 2)) },
	"CombineAutomata, 2": func(a impl.Automaton) (any, int64) { return pair(impl.CombineAutomata(a, a, 0)) },
	"LeastAutomaton":     func(a impl.Automaton) (any, int64) { return pair(impl.LeastAutomaton(a)) },
	"AreAlike":           func(a impl.Automaton) (any, int64) { return pair(impl.AreAlike(a, oneState())) },
	"AreAlike, b":        func(a impl.Automaton) (any, int64) { return pair(impl.AreAlike(oneState(), a)) },
	"AreAlike, 2":        func(a impl.Automaton) (any, int64) { return pair(impl.AreAlike(a, a)) },
	"AutomatonText":      func(a impl.Automaton) (any, int64) { return pair(impl.AutomatonText(a)) },
}

// besideWrong has each function of an automaton and more, with other arguments that are not as told.
var besideWrong = map[string]func(a impl.Automaton, x int64) (any, int64){
	"StatesOf":           func(a impl.Automaton, x int64) (any, int64) { return pair(impl.StatesOf(a, degreesOf(x))) },
	"TakesTree":          func(a impl.Automaton, x int64) (any, int64) { return pair(impl.TakesTree(a, degreesOf(x))) },
	"CountTaken":         func(a impl.Automaton, x int64) (any, int64) { return pair(impl.CountTaken(a, x)) },
	"CountByState":       func(a impl.Automaton, x int64) (any, int64) { return pair(impl.CountByState(a, x)) },
	"FirstOfState":       func(a impl.Automaton, x int64) (any, int64) { return pair(impl.FirstOfState(a, x)) },
	"CombineAutomata":    func(a impl.Automaton, x int64) (any, int64) { return pair(impl.CombineAutomata(a, nodesModulo(9), x)) },
	"CombineAutomata, b": func(a impl.Automaton, x int64) (any, int64) { return pair(impl.CombineAutomata(nodesModulo(9), a, x)) },
}

func wantAutomaton(t *testing.T, what string, got impl.Automaton, code int64, want impl.Automaton) {
	t.Helper()
	if !sameAutomaton(got, want) || code != impl.ErrNone {
		t.Errorf("%s = %v, code %d; want %v, code 0", what, got, code, want)
	}
}

func TestLimitsOfAutomata(t *testing.T) {
	if impl.MaxStates != 9 {
		t.Errorf("MaxStates = %d", impl.MaxStates)
	}
}

func TestIsAutomaton(t *testing.T) {
	for _, a := range manyAutomata() {
		if !impl.IsAutomaton(a) {
			t.Errorf("IsAutomaton(%v) = false", a)
		}
	}
	for _, bad := range badAutomata() {
		if impl.IsAutomaton(bad) {
			t.Errorf("IsAutomaton(%v) = true", bad)
		}
	}
}

// TestIsAutomatonOfShortLists holds all structs of at most two lists of two short steps against the
// model.
func TestIsAutomatonOfShortLists(t *testing.T) {
	found := 0
	rows := slices.DeleteFunc(listsOf(2, 2), func(list []int64) bool { return len(list) == 0 })
	tables := [][][]int64{nil}
	for _, x := range rows {
		tables = append(tables, [][]int64{x})
		for _, y := range rows {
			tables = append(tables, [][]int64{x, y})
		}
	}
	for _, steps := range tables {
		for start := int64(-1); start <= 2; start++ {
			for _, good := range listsOf(2, 2) {
				a := impl.Automaton{Start: start, Steps: steps, Good: good}
				yes := impl.IsAutomaton(a)
				if yes != isAutomatonByNumbers(a) {
					t.Errorf("IsAutomaton(%v) = %v", a, yes)
				}
				if yes {
					found++
				}
			}
		}
	}
	if found != len(smallAutomata()) {
		t.Errorf("%d automata found", found)
	}
}

// TestIsAutomatonWithOtherNumbers changes one number, or one list, of larger automata.
func TestIsAutomatonWithOtherNumbers(t *testing.T) {
	check := func(a impl.Automaton) {
		t.Helper()
		if yes := impl.IsAutomaton(a); yes != isAutomatonByNumbers(a) {
			t.Errorf("IsAutomaton(%v) = %v", a, yes)
		}
	}
	for _, a := range []impl.Automaton{nodesModulo(3, 0, 2), heightUpTo(8, 3, 4, 7), nodesUpTo(9, 1), doubling(9, 0, 8)} {
		m := int64(len(a.Steps))
		for _, start := range []int64{-1, 0, m - 1, m, 9, math.MaxInt64, math.MinInt64} {
			check(impl.Automaton{Start: start, Steps: a.Steps, Good: a.Good})
		}
		for _, good := range append(changedLists(a.Good), countedTo(0, m-1), countedTo(0, m), countedTo(-1, m-1)) {
			check(impl.Automaton{Start: a.Start, Steps: a.Steps, Good: good})
		}
		for s := range a.Steps {
			for _, list := range append(changedLists(a.Steps[s]), a.Steps[s][1:], nil) {
				steps := slices.Clone(a.Steps)
				steps[s] = list
				check(impl.Automaton{Start: a.Start, Steps: steps, Good: a.Good})
			}
			check(impl.Automaton{Start: a.Start, Steps: slices.Delete(slices.Clone(a.Steps), s, s+1)})
			check(impl.Automaton{Start: a.Start, Steps: slices.Insert(slices.Clone(a.Steps), s, a.Steps[s])})
		}
	}
}

func TestNoAutomaton(t *testing.T) {
	for _, bad := range badAutomata() {
		for name, f := range ofAutomaton {
			got, code := f(bad)
			wantCode(t, fmt.Sprint(name, " ", bad), got, code, impl.ErrInvalid)
		}
		for name, f := range besideWrong {
			for _, x := range []int64{-1, 0, 1, 31, math.MaxInt64, math.MinInt64} {
				got, code := f(bad, x)
				wantCode(t, fmt.Sprint(name, " ", bad, " ", x), got, code, impl.ErrInvalid)
			}
		}
	}
}

func TestStates(t *testing.T) {
	for _, text := range manyTexts() {
		x := parsed(text)
		for _, a := range manyAutomata() {
			want := statesByText(a, text)
			states, code := impl.StatesOf(a, x)
			wantList(t, fmt.Sprint("StatesOf ", a, " ", text), states, code, want...)
			yes, code := impl.TakesTree(a, x)
			wantAnswer(t, fmt.Sprint("TakesTree ", a, " ", text), yes, code, isGoodIn(a, want[0]))
		}
	}
}

func TestStatesOfExamples(t *testing.T) {
	a := automatonOf("0:1111/2222/2222/1111:2")
	states, code := impl.StatesOf(a, parsed("()"))
	wantList(t, "StatesOf one node", states, code, 0)
	states, code = impl.StatesOf(a, parsed("(()(()))"))
	wantList(t, "StatesOf the example", states, code, 2, 0, 1, 0)
	states, code = impl.StatesOf(heightUpTo(9, 8), parsed(pathText(impl.MaxNodes)))
	wantList(t, "StatesOf a path", states, code, append(slices.Repeat([]int64{8}, impl.MaxNodes-8), 7, 6, 5, 4, 3, 2, 1, 0)...)
	states, code = impl.StatesOf(nodesModulo(9), parsed(starText(impl.MaxNodes)))
	wantList(t, "StatesOf a star", states, code, append([]int64{impl.MaxNodes % 9}, slices.Repeat([]int64{1}, impl.MaxNodes-1)...)...)
	// The state from which a step leads, and the state of the child by which it leads, are not the same.
	states, code = impl.StatesOf(automatonOf("2:210/001/120:"), parsed("(()(()())())"))
	wantList(t, "StatesOf with other orders", states, code, statesByText(automatonOf("2:210/001/120:"), "(()(()())())")...)
}

// automatonOf reads a text of digits that is that of an automaton.
func automatonOf(text string) impl.Automaton {
	parts := strings.Split(text, ":")
	lists := strings.Split(parts[1], "/")
	steps := func(s, c int64) int64 { return int64(strings.IndexByte("012345678", lists[s][c])) }
	var good []int64
	for _, c := range parts[2] {
		good = append(good, int64(c-'0'))
	}
	return byRule(int64(len(lists)), int64(parts[0][0]-'0'), steps, good...)
}

func TestStatesRefuse(t *testing.T) {
	for _, bad := range badTrees() {
		for _, a := range append(badAutomata(), oneState(0), nodesModulo(9, 3)) {
			states, code := impl.StatesOf(a, bad)
			wantCode(t, fmt.Sprint("StatesOf ", a, bad), states, code, impl.ErrInvalid)
			yes, code := impl.TakesTree(a, bad)
			wantCode(t, fmt.Sprint("TakesTree ", a, bad), yes, code, impl.ErrInvalid)
		}
	}
}

// TestCountsOfSmallTreesByStates counts the trees one by one.
func TestCountsOfSmallTreesByStates(t *testing.T) {
	for n := 1; n <= 7; n++ {
		texts := treeTexts(n)
		for _, a := range manyAutomata() {
			want := make([]int64, len(a.Steps))
			for _, text := range texts {
				want[statesByText(a, text)[0]]++
			}
			counts, code := impl.CountByState(a, int64(n))
			wantList(t, fmt.Sprint("CountByState ", a, " ", n), counts, code, want...)
		}
	}
}

func TestCounts(t *testing.T) {
	for _, a := range manyAutomata() {
		known := countsByForests(a, impl.MaxCounted)
		for n := int64(1); n <= impl.MaxCounted; n++ {
			counts, code := impl.CountByState(a, n)
			wantList(t, fmt.Sprint("CountByState ", a, " ", n), counts, code, known[n]...)
			sum := int64(0)
			for _, state := range a.Good {
				sum += known[n][state]
			}
			taken, code := impl.CountTaken(a, n)
			wantNumber(t, fmt.Sprint("CountTaken ", a, " ", n), taken, code, sum)
		}
	}
}

// TestCountsByKnownNumbers holds counts against those of chapter 2 that are known by formulas.
func TestCountsByKnownNumbers(t *testing.T) {
	for n := int64(1); n <= impl.MaxCounted; n++ {
		all, code := impl.CountTaken(oneState(0), n)
		wantNumber(t, fmt.Sprint("all trees of ", n), all, code, knownTrees(n))
		none, code := impl.CountTaken(oneState(), n)
		wantNumber(t, fmt.Sprint("no trees of ", n), none, code, 0)
		for height := int64(0); height <= 7; height++ {
			within, code := impl.CountTaken(heightUpTo(9, countedTo(0, height)...), n)
			wantNumber(t, fmt.Sprint("trees of ", n, " within ", height), within, code, walksWithin(n, height))
		}
	}
	for n := int64(2); n <= impl.MaxCounted; n++ {
		want := int64(0)
		for leaves := int64(1); leaves < n; leaves += 3 {
			want += knownByLeaves(n, leaves)
		}
		taken, code := impl.CountTaken(leavesModulo(3, 1), n)
		wantNumber(t, fmt.Sprint("trees of ", n, " by leaves"), taken, code, want)
	}
}

func TestCountsByStateRefuse(t *testing.T) {
	for _, n := range badSizes(impl.MaxCounted) {
		for _, a := range []impl.Automaton{oneState(), oneState(0), nodesModulo(9, 1, 2), doubling(9, 8)} {
			counts, code := impl.CountByState(a, n)
			wantCode(t, fmt.Sprint("CountByState ", n), counts, code, impl.ErrRange)
			taken, code := impl.CountTaken(a, n)
			wantCode(t, fmt.Sprint("CountTaken ", n), taken, code, impl.ErrRange)
		}
	}
}

func TestReachedStates(t *testing.T) {
	for _, a := range manyAutomata() {
		reached, code := impl.ReachedStates(a)
		wantList(t, fmt.Sprint("ReachedStates ", a), reached, code, reachedByNodes(a)...)
	}
	for text, want := range map[string][]int64{
		"0:0:": {0}, "1:00/01:": {1}, "1:00/00:": {0, 1}, "0:01/10:": {0}, "0:10/00:": {0, 1}, "2:000/000/102:1": {2},
		"2:012/000/111:1": {0, 1, 2}, "8:888888888/888888888/888888888/888888888/888888888/888888888/888888888/888888888/888888888:": {8},
		// The state 2 comes only by the child state 1, and 3 only from 2 by the child state 2.
		"0:12444/44444/44344/44444/44444:": {0, 1, 2, 3, 4},
	} {
		reached, code := impl.ReachedStates(automatonOf(text))
		wantList(t, "ReachedStates "+text, reached, code, want...)
	}
	reached, code := impl.ReachedStates(doubling(9))
	wantList(t, "ReachedStates of great trees", reached, code, countedTo(0, 8)...)
}

// checkFirst checks a first tree of some states against the trees of at most 8 nodes in order.
func checkFirst(t *testing.T, what string, got impl.Tree, code int64, a impl.Automaton, states []int64, texts []string) {
	t.Helper()
	least := 1 << 30
	for state, nodes := range leastNodes(a) {
		if nodes > 0 && slices.Contains(states, int64(state)) {
			least = min(least, nodes)
		}
	}
	first := slices.IndexFunc(texts, func(text string) bool { return slices.Contains(states, statesByText(a, text)[0]) })
	switch {
	case least == 1<<30:
		wantCode(t, what, got, code, impl.ErrNotFound)
	case least > 8:
		wantCode(t, what, got, code, impl.ErrLimit)
	default:
		wantTree(t, what, got, code, texts[first])
	}
}

func TestFirstTrees(t *testing.T) {
	texts := textsInOrder(8)
	for _, a := range manyAutomata() {
		for state := range int64(len(a.Steps)) {
			first, code := impl.FirstOfState(a, state)
			checkFirst(t, fmt.Sprint("FirstOfState ", a, " ", state), first, code, a, []int64{state}, texts)
		}
		first, code := impl.FirstTaken(a)
		checkFirst(t, fmt.Sprint("FirstTaken ", a), first, code, a, a.Good, texts)
	}
}

func TestFirstTreesAtTheLimit(t *testing.T) {
	for nodes := int64(1); nodes <= 8; nodes++ {
		first, code := impl.FirstOfState(nodesUpTo(9), nodes-1)
		wantTree(t, fmt.Sprint("the first tree of ", nodes, " nodes"), first, code, pathText(int(nodes)))
		first, code = impl.FirstTaken(nodesUpTo(9, nodes-1, 8))
		wantTree(t, fmt.Sprint("the first tree taken of ", nodes, " nodes"), first, code, pathText(int(nodes)))
		first, code = impl.FirstOfState(heightUpTo(9), nodes-1)
		wantTree(t, fmt.Sprint("the first tree of the height ", nodes-1), first, code, pathText(int(nodes)))
	}
	for _, a := range []impl.Automaton{nodesUpTo(9, 8), heightUpTo(9, 8), nodesModulo(9, 0), doubling(9, 8), doubling(5, 4), doubling(9, 4, 6)} {
		state := a.Good[0]
		first, code := impl.FirstOfState(a, state)
		wantCode(t, fmt.Sprint("FirstOfState ", a, " ", state), first, code, impl.ErrLimit)
		first, code = impl.FirstTaken(a)
		wantCode(t, fmt.Sprint("FirstTaken ", a), first, code, impl.ErrLimit)
	}
	// Of all trees of 8 nodes it takes the last one alone.
	star := byRule(9, 0, func(s, c int64) int64 {
		if c != 0 || s == 8 {
			return 8
		}
		return s + 1
	}, 7)
	first, code := impl.FirstTaken(star)
	wantTree(t, "the first star of 8 nodes", first, code, starText(8))
	first, code = impl.FirstOfState(doubling(9), 3)
	wantNumber(t, "the first tree of the fourth state that doubles", int64(len(first.Degrees)), code, 8)
}

func TestFirstTreesRefuse(t *testing.T) {
	for _, a := range []impl.Automaton{oneState(), oneState(0), nodesModulo(3, 0), nodesUpTo(9, 8), automatonOf("1:00/01:0")} {
		for _, state := range badNodes(int64(len(a.Steps))) {
			first, code := impl.FirstOfState(a, state)
			wantCode(t, fmt.Sprint("FirstOfState ", a, " ", state), first, code, impl.ErrRange)
		}
	}
	for _, text := range []string{"0:0:", "1:00/11:0", "0:00/11:1", "0:0122/2222/2222/0123:3"} {
		a := automatonOf(text)
		first, code := impl.FirstTaken(a)
		wantCode(t, "FirstTaken "+text, first, code, impl.ErrNotFound)
		if len(a.Good) > 0 {
			first, code = impl.FirstOfState(a, a.Good[0])
			wantCode(t, "FirstOfState "+text, first, code, impl.ErrNotFound)
		}
	}
}

func TestOppositeAutomaton(t *testing.T) {
	for _, a := range manyAutomata() {
		opposite, code := impl.OppositeAutomaton(a)
		want := impl.Automaton{Start: a.Start, Steps: a.Steps}
		for state := range int64(len(a.Steps)) {
			if !isGoodIn(a, state) {
				want.Good = append(want.Good, state)
			}
		}
		wantAutomaton(t, fmt.Sprint("OppositeAutomaton ", a), opposite, code, want)
	}
}

// checkCombined checks the combined automata of two automata for all kinds.
func checkCombined(t *testing.T, a, b impl.Automaton) {
	t.Helper()
	for kind := range 3 {
		combined, code := impl.CombineAutomata(a, b, int64(kind))
		what := fmt.Sprint("CombineAutomata ", a, b, kind)
		if want := combinedByNames(a, b, kind); len(want.Steps) > 9 {
			wantCode(t, what, combined, code, impl.ErrLimit)
		} else {
			wantAutomaton(t, what, combined, code, want)
		}
	}
}

func TestCombineAutomata(t *testing.T) {
	for _, a := range smallAutomata() {
		for _, b := range smallAutomata() {
			checkCombined(t, a, b)
		}
	}
	for i, a := range largeAutomata() {
		checkCombined(t, a, a)
		checkCombined(t, a, smallAutomata()[i%130])
		checkCombined(t, smallAutomata()[i*7%130], a)
		checkCombined(t, a, largeAutomata()[i*5%100])
		checkCombined(t, heightUpTo(3, 1), a)
	}
}

func TestCombineAutomataLimits(t *testing.T) {
	nine := [][2]impl.Automaton{
		{nodesModulo(9, 1), nodesModulo(9, 2)}, {nodesModulo(9, 1), nodesModulo(3, 2)}, {nodesUpTo(9, 7), nodesUpTo(8, 7)},
		{doubling(9, 8), doubling(9, 1)}, {oneState(0), nodesModulo(9, 0, 8)}, {heightUpTo(9), oneState()},
		// One pair is that of a leaf, and 2 by 4 are those of all other trees.
		{leavesModulo(2, 0), nodesModulo(4, 0)},
	}
	for _, two := range nine {
		checkCombined(t, two[0], two[1])
		checkCombined(t, two[1], two[0])
		combined, code := impl.CombineAutomata(two[0], two[1], 1)
		wantNumber(t, fmt.Sprint("the states of ", two), int64(len(combined.Steps)), code, 9)
	}
	ten := [][2]impl.Automaton{{nodesModulo(5, 1), nodesModulo(2, 0)}, {nodesModulo(2), nodesModulo(5)}}
	more := [][2]impl.Automaton{{nodesModulo(9, 1), nodesModulo(8, 2)}, {nodesModulo(9, 1), leavesModulo(8, 2)}, {nodesUpTo(9), nodesModulo(8)}}
	for _, two := range ten {
		if names := combinedByNames(two[0], two[1], 0); len(names.Steps) != 10 {
			t.Errorf("%v has %d states", two, len(names.Steps))
		}
	}
	for _, two := range append(ten, more...) {
		for kind := range int64(3) {
			combined, code := impl.CombineAutomata(two[0], two[1], kind)
			wantCode(t, fmt.Sprint("CombineAutomata ", two, kind), combined, code, impl.ErrLimit)
		}
	}
}

func TestCombineAutomataKinds(t *testing.T) {
	// The number of nodes modulo 2 and modulo 3: the pairs are met as 1 1, 0 2, 1 0, 0 1, 1 2, 0 0.
	even, third := nodesModulo(2, 0), nodesModulo(3, 0)
	steps := nodesOfSix()
	for kind, good := range [][]int64{{5}, {1, 2, 3, 5}, {1, 2, 3}} {
		combined, code := impl.CombineAutomata(even, third, int64(kind))
		wantAutomaton(t, fmt.Sprint("CombineAutomata, kind ", kind), combined, code, impl.Automaton{Steps: steps, Good: good})
	}
	for _, a := range manyAutomata() {
		for kind, good := range map[int64]bool{0: true, 1: true, 2: false} {
			combined, code := impl.CombineAutomata(a, a, kind)
			if code != impl.ErrNone || len(combined.Steps) != len(reachedByNodes(a)) || !good && len(combined.Good) > 0 {
				t.Errorf("CombineAutomata of %v with itself, kind %d = %v, %d", a, kind, combined, code)
			}
		}
	}
}

// nodesOfSix has the steps of the number of nodes, in the order 1 to 6, modulo 6.
func nodesOfSix() [][]int64 {
	return byRule(6, 0, func(s, c int64) int64 { return (s + c + 1) % 6 }).Steps
}

// TestOrderOfPairs checks the numbers that states take: the pairs known when one is asked come in
// order, each first as the child state, and those that are met only then wait for their turn.
func TestOrderOfPairs(t *testing.T) {
	// 1 comes of 0, and then, in the turn of 1, 2 from 1 for 0, 3 from 0 for 1, and 4 from 1 for 1.
	text := "0:13000/24000/30000/00000/00000:3"
	for _, order := range ordersOf(5) {
		checkOrder(t, text, order)
		b := renumbered(automatonOf(text), order)
		least, code := impl.LeastAutomaton(b)
		wantAutomaton(t, fmt.Sprint("LeastAutomaton ", b), least, code, automatonOf(text))
	}
	// In the turn of 2 the states 3 and 4 come of it and 0, 5 and 6 of it and 1, and 7 of it alone.
	zeros := strings.Repeat("/00000000", 5)
	for _, order := range [][]int64{{0, 1, 2, 3, 4, 5, 6, 7}, {7, 6, 5, 4, 3, 2, 1, 0}, {3, 0, 7, 1, 6, 2, 5, 4}, {1, 2, 3, 4, 5, 6, 7, 0}} {
		checkOrder(t, "0:10400000/20600000/35700000"+zeros+":67", order)
	}
}

// checkOrder checks that an automaton with other numbers for its states, combined with itself or with
// one that takes all trees, has again the numbers that stand in a text.
func checkOrder(t *testing.T, text string, order []int64) {
	t.Helper()
	a := automatonOf(text)
	b := renumbered(a, order)
	combined, code := impl.CombineAutomata(b, b, 0)
	wantAutomaton(t, fmt.Sprint("CombineAutomata with itself ", b), combined, code, a)
	combined, code = impl.CombineAutomata(b, oneState(0), 0)
	wantAutomaton(t, fmt.Sprint("CombineAutomata with all trees ", b), combined, code, a)
	combined, code = impl.CombineAutomata(oneState(), b, 2)
	wantAutomaton(t, fmt.Sprint("CombineAutomata of no trees with ", b), combined, code, a)
}

func TestCombineAutomataRefuses(t *testing.T) {
	kinds := []int64{-1, 3, 4, 1 << 32, -1 << 32, math.MaxInt64, math.MinInt64}
	for _, kind := range kinds {
		// The combined automaton of the last two would be too large.
		for _, two := range [][2]impl.Automaton{{oneState(0), oneState(0)}, {nodesModulo(9, 1), nodesModulo(8, 1)}} {
			combined, code := impl.CombineAutomata(two[0], two[1], kind)
			wantCode(t, fmt.Sprint("CombineAutomata, kind ", kind), combined, code, impl.ErrRange)
		}
		for _, bad := range badAutomata() {
			combined, code := impl.CombineAutomata(bad, bad, kind)
			wantCode(t, fmt.Sprint("CombineAutomata ", bad, bad, kind), combined, code, impl.ErrInvalid)
		}
	}
}

func TestLeastAutomaton(t *testing.T) {
	for _, a := range manyAutomata() {
		want := leastByClasses(a)
		least, code := impl.LeastAutomaton(a)
		wantAutomaton(t, fmt.Sprint("LeastAutomaton ", a), least, code, want)
		again, code := impl.LeastAutomaton(want)
		wantAutomaton(t, fmt.Sprint("LeastAutomaton of a least one ", want), again, code, want)
	}
}

func TestLeastAutomataOfExamples(t *testing.T) {
	for text, want := range map[string]string{
		"0:0:": "0:0:", "0:0:0": "0:0:0", "0:01/10:": "0:0:", "1:01/10:01": "0:0:0", "1:01/10:0": "0:10/01:1", "1:00/01:0": "0:0:",
		"1:00/01:1": "0:0:0", "1:00/00:0": "0:11/11:1", "1:00/00:1": "0:11/11:0",
		// The state 2 is not reached: it would tell 0 and 1 apart as a child, or as the state before.
		"0:102/011/222:2": "0:0:", "0:102/011/222:01": "0:0:0", "0:100/010/200:2": "0:0:", "0:100/010/200:01": "0:0:0",
		// States are told apart by what comes from them alone, or by what comes for them as children alone.
		"0:1111/2222/3333/3333:2": "0:1111/2222/3333/3333:2", "0:1233/1233/1233/1233:2": "0:1233/1233/1233/1233:2",
		"3:0000/0000/1111/2222:1": "0:1111/2222/3333/3333:2", "3:0012/0012/0012/0012:1": "0:1233/1233/1233/1233:2",
	} {
		least, code := impl.LeastAutomaton(automatonOf(text))
		wantAutomaton(t, "LeastAutomaton "+text, least, code, automatonOf(want))
	}
	least, code := impl.LeastAutomaton(nodesUpTo(9, 8))
	wantAutomaton(t, "LeastAutomaton of one with its states in order", least, code, nodesUpTo(9, 8))
	least, code = impl.LeastAutomaton(nodesModulo(8, 1, 3, 5, 7))
	wantAutomaton(t, "LeastAutomaton of eight states for two", least, code, automatonOf("0:10/01:0"))
	least, code = impl.LeastAutomaton(nodesModulo(9, 0, 3, 6))
	wantAutomaton(t, "LeastAutomaton of nine states for three", least, code, automatonOf("0:120/201/012:2"))
	least, code = impl.LeastAutomaton(nodesModulo(9, 0, 3, 5))
	wantAutomaton(t, "LeastAutomaton of nine states", least, code, byRule(9, 0, func(s, c int64) int64 { return (s + c + 1) % 9 }, 2, 4, 8))
}

// TestAreAlike holds all pairs of small automata, and large ones with others, against the model.
func TestAreAlike(t *testing.T) {
	small, large := smallAutomata(), largeAutomata()
	check := func(a, b impl.Automaton) {
		t.Helper()
		want := alikeByClasses(a, b)
		yes, code := impl.AreAlike(a, b)
		wantAnswer(t, fmt.Sprint("AreAlike ", a, b), yes, code, want)
		yes, code = impl.AreAlike(b, a)
		wantAnswer(t, fmt.Sprint("AreAlike ", b, a), yes, code, want)
	}
	for i, a := range small {
		for _, b := range small[i:] {
			check(a, b)
		}
	}
	for i, a := range large {
		check(a, a)
		check(a, small[i%len(small)])
		check(a, large[i*5%len(large)])
		if m := int64(len(a.Steps)); m < impl.MaxStates {
			check(a, spread(a, impl.MaxStates, uint64(i)))
			check(a, someAutomaton(m, m, uint64(i)))
		}
	}
}

// TestAreAlikeUpToGreatTrees tells automata apart that take the same trees of at most MaxCounted nodes.
func TestAreAlikeUpToGreatTrees(t *testing.T) {
	for _, a := range []impl.Automaton{doubling(9, 8), doubling(6, 5), doubling(9, 5, 6, 7, 8)} {
		for n := int64(1); n <= impl.MaxCounted; n++ {
			taken, code := impl.CountTaken(a, n)
			wantNumber(t, fmt.Sprint("CountTaken ", a, " ", n), taken, code, 0)
		}
		yes, code := impl.AreAlike(a, oneState())
		wantAnswer(t, fmt.Sprint("AreAlike with no trees ", a), yes, code, false)
		yes, code = impl.AreAlike(doubling(9), a)
		wantAnswer(t, fmt.Sprint("AreAlike with no good states ", a), yes, code, false)
		least, code := impl.LeastAutomaton(a)
		wantNumber(t, fmt.Sprint("the states of the least automaton of ", a), int64(len(least.Steps)), code, a.Good[0]+1)
	}
	yes, code := impl.AreAlike(doubling(9, 8), doubling(9, 7, 8))
	wantAnswer(t, "AreAlike with trees of 128 nodes", yes, code, false)
	// More pairs are reached than a combined automaton may have.
	yes, code = impl.AreAlike(nodesModulo(9), nodesModulo(8))
	wantAnswer(t, "AreAlike without good states", yes, code, true)
	yes, code = impl.AreAlike(nodesModulo(9, 8), nodesModulo(8, 7))
	wantAnswer(t, "AreAlike with other numbers of nodes", yes, code, false)
	yes, code = impl.AreAlike(nodesModulo(9, 0, 3, 6), nodesModulo(6, 0, 3))
	wantAnswer(t, "AreAlike with other numbers of states", yes, code, true)
}

func TestAreAlikeRefuses(t *testing.T) {
	for _, bad := range badAutomata() {
		yes, code := impl.AreAlike(bad, bad)
		wantCode(t, fmt.Sprint("AreAlike with itself ", bad), yes, code, impl.ErrInvalid)
		yes, code = impl.AreAlike(bad, nodesModulo(9, 1))
		wantCode(t, fmt.Sprint("AreAlike, first ", bad), yes, code, impl.ErrInvalid)
		yes, code = impl.AreAlike(nodesModulo(9, 1), bad)
		wantCode(t, fmt.Sprint("AreAlike, second ", bad), yes, code, impl.ErrInvalid)
	}
}

// textByNumbers returns the text of an automaton.
func textByNumbers(a impl.Automaton) string {
	lists := strings.ReplaceAll(fmt.Sprint(a.Steps), "] [", "/")
	return strings.NewReplacer(" ", "", "[", "", "]", "").Replace(fmt.Sprint(a.Start, ":", lists, ":", a.Good))
}

func TestAutomatonTexts(t *testing.T) {
	for _, a := range manyAutomata() {
		want := textByNumbers(a)
		text, code := impl.AutomatonText(a)
		wantText(t, fmt.Sprint("AutomatonText ", a), text, code, want)
		back, code := impl.ParseAutomaton(want)
		wantAutomaton(t, "ParseAutomaton "+want, back, code, a)
	}
	for text, want := range map[string]impl.Automaton{
		"0:0:": oneState(), "0:0:0": oneState(0), "1:01/10:0": nodesModulo(2, 0), "1:012/120/201:02": nodesModulo(3, 0, 2),
		"2:111/222/000:12": byRule(3, 2, func(s, c int64) int64 { return (s + 1) % 3 }, 1, 2),
	} {
		a, code := impl.ParseAutomaton(text)
		wantAutomaton(t, "ParseAutomaton "+text, a, code, want)
		back, code := impl.AutomatonText(want)
		wantText(t, "AutomatonText "+text, back, code, text)
	}
}

// isAutomatonText reports whether a text is that of an automaton.
func isAutomatonText(text string) bool {
	found := automatonShape.FindStringSubmatch(text)
	if found == nil {
		return false
	}
	lists := strings.Split(found[2], "/")
	m := len(lists)
	if m > 9 || strings.ContainsAny(text, "0123456789"[m:]) {
		return false
	}
	return len(strings.Join(lists, "")) == m*m && !slices.ContainsFunc(lists, func(x string) bool { return len(x) != m })
}

var automatonShape = regexp.MustCompile(`\A([0-9]):([0-9/]+):(0?1?2?3?4?5?6?7?8?)\z`)

func checkAutomatonText(t *testing.T, text string) {
	t.Helper()
	a, code := impl.ParseAutomaton(text)
	if isAutomatonText(text) {
		wantAutomaton(t, fmt.Sprintf("ParseAutomaton %q", text), a, code, automatonOf(text))
	} else {
		wantCode(t, fmt.Sprintf("ParseAutomaton %.150q", text), a, code, impl.ErrSyntax)
	}
}

// TestDamagedTexts changes, puts in and takes out one byte at each place of texts.
func TestDamagedTexts(t *testing.T) {
	for _, a := range []impl.Automaton{oneState(), oneState(0), nodesModulo(2, 0), nodesModulo(3, 0, 1, 2), heightUpTo(4, 1, 3), nodesUpTo(8), nodesModulo(9, 2, 5, 8)} {
		text := textByNumbers(a)
		for i := range len(text) + 1 {
			for c := range 256 {
				checkAutomatonText(t, text[:i]+string([]byte{byte(c)})+text[i:])
				if i < len(text) {
					checkAutomatonText(t, text[:i]+string([]byte{byte(c)})+text[i+1:])
				}
			}
			checkAutomatonText(t, text[:i])
			checkAutomatonText(t, text[i:])
			checkAutomatonText(t, text[:i]+text[min(i+1, len(text)):])
			checkAutomatonText(t, text[:i]+text+text[i:])
		}
	}
}

// TestShortAutomatonTexts tries all texts of at most seven bytes of five kinds.
func TestShortAutomatonTexts(t *testing.T) {
	var try func(text string)
	try = func(text string) {
		checkAutomatonText(t, text)
		for i := 0; i < 5 && len(text) < 7; i++ {
			try(text + "01:/2"[i:i+1])
		}
	}
	try("")
}

func TestParseAutomatonRefuses(t *testing.T) {
	row, zeros := strings.Repeat("0", 10), strings.Repeat("0", 9)
	for _, text := range []string{
		"", ":", "::", ":::", "0", "0:0", "0::", ":0:", "0:0:0:", ":0:0:0", "00:0:", "0:0/:", "0:/0:", "0:0/0:", "0:00:", "0:0:00", "0:0:1",
		"1:0:", "0:1:", "0:0: ", " 0:0:", "0:0:\n", "0:0 :", "-0:0:", "+0:0:", "0:0:-", "0:0:+0", "0:0:٠", "0:a:", "a:0:", "0:0:a", "0/0/",
		"0;0;", "1:01/10:10", "1:01/10:00", "1:01/10:2", "1:01/1:0", "1:01/100:0", "1:01/10/:0", "1:01//10:0", "2:01/10:0", "1:02/10:0",
		"01:01/10:0", "1:01/10:0:", "1:0110:0", "1:0,1/1,0:0", "1:01/10:0/1", "1:01/10:0,1", "0:" + strings.Repeat(row+"/", 9) + row + ":",
		"0:" + strings.Repeat(zeros+"/", 9) + zeros + ":", "0:" + strings.Repeat(zeros+"/", 7) + zeros + ":", "9:" + strings.Repeat(zeros+"/", 8) + zeros + ":",
		"0:" + strings.Repeat(zeros+"/", 8) + zeros + ":0123456789", "0:" + strings.Repeat(zeros+"/", 8) + zeros + ":9",
		strings.Repeat("0", 1<<20), strings.Repeat(":", 1<<20), "0:" + strings.Repeat("0/", 1<<20) + ":", "0:0:" + strings.Repeat("0", 1<<20), strings.Repeat("0:0:", 1<<18),
	} {
		a, code := impl.ParseAutomaton(text)
		wantCode(t, fmt.Sprintf("ParseAutomaton of %d bytes, %.100q", len(text), text), a, code, impl.ErrSyntax)
	}
}
