package tests

import (
	"fmt"
	"slices"
	"testing"

	"loop.example/g01391/impl"
)

// checkedTrees returns all trees of at most n nodes, and some of MaxNodes nodes.
func checkedTrees(n int) []impl.Tree { return parsedAll(append(treesUpTo(n), largeTexts()...)) }

// TestPromise6 checks promise 6 by the package's functions alone: numbers by states add up to those of
// all trees, and least automata are alike.
func TestPromise6(t *testing.T) {
	for _, a := range manyAutomata() {
		reached, _ := impl.ReachedStates(a)
		for n := int64(1); n <= impl.MaxCounted; n++ {
			counts, code := impl.CountByState(a, n)
			all, _ := impl.CountTrees(n)
			sum, good := int64(0), int64(0)
			for state, count := range counts {
				sum += count
				if slices.Contains(a.Good, int64(state)) {
					good += count
				}
				if count != 0 && !slices.Contains(reached, int64(state)) {
					t.Errorf("CountByState %v %d = %v, but %v are reached", a, n, counts, reached)
				}
			}
			wantNumber(t, fmt.Sprint("the sum of CountByState ", a, " ", n), sum, code, all)
			taken, code := impl.CountTaken(a, n)
			wantNumber(t, fmt.Sprint("CountTaken ", a, " ", n), taken, code, good)
		}
		checkLeast(t, a, len(reached))
	}
}

// checkLeast checks that a least automaton is alike, that it has no more states than are reached, that
// all of them are, and that it is its own least one.
func checkLeast(t *testing.T, a impl.Automaton, reached int) {
	t.Helper()
	least, code := impl.LeastAutomaton(a)
	if code != impl.ErrNone || !impl.IsAutomaton(least) || len(least.Steps) > reached {
		t.Fatalf("LeastAutomaton %v = %v, %d", a, least, code)
	}
	yes, code := impl.AreAlike(a, least)
	wantAnswer(t, fmt.Sprint("AreAlike ", a, least), yes, code, true)
	states, code := impl.ReachedStates(least)
	wantList(t, fmt.Sprint("ReachedStates ", least), states, code, countedTo(0, int64(len(least.Steps)-1))...)
	again, code := impl.LeastAutomaton(least)
	wantAutomaton(t, fmt.Sprint("LeastAutomaton again ", a), again, code, least)
	for n := int64(1); n <= impl.MaxCounted; n++ {
		taken, _ := impl.CountTaken(a, n)
		same, code := impl.CountTaken(least, n)
		wantNumber(t, fmt.Sprint("CountTaken ", least, " ", n), same, code, taken)
	}
}

// TestNoFewerStates checks that no automaton of fewer states, of one or two, is alike.
func TestNoFewerStates(t *testing.T) {
	small := smallAutomata()
	for _, a := range append(manyAutomata(), automatonOf("0:1111/2222/3333/3333:2"), automatonOf("0:1222/2222/2222:1")) {
		least, _ := impl.LeastAutomaton(a)
		found := 3
		for _, b := range small {
			if yes, _ := impl.AreAlike(a, b); yes {
				found = min(found, len(b.Steps))
			}
		}
		if found != min(len(least.Steps), 3) {
			t.Errorf("LeastAutomaton %v = %v, but one of %d states is alike", a, least, found)
		}
	}
}

// TestNumbersDoNotMatter checks that automata whose states have other numbers are alike and have the
// same least automaton, and so do those that combine them with one that takes all trees.
func TestNumbersDoNotMatter(t *testing.T) {
	orders := ordersOf(4)
	for seed := range uint64(30) {
		a := someAutomaton(4, 4, seed)
		least, _ := impl.LeastAutomaton(a)
		inOrder, _ := impl.CombineAutomata(a, oneState(0), 0)
		for _, order := range orders {
			b := renumbered(a, order)
			yes, code := impl.AreAlike(a, b)
			wantAnswer(t, fmt.Sprint("AreAlike ", a, b), yes, code, true)
			same, code := impl.LeastAutomaton(b)
			wantAutomaton(t, fmt.Sprint("LeastAutomaton ", b), same, code, least)
			combined, code := impl.CombineAutomata(b, b, 1)
			wantAutomaton(t, fmt.Sprint("CombineAutomata ", b, b), combined, code, inOrder)
		}
	}
}

// TestPromise12 checks promise 12 by the package's functions alone: combined automata take the trees
// that both tell.
func TestPromise12(t *testing.T) {
	trees := checkedTrees(6)
	small, large := smallAutomata(), largeAutomata()
	combined := 0
	for i, a := range append(small, large...) {
		for _, b := range []impl.Automaton{small[i*11%len(small)], small[(i+60)%len(small)], large[i%6], a} {
			for kind := range int64(3) {
				c, code := impl.CombineAutomata(a, b, kind)
				if code == impl.ErrNone {
					combined++
					checkTakesBoth(t, a, b, c, kind, trees)
				}
			}
		}
	}
	if combined < 2000 {
		t.Errorf("only %d combined automata were checked", combined)
	}
}

func checkTakesBoth(t *testing.T, a, b, c impl.Automaton, kind int64, trees []impl.Tree) {
	t.Helper()
	for _, x := range trees {
		one, _ := impl.TakesTree(a, x)
		other, _ := impl.TakesTree(b, x)
		want := []bool{one && other, one || other, one != other}[kind]
		yes, code := impl.TakesTree(c, x)
		if yes != want || code != impl.ErrNone {
			t.Errorf("TakesTree %v %v = %v, %d; combined of %v and %v, kind %d", c, x, yes, code, a, b, kind)
		}
	}
}

// TestNumbersOfCombined checks that combined automata take as many trees as both tell, also of many
// nodes.
func TestNumbersOfCombined(t *testing.T) {
	small, large := smallAutomata(), largeAutomata()
	for i, a := range append(small, large...) {
		b := append(small, large...)[i*7%len(small)]
		var kinds [3]impl.Automaton
		code := int64(impl.ErrNone)
		for kind := range kinds {
			kinds[kind], code = impl.CombineAutomata(a, b, int64(kind))
		}
		for n := int64(1); n <= impl.MaxCounted && code == impl.ErrNone; n++ {
			var taken [5]int64
			for place, c := range []impl.Automaton{a, b, kinds[0], kinds[1], kinds[2]} {
				taken[place], _ = impl.CountTaken(c, n)
			}
			if taken[2]+taken[3] != taken[0]+taken[1] || taken[4] != taken[3]-taken[2] {
				t.Errorf("%v and %v, and all kinds of combined ones, take %v trees of %d nodes", a, b, taken, n)
			}
		}
	}
}

// TestOppositeAutomataTakeTheOthers checks that opposite automata take the other trees, that they lead
// back, and that they turn the kinds 0 and 1 round.
func TestOppositeAutomataTakeTheOthers(t *testing.T) {
	trees := checkedTrees(5)
	for _, a := range manyAutomata() {
		opposite, code := impl.OppositeAutomaton(a)
		back, codeOfBack := impl.OppositeAutomaton(opposite)
		if code != impl.ErrNone || !impl.IsAutomaton(opposite) || codeOfBack != impl.ErrNone || !sameAutomaton(back, a) {
			t.Fatalf("OppositeAutomaton %v = %v, %d, and its opposite %v, %d", a, opposite, code, back, codeOfBack)
		}
		for _, x := range trees {
			yes, _ := impl.TakesTree(a, x)
			no, code := impl.TakesTree(opposite, x)
			wantAnswer(t, fmt.Sprint("TakesTree ", opposite, x), no, code, !yes)
		}
		for n := int64(1); n <= impl.MaxCounted; n++ {
			all, _ := impl.CountTrees(n)
			taken, _ := impl.CountTaken(a, n)
			others, code := impl.CountTaken(opposite, n)
			wantNumber(t, fmt.Sprint("CountTaken ", opposite, " ", n), others, code, all-taken)
		}
		both, _ := impl.CombineAutomata(a, nodesModulo(1, 0), 0)
		either, _ := impl.CombineAutomata(opposite, oneState(), 1)
		turned, _ := impl.OppositeAutomaton(either)
		yes, code := impl.AreAlike(both, turned)
		wantAnswer(t, fmt.Sprint("AreAlike ", both, turned), yes, code, true)
		yes, code = impl.AreAlike(a, opposite)
		wantAnswer(t, fmt.Sprint("AreAlike ", a, opposite), yes, code, false)
	}
}

// TestAlikeAutomataTakeTheSame checks that automata are alike exactly if no tree is taken by just one
// of them.
func TestAlikeAutomataTakeTheSame(t *testing.T) {
	all := append(smallAutomata(), largeAutomata()...)
	for i, a := range all {
		for _, b := range []impl.Automaton{all[i*17%len(all)], all[(i+1)%len(all)], all[i*3%130]} {
			apart, code := impl.CombineAutomata(a, b, 2)
			if code != impl.ErrNone {
				continue
			}
			first, code := impl.FirstTaken(apart)
			yes, codeOfAlike := impl.AreAlike(a, b)
			wantAnswer(t, fmt.Sprint("AreAlike ", a, b, first), yes, codeOfAlike, code == impl.ErrNotFound)
		}
	}
}

// TestStatesAreThoseOfSubtrees checks that the state of a node is that of the root of its subtree, and
// that the last step leads to it.
func TestStatesAreThoseOfSubtrees(t *testing.T) {
	for _, x := range checkedTrees(5) {
		for _, a := range largeAutomata() {
			states, _ := impl.StatesOf(a, x)
			for v := range int64(len(x.Degrees)) {
				part, _ := impl.SubtreeAt(x, v)
				of, code := impl.StatesOf(a, part)
				wantNumber(t, fmt.Sprint("the state of ", part, " for ", a), of[0], code, states[v])
			}
			if children, _ := impl.ChildrenOf(x, 0); len(children) > 0 {
				last := children[len(children)-1]
				without, _ := impl.RemoveAt(x, last)
				before, _ := impl.StatesOf(a, without)
				wantNumber(t, fmt.Sprint("the last step of ", a, x), states[0], impl.ErrNone, a.Steps[before[0]][states[last]])
			}
		}
	}
}

// TestFirstTreesAreFirst checks that first trees have their state, that none before them has it, and
// that there are none exactly if the state is not reached.
func TestFirstTreesAreFirst(t *testing.T) {
	for _, a := range manyAutomata() {
		reached, _ := impl.ReachedStates(a)
		var taken []impl.Tree
		for state := range int64(len(a.Steps)) {
			first, code := impl.FirstOfState(a, state)
			if (code == impl.ErrNotFound) == slices.Contains(reached, state) {
				t.Errorf("FirstOfState %v %d: code %d, but %v are reached", a, state, code, reached)
			}
			if code != impl.ErrNone {
				continue
			}
			checkNoneBefore(t, a, state, first)
			if slices.Contains(a.Good, state) {
				taken = append(taken, first)
			}
		}
		first, code := impl.FirstTaken(a)
		if len(taken) == 0 {
			wantCode(t, fmt.Sprint("FirstTaken ", a), first, code, max(code, impl.ErrLimit))
			continue
		}
		want := slices.MinFunc(taken, func(x, y impl.Tree) int { order, _ := impl.CompareTrees(x, y); return int(order) })
		text, _ := impl.TreeText(want)
		wantTree(t, fmt.Sprint("FirstTaken ", a), first, code, text)
	}
}

// checkNoneBefore counts the trees of fewer nodes, and goes over those of as many nodes before the
// first one.
func checkNoneBefore(t *testing.T, a impl.Automaton, state int64, first impl.Tree) {
	t.Helper()
	nodes := int64(len(first.Degrees))
	for n := int64(1); n < nodes; n++ {
		counts, code := impl.CountByState(a, n)
		wantNumber(t, fmt.Sprint("the trees before ", first, " of the state ", state, " of ", a), counts[state], code, 0)
	}
	x, _ := impl.FirstTree(nodes)
	for {
		states, code := impl.StatesOf(a, x)
		if code != impl.ErrNone || slices.Equal(x.Degrees, first.Degrees) != (states[0] == state) {
			t.Errorf("FirstOfState %v %d = %v, but %v has the states %v", a, state, first, x, states)
		}
		if states[0] == state {
			return
		}
		x, _ = impl.NextTree(x)
	}
}

// TestAutomataComeBack checks that automata come back from their texts, and texts from what they tell.
func TestAutomataComeBack(t *testing.T) {
	for _, a := range manyAutomata() {
		text, code := impl.AutomatonText(a)
		if code != impl.ErrNone {
			t.Fatalf("AutomatonText %v: code %d", a, code)
		}
		back, code := impl.ParseAutomaton(text)
		wantAutomaton(t, "ParseAutomaton "+text, back, code, a)
		again, code := impl.AutomatonText(back)
		wantText(t, "AutomatonText "+text, again, code, text)
	}
}

// guardedAutomaton returns an automaton all of whose lists are parts of one memory, with other numbers
// behind each of them, that memory, and that of the list of its lists.
func guardedAutomaton(a impl.Automaton) (impl.Automaton, []int64, [][]int64) {
	memory := slices.Repeat([]int64{-77}, 400)
	lists := slices.Repeat([][]int64{{-77}}, 40)
	at := 0
	guard := func(list []int64) []int64 {
		copy(memory[at:], list)
		at += len(list) + 12
		return memory[at-len(list)-12 : at-12]
	}
	b := impl.Automaton{Start: a.Start, Good: guard(a.Good), Steps: lists[:len(a.Steps)]}
	for s := range a.Steps {
		lists[s] = guard(a.Steps[s])
	}
	return b, memory, lists
}

// slicesOf returns all lists of numbers of a result.
func slicesOf(x any) [][]int64 {
	switch y := x.(type) {
	case []int64:
		return [][]int64{y}
	case [][]int64:
		return y
	case impl.Tree:
		return [][]int64{y.Degrees}
	case []impl.Tree:
		var lists [][]int64
		for _, tree := range y {
			lists = append(lists, tree.Degrees)
		}
		return lists
	case impl.Automaton:
		return append(slices.Clone(y.Steps), y.Good)
	case impl.Desk:
		return [][]int64{y.Tree.Degrees, y.Other.Degrees}
	}
	return nil
}

// checkOwnMemory writes a number of its own into each list, and into the spare capacity behind it.
func checkOwnMemory(t *testing.T, what string, x any) {
	t.Helper()
	lists := slicesOf(x)
	for number, list := range lists {
		list = list[:cap(list)]
		for i := range list {
			list[i] = int64(-1000 - number)
		}
	}
	for number, list := range lists {
		if slices.ContainsFunc(list[:cap(list)], func(x int64) bool { return x != int64(-1000-number) }) {
			t.Errorf("two lists of the result of %s share memory", what)
		}
	}
}

func TestAutomatonArgumentsStay(t *testing.T) {
	for _, text := range []string{"0:0:", "0:0:0", "1:01/10:0", "0:13000/24000/30000/00000/00000:3", "1:012/120/201:012", "2:111/222/000:12"} {
		a, memory, lists := guardedAutomaton(automatonOf(text))
		before := fmt.Sprint(memory, lists)
		calls := map[string]func() (any, int64){}
		for name, f := range ofAutomaton {
			calls[name] = func() (any, int64) { return f(a) }
		}
		for name, f := range besideWrong {
			for x := range int64(2) {
				calls[fmt.Sprint(name, " ", x)] = func() (any, int64) { return f(a, x) }
			}
		}
		for name, call := range calls {
			first, code := call()
			told := fmt.Sprint(first)
			checkOwnMemory(t, name+" "+text, first)
			spoil(first)
			if after := fmt.Sprint(memory, lists); after != before {
				t.Fatalf("%s of %s wrote into an argument, or shares memory with one: %s", name, text, after)
			}
			if again, codeAgain := call(); fmt.Sprint(again) != told || codeAgain != code {
				t.Errorf("%s of %s = %s, %d, and then %v, %d", name, text, told, code, again, codeAgain)
			}
		}
	}
}

// TestParsedAutomataAreNew checks that no two lists of a result share memory, and that none is kept.
func TestParsedAutomataAreNew(t *testing.T) {
	for _, a := range manyAutomata() {
		text := textByNumbers(a)
		first, _ := impl.ParseAutomaton(text)
		checkOwnMemory(t, "ParseAutomaton "+text, first)
		again, code := impl.ParseAutomaton(text)
		wantAutomaton(t, "ParseAutomaton "+text, again, code, a)
		combined, _ := impl.CombineAutomata(a, a, 0)
		checkOwnMemory(t, "CombineAutomata "+text, combined)
		least, _ := impl.LeastAutomaton(a)
		checkOwnMemory(t, "LeastAutomaton "+text, least)
	}
}

// TestAutomataKeepNothing checks that calls keep nothing between them: the same ones give the same results
// in any order.
func TestAutomataKeepNothing(t *testing.T) {
	told := map[string]string{}
	all := manyAutomata()
	for round := range 2 {
		for i := range all {
			a := all[i]
			if round == 1 {
				a = all[len(all)-1-i]
			}
			for name, f := range ofAutomaton {
				got, code := f(a)
				key, result := fmt.Sprint(name, a), fmt.Sprint(got, code)
				if was, ok := told[key]; ok && was != result {
					t.Errorf("%s = %s, and then %s", key, was, result)
				}
				told[key] = result
			}
		}
	}
}
