package tests

import (
	"fmt"
	"math"
	"slices"
	"strings"

	"loop.example/g01391/impl"
)

// isAutomatonByNumbers reports whether the numbers of a struct are as told of an automaton.
func isAutomatonByNumbers(a impl.Automaton) bool {
	m := len(a.Steps)
	if m == 0 || m > 9 {
		return false
	}
	numbers := slices.Concat([]int64{a.Start}, a.Good)
	for _, list := range a.Steps {
		if len(list) != m {
			return false
		}
		numbers = append(numbers, list...)
	}
	isState := func(x int64) bool { return slices.Contains(countedTo(0, int64(m-1)), x) }
	if slices.ContainsFunc(numbers, func(x int64) bool { return !isState(x) }) {
		return false
	}
	return sameList(a.Good, slices.Compact(slices.Sorted(slices.Values(a.Good))))
}

// statesByText reads a text from left to right: a bracket that opens begins with Start, and one that
// closes gives its state to the one around it.
func statesByText(a impl.Automaton, text string) []int64 {
	var states []int64
	var open []int
	for _, c := range text {
		if c == '(' {
			open = append(open, len(states))
			states = append(states, a.Start)
			continue
		}
		child := open[len(open)-1]
		open = open[:len(open)-1]
		if len(open) > 0 {
			up := open[len(open)-1]
			states[up] = a.Steps[states[up]][states[child]]
		}
	}
	return states
}

func isGoodIn(a impl.Automaton, state int64) bool { return slices.Contains(a.Good, state) }

// countsByForests returns, for all numbers of nodes up to n, the numbers of trees by states. It counts
// lists of trees by the states from which and to which they lead, and by their first trees.
func countsByForests(a impl.Automaton, n int) [][]int64 {
	m := len(a.Steps)
	trees := make([][]int64, n+1)
	lists := make([][][]int64, n+1)
	for nodes := range n + 1 {
		lists[nodes] = make([][]int64, m)
		for from := range m {
			lists[nodes][from] = make([]int64, m)
			if nodes == 0 {
				lists[nodes][from][from] = 1
			}
			for first := 1; first <= nodes; first++ {
				for state, count := range trees[first] {
					for to, others := range lists[nodes-first][a.Steps[from][state]] {
						lists[nodes][from][to] += count * others
					}
				}
			}
		}
		if nodes < n {
			trees[nodes+1] = lists[nodes][a.Start]
		}
	}
	return trees
}

// leastNodes returns, for each state, the least number of nodes of a tree that has it, or 0 if it is
// not reached.
func leastNodes(a impl.Automaton) []int {
	least := make([]int, len(a.Steps))
	least[a.Start] = 1
	for range 1 + len(a.Steps)*len(a.Steps) {
		for x, list := range a.Steps {
			for y, z := range list {
				both := least[x] + least[y]
				if least[x] > 0 && least[y] > 0 && (least[z] == 0 || both < least[z]) {
					least[z] = both
				}
			}
		}
	}
	return least
}

func reachedByNodes(a impl.Automaton) []int64 {
	var reached []int64
	for state, nodes := range leastNodes(a) {
		if nodes > 0 {
			reached = append(reached, int64(state))
		}
	}
	return reached
}

// textsInOrder returns the texts of the trees of at most n nodes, at most 10, in the order of trees.
func textsInOrder(n int) []string {
	var list []string
	for nodes := 1; nodes <= n; nodes++ {
		texts := treeTexts(nodes)
		slices.SortFunc(texts, func(x, y string) int {
			return strings.Compare(fmt.Sprint(parsed(x).Degrees), fmt.Sprint(parsed(y).Degrees))
		})
		list = append(list, texts...)
	}
	return list
}

// namesMet returns names in the order in which they are met from the first one on.
func namesMet(first string, come func(x, y string) string) []string {
	names := []string{first}
	for asked := 0; asked < len(names); asked++ {
		x := names[asked]
		for _, y := range slices.Clone(names) {
			found := []string{come(x, y)}
			if y != x {
				found = append(found, come(y, x))
			}
			for _, z := range found {
				if !slices.Contains(names, z) {
					names = append(names, z)
				}
			}
		}
	}
	return names
}

// automatonOfNames returns the automaton whose states have names.
func automatonOfNames(names []string, come func(x, y string) string, isGood func(x string) bool) impl.Automaton {
	var a impl.Automaton
	for i, x := range names {
		var list []int64
		for _, y := range names {
			list = append(list, int64(slices.Index(names, come(x, y))))
		}
		a.Steps = append(a.Steps, list)
		if isGood(x) {
			a.Good = append(a.Good, int64(i))
		}
	}
	return a
}

func pairName(s, t int64) string { return string([]byte{'a' + byte(s), 'a' + byte(t)}) }

func statesOfName(name string) (int64, int64) { return int64(name[0] - 'a'), int64(name[1] - 'a') }

// combinedByNames returns the combined automaton, of any number of states.
func combinedByNames(a, b impl.Automaton, kind int) impl.Automaton {
	come := func(x, y string) string {
		xa, xb := statesOfName(x)
		ya, yb := statesOfName(y)
		return pairName(a.Steps[xa][ya], b.Steps[xb][yb])
	}
	isGood := func(x string) bool {
		xa, xb := statesOfName(x)
		return combinedByKind(isGoodIn(a, xa), isGoodIn(b, xb), kind)
	}
	return automatonOfNames(namesMet(pairName(a.Start, b.Start), come), come, isGood)
}

// combinedByKind tells by the number of those that say yes.
func combinedByKind(x, y bool, kind int) bool {
	yes := 0
	for _, one := range []bool{x, y} {
		if one {
			yes++
		}
	}
	return slices.Contains([][]int{{2}, {1, 2}, {1}}[kind], yes)
}

// classesOf returns names of the reached states, the same ones for states that stand for one: they
// begin by what is good, and become finer by the names of what comes from them.
func classesOf(a impl.Automaton) map[int64]string {
	reached := reachedByNodes(a)
	names := map[int64]string{}
	for _, s := range reached {
		names[s] = oneOf(isGoodIn(a, s), "good", "other")
	}
	for range len(a.Steps) {
		told := []string{}
		finer := map[int64]string{}
		for _, s := range reached {
			name := names[s]
			for _, z := range reached {
				name += " " + names[a.Steps[s][z]] + " " + names[a.Steps[z][s]]
			}
			if !slices.Contains(told, name) {
				told = append(told, name)
			}
			finer[s] = fmt.Sprint(slices.Index(told, name))
		}
		names = finer
	}
	return names
}

// leastByClasses returns the least automaton.
func leastByClasses(a impl.Automaton) impl.Automaton {
	classes := classesOf(a)
	members := map[string]int64{}
	for s, name := range classes {
		members[name] = s
	}
	come := func(x, y string) string { return classes[a.Steps[members[x]][members[y]]] }
	isGood := func(x string) bool { return isGoodIn(a, members[x]) }
	return automatonOfNames(namesMet(classes[a.Start], come), come, isGood)
}

func sameAutomaton(a, b impl.Automaton) bool {
	return a.Start == b.Start && slices.EqualFunc(a.Steps, b.Steps, sameList) && sameList(a.Good, b.Good)
}

// alikeByClasses holds the least automata against each other, which are the same for automata that
// are alike.
func alikeByClasses(a, b impl.Automaton) bool {
	return sameAutomaton(leastByClasses(a), leastByClasses(b))
}

// byRule returns the automaton of m states whose steps are told by a rule.
func byRule(m, start int64, rule func(s, c int64) int64, good ...int64) impl.Automaton {
	a := impl.Automaton{Start: start, Good: good}
	for s := range m {
		var list []int64
		for c := range m {
			list = append(list, rule(s, c))
		}
		a.Steps = append(a.Steps, list)
	}
	return a
}

// nodesModulo has the number of nodes modulo m as the state.
func nodesModulo(m int64, good ...int64) impl.Automaton {
	return byRule(m, 1%m, func(s, c int64) int64 { return (s + c) % m }, good...)
}

// leavesModulo has the number of leaves modulo m as the state, but as the last one that of a leaf.
func leavesModulo(m int64, good ...int64) impl.Automaton {
	leaves := func(s int64) int64 { return (s + s/m) % m }
	return byRule(m+1, m, func(s, c int64) int64 { return (s%m + leaves(c)) % m }, good...)
}

// nodesUpTo has the number of nodes less one as the state, up to m - 1, which stands for all greater
// ones too.
func nodesUpTo(m int64, good ...int64) impl.Automaton {
	return byRule(m, 0, func(s, c int64) int64 { return min(s+c+1, m-1) }, good...)
}

// heightUpTo has the height as the state, up to m - 1, which stands for all greater ones too.
func heightUpTo(m int64, good ...int64) impl.Automaton {
	return byRule(m, 0, func(s, c int64) int64 { return max(s, min(c+1, m-1)) }, good...)
}

// doubling has states each of which needs twice the nodes of the one before it.
func doubling(m int64, good ...int64) impl.Automaton {
	return byRule(m, 0, func(s, c int64) int64 {
		if s == c {
			return min(s+1, m-1)
		}
		return s
	}, good...)
}

// oneState returns an automaton of one state, that takes all trees or none.
func oneState(good ...int64) impl.Automaton {
	return byRule(1, 0, func(s, c int64) int64 { return 0 }, good...)
}

// draws returns a function that returns numbers of 0 to m - 1 that a seed tells.
func draws(seed uint64) func(m int64) int64 {
	return func(m int64) int64 {
		seed = seed*6364136223846793005 + 1442695040888963407
		return int64(seed >> 33 % uint64(m))
	}
}

func drawnGood(draw func(m int64) int64, m int64) []int64 {
	var good []int64
	for s := range m {
		if draw(2) == 0 {
			good = append(good, s)
		}
	}
	return good
}

// someAutomaton returns an automaton of m states that a seed tells, whose steps lead to the first
// ones alone.
func someAutomaton(m, firstOnes int64, seed uint64) impl.Automaton {
	draw := draws(seed)
	return byRule(m, draw(m), func(s, c int64) int64 { return draw(firstOnes) }, drawnGood(draw, m)...)
}

// spread returns an automaton of m states that is alike, in which several states stand for one, and
// all or most of them are reached.
func spread(a impl.Automaton, m int64, seed uint64) impl.Automaton {
	k := int64(len(a.Steps))
	draw := draws(seed)
	member := func(s int64) int64 { return s + k*draw(1+(m-1-s)/k) }
	var good []int64
	for s := range m {
		if isGoodIn(a, s%k) {
			good = append(good, s)
		}
	}
	return byRule(m, member(a.Start), func(s, c int64) int64 { return member(a.Steps[s%k][c%k]) }, good...)
}

// renumbered returns an automaton with other numbers for its states.
func renumbered(a impl.Automaton, numbers []int64) impl.Automaton {
	b := impl.Automaton{Start: numbers[a.Start], Steps: make([][]int64, len(numbers))}
	for s := range a.Steps {
		b.Steps[numbers[s]] = make([]int64, len(numbers))
		for c, z := range a.Steps[s] {
			b.Steps[numbers[s]][numbers[c]] = numbers[z]
		}
	}
	for _, s := range a.Good {
		b.Good = append(b.Good, numbers[s])
	}
	slices.Sort(b.Good)
	return b
}

// ordersOf returns all orders of the numbers from 0 to n - 1.
func ordersOf(n int64) [][]int64 {
	if n == 0 {
		return [][]int64{nil}
	}
	var list [][]int64
	for _, order := range ordersOf(n - 1) {
		for place := range n {
			list = append(list, slices.Insert(slices.Clone(order), int(place), n-1))
		}
	}
	return list
}

// smallAutomata returns all automata of one state and of two states.
func smallAutomata() []impl.Automaton {
	list := []impl.Automaton{oneState(), oneState(0)}
	for number := range int64(128) {
		steps := func(s, c int64) int64 { return number >> (2*s + c) & 1 }
		good := [][]int64{nil, {0}, {1}, {0, 1}}[number>>5&3]
		list = append(list, byRule(2, number>>4&1, steps, good...))
	}
	return list
}

// largeAutomata returns automata of three states up to MaxStates.
func largeAutomata() []impl.Automaton {
	all := countedTo(0, 8)
	list := []impl.Automaton{
		nodesModulo(3, 0), nodesModulo(9, 0, 4), nodesModulo(9), nodesModulo(9, all...), nodesModulo(8, 1, 3, 5, 7),
		leavesModulo(2, 0), leavesModulo(3, 1, 2), leavesModulo(8, 3), nodesUpTo(9, 8), nodesUpTo(9, 7), nodesUpTo(5, 1, 3),
		heightUpTo(3, 1), heightUpTo(9, 8), heightUpTo(9, 2, 7), heightUpTo(9, 7), doubling(3, 2), doubling(4, 3), doubling(5, 4),
		doubling(9, 8), doubling(9, 3, 7), doubling(9), doubling(9, all...),
	}
	for seed := range uint64(20) {
		for m := int64(3); m <= impl.MaxStates; m++ {
			list = append(list, someAutomaton(m, m, seed), someAutomaton(m, m-1, seed+100), someAutomaton(m, m/2, seed+200))
		}
		k := 2 + int64(seed%4)
		list = append(list, spread(someAutomaton(k, k, seed), k+4, seed), spread(nodesModulo(k, 1), impl.MaxStates, seed))
	}
	return list
}

func manyAutomata() []impl.Automaton { return append(smallAutomata(), largeAutomata()...) }

// badAutomata returns what is no automaton, with one fault each.
func badAutomata() []impl.Automaton {
	steps := func() [][]int64 { return [][]int64{{0, 1}, {1, 0}} }
	list := []impl.Automaton{
		{}, {Steps: [][]int64{}}, {Steps: [][]int64{{}}}, {Steps: [][]int64{nil}}, {Good: []int64{0}}, {Steps: [][]int64{{}, {}}},
		{Steps: [][]int64{{0, 0}}}, {Steps: [][]int64{{0}, {0}}}, {Steps: [][]int64{{0, 1}, {1}}}, {Steps: [][]int64{{0}, {1, 0}}},
		{Steps: [][]int64{{0, 1}, {1, 0, 0}}}, {Steps: [][]int64{{0, 1, 1}, {1, 0}}}, {Steps: [][]int64{{0, 1}, nil}},
		{Steps: [][]int64{{0}}, Good: []int64{0, 0}}, {Steps: [][]int64{{0}}, Good: []int64{1}}, {Steps: [][]int64{{1}}},
		{Steps: [][]int64{{0}}, Start: 1}, {Steps: slices.Repeat([][]int64{make([]int64, 10)}, 10)},
		{Steps: slices.Repeat([][]int64{make([]int64, 40)}, 40)}, {Steps: slices.Repeat([][]int64{make([]int64, 9)}, 10)},
		{Steps: slices.Repeat([][]int64{make([]int64, 9)}, 8)}, {Steps: slices.Repeat([][]int64{make([]int64, 10)}, 9)},
		nodesModulo(10, 1), {Steps: nodesModulo(9).Steps, Good: countedTo(0, 9)}, {Steps: nodesModulo(9).Steps, Good: countedTo(8, 0)},
	}
	for _, good := range [][]int64{{1, 0}, {0, 0}, {1, 1}, {0, 1, 1}, {0, 0, 1}, {0, 1, 0}, {0, 1, 2}, {0, 2}, {-1, 0}, {-1, 1}} {
		list = append(list, impl.Automaton{Steps: steps(), Good: good})
	}
	for _, x := range []int64{-1, 2, 9, 10, 1 << 32, -1 << 32, math.MaxInt64, math.MinInt64} {
		list = append(list, impl.Automaton{Start: x, Steps: steps()}, impl.Automaton{Steps: steps(), Good: []int64{x}})
		for place := range 4 {
			wrong := steps()
			wrong[place/2][place%2] = x
			list = append(list, impl.Automaton{Steps: wrong, Good: []int64{1}})
		}
	}
	return list
}
