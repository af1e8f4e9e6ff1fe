package tests

import (
	"fmt"
	"math/big"
	"slices"
	"testing"

	"loop.example/g01391/impl"
)

// countedTexts returns the texts of small trees, and of some of up to MaxGrown nodes.
func countedTexts() []string {
	isTooLarge := func(text string) bool { return len(text) > 2*impl.MaxGrown }
	return slices.DeleteFunc(slices.Concat(treesUpTo(6), narrowTexts(), grownTexts()), isTooLarge)
}

// TestPromise9 checks promise 9 by the package's functions alone: ranks of growing orders lead back, and lists grow
// their trees.
func TestPromise9(t *testing.T) {
	for _, text := range countedTexts() {
		x := parsed(text)
		count, code := impl.CountGrowing(x)
		if code != impl.ErrNone || count < 1 {
			t.Fatalf("CountGrowing %s = %d, %d", text, count, code)
		}
		for _, rank := range ranksUpTo(count) {
			order, code := impl.GrowingOfRank(x, rank)
			yes, codeOfOrder := impl.IsGrowing(x, order)
			wantAnswer(t, fmt.Sprint("GrowingOfRank ", text, " ", rank, " = ", order, " is one"), yes, code|codeOfOrder, true)
			back, code := impl.RankOfGrowing(x, order)
			wantNumber(t, fmt.Sprint("RankOfGrowing ", text, " ", order), back, code, rank)
			checkRankOfNext(t, x, order, rank, count)
			checkGrowsItsTree(t, x, order)
		}
		none, code := impl.GrowingOfRank(x, count)
		wantCode(t, fmt.Sprint("GrowingOfRank ", text, " ", count), none, code, impl.ErrNotFound)
	}
}

// ranksUpTo returns some ranks below a number, the least and the greatest ones among them.
func ranksUpTo(count int64) []int64 {
	ranks := []int64{0, 1, 2, count / 5, count / 3, count / 2, count/2 + 1, count - 3, count - 2, count - 1}
	for k := range int64(10) {
		ranks = append(ranks, count/11*(k+1))
	}
	return slices.DeleteFunc(ranks, func(rank int64) bool { return rank < 0 || rank >= count })
}

// checkRankOfNext checks that the next growing order has the next rank, and is greater.
func checkRankOfNext(t *testing.T, x impl.Tree, order []int64, rank, count int64) {
	t.Helper()
	what := fmt.Sprint("NextGrowing ", x, " ", order)
	next, code := impl.NextGrowing(x, order)
	if rank == count-1 {
		wantCode(t, what, next, code, impl.ErrNotFound)
		return
	}
	nextRank, codeOfRank := impl.RankOfGrowing(x, next)
	wantNumber(t, "the rank of "+what, nextRank, code|codeOfRank, rank+1)
	wantAnswer(t, what+" is greater", slices.Compare(next, order) > 0, code, true)
}

// checkGrowsItsTree checks that the list of a growth grows the tree, with the same growth.
func checkGrowsItsTree(t *testing.T, x impl.Tree, order []int64) {
	t.Helper()
	list, code := impl.ListOfGrowth(x, order)
	what := fmt.Sprint("ListOfGrowth ", x, " ", order)
	if code == impl.ErrNotFound {
		wantCode(t, what, list, code, impl.ErrNotFound)
		return
	}
	y, growth, codeOfTree := impl.GrownTree(list)
	wantList(t, what+" grows", y.Degrees, code|codeOfTree, x.Degrees...)
	wantList(t, what+" grows with", growth, code|codeOfTree, order...)
}

// TestEachListGrowsAnotherTree checks that lists come back from their trees and growths, and that no two have both
// in common. So as many growing orders of all trees of n nodes are growths as there are lists: 1 to n - 1 multiplied.
func TestEachListGrowsAnotherTree(t *testing.T) {
	for n := int64(1); n <= 7; n++ {
		lists, trees, growths := growingLists(n-1), map[string]bool{}, 0
		for _, list := range lists {
			x, growth, code := impl.GrownTree(list)
			trees[fmt.Sprint(x, growth)] = true
			back, codeOfList := impl.ListOfGrowth(x, growth)
			wantList(t, fmt.Sprint("ListOfGrowth ", x, " ", growth), back, code|codeOfList, list...)
		}
		for _, x := range orderedTrees(int(n)) {
			for order := range growingFrom(x) {
				if _, code := impl.ListOfGrowth(x, order); code == impl.ErrNone {
					growths++
				}
			}
		}
		wantNumber(t, fmt.Sprint("the number of trees and growths of ", n, " nodes"), int64(len(trees)), impl.ErrNone, int64(len(lists)))
		wantNumber(t, fmt.Sprint("the number of growths of ", n, " nodes"), int64(growths), impl.ErrNone, int64(len(lists)))
	}
}

// growingFrom ranges over the growing orders of a tree, from the first one on by the next ones.
func growingFrom(x impl.Tree) func(yield func([]int64) bool) {
	return func(yield func([]int64) bool) {
		order, code := impl.FirstGrowing(x)
		for code == impl.ErrNone && yield(order) {
			order, code = impl.NextGrowing(x, order)
		}
	}
}

// TestGrowingOrdersOfAllTrees checks that there are 1 * 3 * 5 .. (2 n - 3) growing orders of all trees of n nodes, as
// a node n + 1 can be put at 2 n - 1 places, and that as many come one after the other.
func TestGrowingOrdersOfAllTrees(t *testing.T) {
	want := int64(1)
	for n := 1; n <= 9; n++ {
		sum, met := int64(0), int64(0)
		for _, x := range orderedTrees(n) {
			count, code := impl.CountGrowing(x)
			if code != impl.ErrNone {
				t.Fatalf("CountGrowing %v: code %d", x, code)
			}
			sum += count
			if n > 7 {
				continue
			}
			for range growingFrom(x) {
				met++
			}
		}
		wantNumber(t, fmt.Sprint("the number of growing orders of all trees of ", n, " nodes"), sum, impl.ErrNone, want)
		if n <= 7 {
			wantNumber(t, fmt.Sprint("the number of next ones of all trees of ", n, " nodes"), met, impl.ErrNone, want)
		}
		want *= int64(2*n - 1)
	}
}

// TestGrowingOrdersAreCountedBySizes checks that the sizes of all subtrees and the number of growing orders, all
// multiplied, are 1 to n multiplied.
func TestGrowingOrdersAreCountedBySizes(t *testing.T) {
	for _, text := range append(countedTexts(), treeTexts(9)...) {
		x := parsed(text)
		count, code := impl.CountGrowing(x)
		sizes, codeOfSizes := impl.SizesOf(x)
		product := big.NewInt(count)
		for _, size := range sizes {
			product.Mul(product, big.NewInt(size))
		}
		if want := new(big.Int).MulRange(1, int64(len(sizes))); product.Cmp(want) != 0 || code|codeOfSizes != impl.ErrNone {
			t.Errorf("CountGrowing %s = %d, code %d: %v in place of %v", text, count, code, product, want)
		}
		mirror, _ := impl.MirrorOf(x)
		mirrored, code := impl.CountGrowing(mirror)
		wantNumber(t, "CountGrowing of the mirrored "+text, mirrored, code, count)
	}
}

// TestExchangesGoBack checks that exchanges are possible at free places alone and go back, and that those at breaks,
// which are free, lead to a lesser growing order, and others to a greater one.
func TestExchangesGoBack(t *testing.T) {
	for _, text := range slices.Concat(treesUpTo(6), narrowTexts(), grownTexts()) {
		m := modelOf(text)
		first, _ := impl.FirstGrowing(m.tree())
		last, _ := impl.LastGrowing(m.tree())
		for _, order := range [][]int64{first, last, m.drawnGrowing(1), m.drawnGrowing(2), m.drawnGrowing(3)} {
			checkExchanges(t, m.tree(), order)
		}
	}
}

func checkExchanges(t *testing.T, x impl.Tree, order []int64) {
	t.Helper()
	what := fmt.Sprint(x, " ", order)
	free, _ := impl.FreePlaces(x, order)
	breaks, code := impl.BreaksOf(x, order)
	both := slices.Compact(slices.Sorted(slices.Values(slices.Concat(free, breaks))))
	wantList(t, "FreePlaces and BreaksOf "+what, both, code, free...)
	var possible []int64
	for i := range int64(len(order) - 1) {
		there, code := impl.ExchangeAt(x, order, i)
		if code == impl.ErrState {
			continue
		}
		possible = append(possible, i)
		back, codeBack := impl.ExchangeAt(x, there, i)
		wantList(t, fmt.Sprint("ExchangeAt ", what, " ", i, " and back"), back, code|codeBack, order...)
		wantAnswer(t, fmt.Sprint("ExchangeAt ", what, " ", i, " is less"), slices.Compare(there, order) < 0, code, slices.Contains(breaks, i))
		breaksThere, code := impl.BreaksOf(x, there)
		wantAnswer(t, fmt.Sprint("a break at ", i, " behind ExchangeAt ", what), slices.Contains(breaksThere, i), code, !slices.Contains(breaks, i))
	}
	wantList(t, "the exchanges of "+what, possible, impl.ErrNone, free...)
}

// TestFirstAndLastGrowingAreOuter checks that there is no break in the first growing order, and none before it or
// behind the last one, and that labels are the places.
func TestFirstAndLastGrowingAreOuter(t *testing.T) {
	for _, text := range slices.Concat(treesUpTo(7), narrowTexts(), grownTexts()) {
		m := modelOf(text)
		x := m.tree()
		first, _ := impl.FirstGrowing(x)
		breaks, code := impl.BreaksOf(x, first)
		wantList(t, "the breaks of FirstGrowing "+text, breaks, code)
		last, _ := impl.LastGrowing(x)
		parents, _ := impl.ParentsOf(x)
		for seed := range uint64(8) {
			order := m.drawnGrowing(seed)
			what := fmt.Sprint(order, " of ", text)
			wantAnswer(t, what+" is an outer one", slices.Compare(first, order) > 0 || slices.Compare(order, last) > 0, impl.ErrNone, false)
			labels, code := impl.LabelsOf(x, order)
			for v, parent := range parents {
				if code != impl.ErrNone || order[labels[v]] != int64(v) || v > 0 && labels[v] <= labels[parent] {
					t.Errorf("LabelsOf %s = %v, code %d", what, labels, code)
				}
			}
		}
	}
}

// TestPromise17 checks promise 17 by the package's functions alone: decreasing binary trees have the sizes of their
// lists, and their parts those of the parts ahead of the greatest number and behind it.
func TestPromise17(t *testing.T) {
	for _, list := range manyNumbers() {
		w, code := impl.DecreasingTree(list)
		nodes, codeOfNodes := impl.InnerOrder(w)
		what := fmt.Sprint("DecreasingTree ", list)
		wantNumber(t, "the size of "+what, int64(len(nodes)), code|codeOfNodes, int64(len(list)))
		if len(list) == 0 {
			continue
		}
		left, right, codeOfSides := impl.SidesOf(w)
		root := slices.Index(list, slices.Max(list))
		ahead, code := impl.DecreasingTree(list[:root])
		wantText(t, "the left part of "+what, left, code|codeOfSides, ahead)
		behind, code := impl.DecreasingTree(list[root+1:])
		wantText(t, "the right part of "+what, right, code|codeOfSides, behind)
	}
}

// TestListsOfDecreasingLeadBack checks that the binary tree comes back from its list, which has all numbers, that no
// list with two numbers exchanged is greater and has it too, and that it is not less than the list from which the
// binary tree comes.
func TestListsOfDecreasingLeadBack(t *testing.T) {
	for _, w := range append(manyBinaries(), binaryTexts(7)...) {
		list, code := impl.ListOfDecreasing(w)
		numbers := slices.Sorted(slices.Values(list))
		wantAnswer(t, fmt.Sprint("ListOfDecreasing ", w, " = ", list, " has all numbers"), w == "0" && len(list) == 0 || sameList(numbers, countedTo(0, int64(len(w)/2-1))), code, true)
		back, code := impl.DecreasingTree(list)
		wantText(t, fmt.Sprint("DecreasingTree ", list), back, code, w)
		for i := range list {
			for k := range i {
				other := slices.Clone(list)
				other[i], other[k] = list[k], list[i]
				if u, _ := impl.DecreasingTree(other); u == w && slices.Compare(other, list) > 0 {
					t.Errorf("ListOfDecreasing %s = %v: %v is greater", w, list, other)
				}
			}
		}
	}
	for _, list := range permuted(6) {
		w, code := impl.DecreasingTree(list)
		greatest, codeOfList := impl.ListOfDecreasing(w)
		wantAnswer(t, fmt.Sprint("ListOfDecreasing ", w, " is less than ", list), slices.Compare(greatest, list) < 0, code|codeOfList, false)
	}
}

// guardedList returns a list that has other numbers behind it, and all of its memory.
func guardedList(list []int64) ([]int64, []int64) {
	memory := append(slices.Clone(list), slices.Repeat([]int64{-77}, 60)...)
	return memory[:len(list)], memory
}

// TestOrdersStay checks that the functions of a tree and an order change neither, also where the order is refused,
// and that their results share no memory with them.
func TestOrdersStay(t *testing.T) {
	for _, text := range []string{"()", "(())", "((())())", "((()())()(()))", starText(20), someText(20, 5), someText(24, 6)} {
		m := modelOf(text)
		n := m.count()
		for _, given := range [][]int64{countedTo(0, n-1), m.drawnGrowing(4), m.drawnGrowing(5), countedTo(n-1, 0), countedTo(1, n), nil} {
			x, treeMemory := guarded(text)
			order, orderMemory := guardedList(given)
			calls := callsOf(x)
			for name, f := range ofOrder {
				calls[name] = func() (any, int64) { return f(x, order) }
			}
			for i := range n {
				calls[fmt.Sprint("ExchangeAt ", i)] = func() (any, int64) { return pair(impl.ExchangeAt(x, order, i)) }
				calls[fmt.Sprint("GrowingOfRank ", i)] = func() (any, int64) { return pair(impl.GrowingOfRank(x, i)) }
			}
			checkStay(t, calls, func() string { return fmt.Sprint(treeMemory, orderMemory) })
		}
	}
}

// TestListsThatGrowStay checks the functions of lists alone, that they change no list, and that both lists of one
// result have memory of their own.
func TestListsThatGrowStay(t *testing.T) {
	for _, given := range [][]int64{nil, {0}, {0, 0, 1}, {0, 1, 0, 2, 3}, {0, 2}, {3, 1, 2}, {1, 1}, make([]int64, 23), countedTo(0, 22), countedTo(0, 23), drawnList(23, 7)} {
		list, memory := guardedList(given)
		calls := map[string]func() (any, int64){
			"GrownTree":      func() (any, int64) { return grown(impl.GrownTree(list)) },
			"DecreasingTree": func() (any, int64) { return pair(impl.DecreasingTree(list)) },
		}
		checkStay(t, calls, func() string { return fmt.Sprint(memory) })
	}
}

// TestListsOfDecreasingAreNew checks that no list is kept from call to call.
func TestListsOfDecreasingAreNew(t *testing.T) {
	for _, w := range []string{"0", "100", "1100100", leftComb(impl.MaxBinary), someBinary(impl.MaxBinary, 3)} {
		calls := map[string]func() (any, int64){"ListOfDecreasing": func() (any, int64) { return pair(impl.ListOfDecreasing(w)) }}
		checkStay(t, calls, func() string { return w })
	}
}
