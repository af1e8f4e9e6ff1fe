package tests

import (
	"fmt"
	"slices"
	"testing"

	"loop.example/g01391/impl"
)

// TestPromise2 checks promise 2 and the guarantee of chapter 2 by the package's functions alone:
// from the first tree to the last one, ranks ascend by one and lead back.
func TestPromise2(t *testing.T) {
	for n := int64(1); n <= 9; n++ {
		x, _ := impl.FirstTree(n)
		last, _ := impl.LastTree(n)
		total, _ := impl.CountTrees(n)
		for r := range total {
			rank, code := impl.RankOfTree(x)
			wantNumber(t, fmt.Sprint("RankOfTree ", x), rank, code, r)
			back, code := impl.TreeOfRank(n, rank)
			wantList(t, fmt.Sprint("TreeOfRank ", n, " ", rank), back.Degrees, code, x.Degrees...)
			if (r == total-1) != slices.Equal(x.Degrees, last.Degrees) {
				t.Errorf("LastTree %d = %v, but the tree of rank %d is %v", n, last, r, x)
			}
			next, code := impl.NextTree(x)
			if order, _ := impl.CompareTrees(x, next); code == impl.ErrNone && order != -1 {
				t.Errorf("NextTree of %v = %v", x, next)
			}
			x = next
		}
	}
}

func TestNumbersAddUp(t *testing.T) {
	for n := int64(1); n <= impl.MaxCounted; n++ {
		total, _ := impl.CountTrees(n)
		for name, f := range byNumber {
			sum := int64(0)
			for k := range n + 1 {
				count, code := f(n, k)
				if code != impl.ErrNone || count < 0 {
					t.Errorf("%s %d %d = %d, %d", name, n, k, count, code)
				}
				sum += count
			}
			wantNumber(t, fmt.Sprint(name, " in all ", n), sum, impl.ErrNone, total)
		}
	}
}

// TestTreesHaveTheirCounts counts the trees of n nodes by all counts that the listed trees have.
func TestTreesHaveTheirCounts(t *testing.T) {
	for n := int64(1); n <= impl.MaxListed; n++ {
		found := map[string]int64{}
		lists := map[string][]int64{}
		trees, _ := impl.TreesOf(n)
		for _, x := range trees {
			counts, _ := impl.CountsOfTree(x)
			found[fmt.Sprint(counts)]++
			lists[fmt.Sprint(counts)] = counts
		}
		for told, counts := range lists {
			count, code := impl.CountByCounts(counts)
			wantNumber(t, "CountByCounts "+told, count, code, found[told])
		}
	}
}

// TestCountsOfTwentyNodes adds up the numbers for all counts whose sum is 20.
func TestCountsOfTwentyNodes(t *testing.T) {
	total := int64(0)
	// try gives the children of so many nodes away, none of which has fewer than k.
	var try func(counts []int64, children, nodes int64)
	try = func(counts []int64, children, nodes int64) {
		if children == 0 {
			counts = slices.Clone(counts)
			counts[0] = nodes
			count, code := impl.CountByCounts(counts)
			if code != impl.ErrNone || count < 1 {
				t.Errorf("CountByCounts %v = %d, %d", counts, count, code)
			}
			total += count
			return
		}
		for k := int64(len(counts)); k <= children; k++ {
			longer := append(slices.Clone(counts), make([]int64, k-int64(len(counts))+1)...)
			for longer[k] = 1; longer[k]*k <= children && longer[k] <= nodes; longer[k]++ {
				try(longer, children-longer[k]*k, nodes-longer[k])
			}
		}
	}
	try([]int64{0}, 19, 20)
	all, code := impl.CountTrees(20)
	wantNumber(t, "CountTrees 20", all, code, total)
}

func TestListsOfTreesAreNew(t *testing.T) {
	want := fmt.Sprint(orderedTrees(5))
	for range 3 {
		list, code := impl.TreesOf(5)
		if fmt.Sprint(list) != want || code != impl.ErrNone {
			t.Fatalf("TreesOf 5 = %v, %d; want %s", list, code, want)
		}
		for i, x := range list {
			spoil(x)
			list[i] = impl.Tree{}
			if left := fmt.Sprint(list[i+1:]); left != fmt.Sprint(orderedTrees(5)[i+1:]) {
				t.Fatalf("tree %d of the list shares memory with those behind it: %s", i, left)
			}
		}
	}
	for range 2 {
		for _, f := range []func() (impl.Tree, int64){
			func() (impl.Tree, int64) { return impl.FirstTree(4) },
			func() (impl.Tree, int64) { return impl.TreeOfRank(4, 0) },
		} {
			x, code := f()
			wantTree(t, "the first tree of 4", x, code, pathText(4))
			spoil(x)
		}
		last, code := impl.LastTree(4)
		wantTree(t, "LastTree", last, code, starText(4))
		spoil(last)
	}
}

func TestCountsStay(t *testing.T) {
	memory := []int64{2, 1, 1, -77, -77}
	count, code := impl.CountByCounts(memory[:3])
	wantNumber(t, "CountByCounts", count, code, 3)
	if !sameList(memory, []int64{2, 1, 1, -77, -77}) {
		t.Errorf("CountByCounts wrote into its argument: %v", memory)
	}
}
