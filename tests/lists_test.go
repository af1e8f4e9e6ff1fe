package tests

import (
	"fmt"
	"math"
	"math/big"
	"slices"
	"testing"

	"loop.example/g01391/impl"
)

// choose returns the number of ways to choose k of n things.
func choose(n, k int64) *big.Int {
	if k < 0 || k > n {
		return big.NewInt(0)
	}
	return new(big.Int).Binomial(n, k)
}

// knownTrees returns the number of trees of n nodes by the formula of the Catalan numbers.
func knownTrees(n int64) int64 {
	return new(big.Int).Div(choose(2*n-2, n-1), big.NewInt(n)).Int64()
}

// knownByLeaves returns the number of trees of n nodes, at least 2, with k leaves by the formula of
// the Narayana numbers.
func knownByLeaves(n, k int64) int64 {
	product := new(big.Int).Mul(choose(n-1, k), choose(n-1, k-1))
	return product.Div(product, big.NewInt(n-1)).Int64()
}

// knownByRoot returns the number of trees of n nodes, at least 2, with k children of the root by
// the formula of the ballot numbers.
func knownByRoot(n, k int64) int64 {
	product := new(big.Int).Mul(big.NewInt(k), choose(2*n-3-k, n-2))
	return product.Div(product, big.NewInt(n-1)).Int64()
}

// walksWithin returns the number of walks round trees of n nodes that stay within a height.
func walksWithin(n, height int64) int64 {
	if height < 0 {
		return 0
	}
	at := make([]int64, height+3)
	at[1] = 1
	for range 2*n - 2 {
		next := make([]int64, height+3)
		for i := int64(1); i <= height+1; i++ {
			next[i] = at[i-1] + at[i+1]
		}
		at = next
	}
	return at[1]
}

// badSizes returns numbers that are not in 1..limit.
func badSizes(limit int64) []int64 {
	return []int64{0, -1, limit + 1, limit + 2, math.MinInt64, math.MaxInt64, 1 << 32, -1 << 32}
}

func TestLimitsOfLists(t *testing.T) {
	if impl.MaxCounted != 30 || impl.MaxListed != 7 {
		t.Errorf("MaxCounted = %d, MaxListed = %d", impl.MaxCounted, impl.MaxListed)
	}
}

func TestFirstAndLastTree(t *testing.T) {
	for n := 1; n <= impl.MaxNodes; n++ {
		first, code := impl.FirstTree(int64(n))
		wantTree(t, fmt.Sprint("FirstTree ", n), first, code, pathText(n))
		last, code := impl.LastTree(int64(n))
		wantTree(t, fmt.Sprint("LastTree ", n), last, code, starText(n))
		none, code := impl.NextTree(last)
		wantCode(t, fmt.Sprint("NextTree of the last one of ", n), none, code, impl.ErrNotFound)
	}
	for _, n := range badSizes(impl.MaxNodes) {
		first, code := impl.FirstTree(n)
		wantCode(t, fmt.Sprint("FirstTree ", n), first, code, impl.ErrRange)
		last, code := impl.LastTree(n)
		wantCode(t, fmt.Sprint("LastTree ", n), last, code, impl.ErrRange)
	}
}

// TestTreesInOrder holds next trees, ranks and trees of ranks against the sorted small trees.
func TestTreesInOrder(t *testing.T) {
	for n := int64(1); n <= 8; n++ {
		all := orderedTrees(int(n))
		for r, x := range all {
			rank, code := impl.RankOfTree(x)
			wantNumber(t, fmt.Sprint("RankOfTree ", x), rank, code, int64(r))
			back, code := impl.TreeOfRank(n, int64(r))
			wantList(t, fmt.Sprint("TreeOfRank ", n, r), back.Degrees, code, x.Degrees...)
			next, code := impl.NextTree(x)
			if r+1 == len(all) {
				wantCode(t, fmt.Sprint("NextTree ", x), next, code, impl.ErrNotFound)
			} else {
				wantList(t, fmt.Sprint("NextTree ", x), next.Degrees, code, all[r+1].Degrees...)
			}
		}
		x, code := impl.TreeOfRank(n, int64(len(all)))
		wantCode(t, fmt.Sprint("TreeOfRank behind the last one of ", n), x, code, impl.ErrNotFound)
	}
	next, code := impl.NextTree(degreesOf(1, 1, 0))
	wantList(t, "NextTree of the example", next.Degrees, code, 2, 0, 0)
}

// TestRanksOfLargeTrees goes by single steps round ranks in many places, as far as MaxNodes nodes.
func TestRanksOfLargeTrees(t *testing.T) {
	for _, n := range []int64{10, 11, 16, 23, impl.MaxNodes} {
		total := knownTrees(n)
		for i := range int64(40) {
			r := total / 40 * i
			if i%2 == 1 {
				r = total - 2 - i*i
			}
			x, code := impl.TreeOfRank(n, r)
			rank, codeOfRank := impl.RankOfTree(x)
			if code != impl.ErrNone || int64(len(x.Degrees)) != n || !impl.IsTree(x) {
				t.Fatalf("TreeOfRank %d %d = %v, %d", n, r, x, code)
			}
			wantNumber(t, fmt.Sprint("RankOfTree ", x), rank, codeOfRank, r)
			next, code := impl.NextTree(x)
			if slices.Compare(x.Degrees, next.Degrees) >= 0 {
				t.Errorf("NextTree of %v = %v", x, next)
			}
			behind, _ := impl.TreeOfRank(n, r+1)
			wantList(t, fmt.Sprint("NextTree ", x), next.Degrees, code, behind.Degrees...)
		}
	}
}

func TestLastRanks(t *testing.T) {
	for n := int64(1); n <= impl.MaxNodes; n++ {
		total := knownTrees(n)
		first, code := impl.TreeOfRank(n, 0)
		wantTree(t, fmt.Sprint("TreeOfRank of 0 ", n), first, code, pathText(int(n)))
		last, code := impl.TreeOfRank(n, total-1)
		wantTree(t, fmt.Sprint("TreeOfRank of the last rank ", n), last, code, starText(int(n)))
		rank, code := impl.RankOfTree(parsed(starText(int(n))))
		wantNumber(t, fmt.Sprint("RankOfTree of the last one of ", n), rank, code, total-1)
		for _, r := range []int64{total, total + 1, math.MaxInt64} {
			x, code := impl.TreeOfRank(n, r)
			wantCode(t, fmt.Sprint("TreeOfRank ", n, " ", r), x, code, impl.ErrNotFound)
		}
		for _, r := range []int64{-1, math.MinInt64} {
			x, code := impl.TreeOfRank(n, r)
			wantCode(t, fmt.Sprint("TreeOfRank ", n, " ", r), x, code, impl.ErrRange)
		}
	}
	for _, n := range badSizes(impl.MaxNodes) {
		for _, r := range []int64{0, -1, math.MaxInt64} {
			x, code := impl.TreeOfRank(n, r)
			wantCode(t, fmt.Sprint("TreeOfRank ", n, " ", r), x, code, impl.ErrRange)
		}
	}
}

func TestTreesOf(t *testing.T) {
	for n := 1; n <= impl.MaxListed; n++ {
		list, code := impl.TreesOf(int64(n))
		if want := orderedTrees(n); fmt.Sprint(list) != fmt.Sprint(want) || code != impl.ErrNone {
			t.Errorf("TreesOf %d = %v, %d; want %v", n, list, code, want)
		}
	}
	for n := int64(impl.MaxListed + 1); n <= impl.MaxNodes; n++ {
		list, code := impl.TreesOf(n)
		wantCode(t, fmt.Sprint("TreesOf ", n), list, code, impl.ErrLimit)
	}
	for _, n := range badSizes(impl.MaxNodes) {
		list, code := impl.TreesOf(n)
		wantCode(t, fmt.Sprint("TreesOf ", n), list, code, impl.ErrRange)
	}
}

func TestCountTrees(t *testing.T) {
	for n := int64(1); n <= impl.MaxCounted; n++ {
		count, code := impl.CountTrees(n)
		wantNumber(t, fmt.Sprint("CountTrees ", n), count, code, knownTrees(n))
	}
	for _, n := range badSizes(impl.MaxCounted) {
		count, code := impl.CountTrees(n)
		wantCode(t, fmt.Sprint("CountTrees ", n), count, code, impl.ErrRange)
	}
}

// byNumber has each function that counts trees by one more number.
var byNumber = map[string]func(n, k int64) (int64, int64){
	"CountByLeaves": impl.CountByLeaves,
	"CountByHeight": impl.CountByHeight,
	"CountByRoot":   impl.CountByRoot,
}

// TestCountsOfSmallTrees holds the numbers against those of the listed small trees.
func TestCountsOfSmallTrees(t *testing.T) {
	for n := int64(1); n <= 9; n++ {
		found := map[string][]int64{}
		for name := range byNumber {
			found[name] = make([]int64, n+1)
		}
		for _, text := range treeTexts(int(n)) {
			m := modelOf(text)
			leaves := m.each(func(v int64) int64 { return int64(len(m.part(v))) })
			found["CountByLeaves"][len(slices.DeleteFunc(leaves, func(x int64) bool { return x > 2 }))]++
			found["CountByHeight"][slices.Max(m.each(m.depth))]++
			found["CountByRoot"][len(m.children(0))]++
		}
		for name, f := range byNumber {
			for k, want := range found[name] {
				count, code := f(n, int64(k))
				wantNumber(t, fmt.Sprint(name, " ", n, " ", k), count, code, want)
			}
		}
	}
}

// TestCountsByFormulas holds the numbers against formulas, as far as MaxCounted nodes.
func TestCountsByFormulas(t *testing.T) {
	for n := int64(2); n <= impl.MaxCounted; n++ {
		for k := range n + 1 {
			what := fmt.Sprint(" ", n, " ", k)
			count, code := impl.CountByLeaves(n, k)
			wantNumber(t, "CountByLeaves"+what, count, code, knownByLeaves(n, k))
			count, code = impl.CountByHeight(n, k)
			wantNumber(t, "CountByHeight"+what, count, code, walksWithin(n, k)-walksWithin(n, k-1))
			count, code = impl.CountByRoot(n, k)
			wantNumber(t, "CountByRoot"+what, count, code, knownByRoot(n, k))
		}
	}
}

func TestCountsRefuse(t *testing.T) {
	for name, f := range byNumber {
		for _, n := range badSizes(impl.MaxCounted) {
			for _, k := range []int64{0, 1, n, -1} {
				count, code := f(n, k)
				wantCode(t, fmt.Sprint(name, " ", n, " ", k), count, code, impl.ErrRange)
			}
		}
		for n := int64(1); n <= impl.MaxCounted; n++ {
			for _, k := range []int64{-1, n + 1, math.MinInt64, math.MaxInt64} {
				count, code := f(n, k)
				wantCode(t, fmt.Sprint(name, " ", n, " ", k), count, code, impl.ErrRange)
			}
			none, code := f(n, n)
			wantNumber(t, fmt.Sprint(name, " ", n, " ", n), none, code, map[bool]int64{true: 1}[n == 1 && name == "CountByLeaves"])
		}
	}
}

// countsIn returns the counts of a tree that its text tells.
func countsIn(text string) []int64 {
	var counts []int64
	for _, degree := range modelOf(text).tree().Degrees {
		for int64(len(counts)) <= degree {
			counts = append(counts, 0)
		}
		counts[degree]++
	}
	return counts
}

func TestCountsOfTree(t *testing.T) {
	for _, text := range manyTexts() {
		counts, code := impl.CountsOfTree(parsed(text))
		wantList(t, "CountsOfTree "+text, counts, code, countsIn(text)...)
	}
	counts, code := impl.CountsOfTree(degreesOf(2, 0, 1, 0))
	wantList(t, "CountsOfTree", counts, code, 2, 1, 1)
	counts, code = impl.CountsOfTree(degreesOf(0))
	wantList(t, "CountsOfTree of one node", counts, code, 1)
}

// TestCountByShortCounts holds all lists of at most five numbers in 0..4 against the small trees.
func TestCountByShortCounts(t *testing.T) {
	found := map[string]int64{}
	for n := 1; n <= 9; n++ {
		for _, text := range treeTexts(n) {
			found[fmt.Sprint(countsIn(text))]++
		}
	}
	var try func(list []int64, sum int64)
	try = func(list []int64, sum int64) {
		count, code := impl.CountByCounts(list)
		what := fmt.Sprint("CountByCounts ", list)
		switch want := found[fmt.Sprint(list)]; {
		case len(list) == 0 || list[len(list)-1] == 0:
			wantCode(t, what, count, code, impl.ErrRange)
		case want > 0:
			wantNumber(t, what, count, code, want)
		default:
			wantCode(t, what, count, code, impl.ErrState)
		}
		for x := int64(0); x <= 4 && len(list) < 5 && sum+x <= 9; x++ {
			try(append(slices.Clone(list), x), sum+x)
		}
	}
	try(nil, 0)
}

func TestCountByCounts(t *testing.T) {
	star := make([]int64, 20)
	star[0], star[19] = 19, 1
	for _, c := range []struct {
		list []int64
		want int64
	}{
		{[]int64{2, 1, 1}, 3}, {[]int64{1}, 1}, {[]int64{1, 19}, 1}, {[]int64{10, 0, 9}, knownTrees(10)}, {star, 1},
		{[]int64{8, 7, 3, 2}, 49884120},
	} {
		count, code := impl.CountByCounts(c.list)
		wantNumber(t, fmt.Sprint("CountByCounts ", c.list), count, code, c.want)
	}
}

// listWith returns a list of so many numbers that has a number at its begin and one at its end.
func listWith(length int, first, last int64) []int64 {
	list := make([]int64, length)
	list[0] = first
	list[length-1] = last
	return list
}

func TestCountByCountsRefuses(t *testing.T) {
	for _, list := range [][]int64{
		nil, {}, {0}, {-1}, {2, 1, 1, 0}, {1, 0}, {0, 0}, {2, -1, 1}, {2, 1, -1}, {-2, 3, 1}, {21}, {1, 20}, {20, 1}, {11, 0, 10},
		{math.MaxInt64}, {math.MinInt64}, {math.MaxInt64, math.MaxInt64, 4}, {math.MinInt64, math.MinInt64, 1}, {math.MaxInt64, 1, math.MinInt64, 1},
		{1 << 32, 1 << 32}, listWith(impl.MaxCounted+1, 1, 1), listWith(impl.MaxCounted+1, 30, 1), listWith(impl.MaxCounted, 20, 1),
		listWith(impl.MaxCounted, 19, 0), make([]int64, impl.MaxCounted), make([]int64, 500),
	} {
		count, code := impl.CountByCounts(list)
		wantCode(t, fmt.Sprint("CountByCounts ", list), count, code, impl.ErrRange)
	}
	for _, list := range [][]int64{{20}, {2}, {0, 1}, {19, 1}, {0, 20}, {1, 1, 1}, {2, 1, 0, 1}, {10, 0, 10}, listWith(impl.MaxCounted, 19, 1), listWith(impl.MaxCounted, 0, 20), listWith(impl.MaxCounted, 0, 1)} {
		count, code := impl.CountByCounts(list)
		wantCode(t, fmt.Sprint("CountByCounts ", list), count, code, impl.ErrState)
	}
}
