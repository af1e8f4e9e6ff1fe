package tests

import (
	"fmt"
	"slices"
	"testing"
	"testing/synctest"

	"loop.example/g01391/impl"
)

// TestPromise5 checks promise 5 by the package's functions alone: contours and depths lead back, and
// trees from corners have the same shape.
func TestPromise5(t *testing.T) {
	for _, text := range manyTexts() {
		x := parsed(text)
		contour, code := impl.ContourOf(x)
		if code != impl.ErrNone || len(contour) != 2*len(x.Degrees)-1 {
			t.Fatalf("ContourOf %s = %v, %d", text, contour, code)
		}
		back, code := impl.TreeOfContour(contour)
		wantTree(t, fmt.Sprint("TreeOfContour ", contour), back, code, text)
		depths, _ := impl.DepthsOf(x)
		back, code = impl.TreeOfDepths(depths)
		wantTree(t, fmt.Sprint("TreeOfDepths ", depths), back, code, text)
		checkShapes(t, x)
	}
}

// checkShapes checks that the trees from all corners have the same shape, and that the least one is
// one of them and behind none.
func checkShapes(t *testing.T, x impl.Tree) {
	t.Helper()
	least, code := impl.LeastShape(x)
	if code != impl.ErrNone {
		t.Fatalf("LeastShape %v: code %d", x, code)
	}
	met, corners := false, 0
	for v := range int64(len(x.Degrees)) {
		y, code := impl.FromCorner(x, v, 0)
		for k := int64(0); code == impl.ErrNone; k++ {
			what := fmt.Sprint(x, " ", v, " ", k)
			yes, codeOfSame := impl.HaveSameShape(x, y)
			wantAnswer(t, "HaveSameShape from the corner "+what, yes, codeOfSame, true)
			order, codeOfOrder := impl.CompareTrees(least, y)
			if order > 0 || codeOfOrder != impl.ErrNone {
				t.Errorf("LeastShape = %v, but %v comes before it, from the corner %s", least, y, what)
			}
			met = met || order == 0
			corners++
			y, code = impl.FromCorner(x, v, k+1)
		}
	}
	if !met || corners != max(2*len(x.Degrees)-2, 1) {
		t.Errorf("LeastShape of %v = %v, among the trees from %d corners: %v", x, least, corners, met)
	}
}

// TestPromise16 checks promise 16 by the package's functions alone: ways go over meets, and centres
// halve longest ways.
func TestPromise16(t *testing.T) {
	for _, text := range manyTexts() {
		x := parsed(text)
		for v := range int64(len(x.Degrees)) {
			for w := range int64(len(x.Degrees)) {
				checkOverMeet(t, x, v, w)
			}
		}
		longest, _ := impl.LongestWay(x)
		halves := []int64{longest[(len(longest)-1)/2], longest[len(longest)/2]}
		slices.Sort(halves)
		centres, code := impl.CentresOf(x)
		wantList(t, "CentresOf "+text, centres, code, slices.Compact(halves)...)
	}
}

// checkOverMeet checks that a way goes over the meet, up to it and then down.
func checkOverMeet(t *testing.T, x impl.Tree, v, w int64) {
	t.Helper()
	what := fmt.Sprint(x, " ", v, " ", w)
	meet, _ := impl.MeetOf(x, v, w)
	way, code := impl.WayBetween(x, v, w)
	at := slices.Index(way, meet)
	if code != impl.ErrNone || at < 0 || way[0] != v || way[len(way)-1] != w {
		t.Fatalf("WayBetween %s = %v, %d, with the meet %d", what, way, code, meet)
	}
	parents, _ := impl.ParentsOf(x)
	for i, node := range way {
		if i < at && parents[node] != way[i+1] || i > at && parents[node] != way[i-1] {
			t.Errorf("WayBetween %s = %v does not go up to %d and then down", what, way, meet)
		}
	}
	steps, code := impl.StepsBetween(x, v, w)
	wantNumber(t, "StepsBetween "+what, steps, code, int64(len(way)-1))
	back, code := impl.WayBetween(x, w, v)
	slices.Reverse(back)
	wantList(t, "WayBetween and back "+what, back, code, way...)
}

// TestNumbersOfDistances checks that reaches, longest ways and sums are those of the distances.
func TestNumbersOfDistances(t *testing.T) {
	for _, text := range manyTexts() {
		x := parsed(text)
		n := int64(len(x.Degrees))
		reaches := make([]int64, n)
		sum := int64(0)
		for v := range n {
			for w := range n {
				steps, _ := impl.StepsBetween(x, v, w)
				reaches[v] = max(reaches[v], steps)
				if v < w {
					sum += steps
				}
			}
		}
		got, code := impl.ReachesOf(x)
		wantList(t, "ReachesOf "+text, got, code, reaches...)
		total, code := impl.SumOfDistances(x)
		wantNumber(t, "SumOfDistances "+text, total, code, sum)
		longest, code := impl.LongestWay(x)
		wantNumber(t, "the length of LongestWay "+text, int64(len(longest)-1), code, slices.Max(reaches))
	}
}

// TestCornersKeepDistances checks that the trees from all corners have the same distances, and the
// same neighbours in the same order around each node.
func TestCornersKeepDistances(t *testing.T) {
	for _, text := range append(treesUpTo(6), someText(impl.MaxNodes, 1), someText(impl.MaxNodes, 9)) {
		m := modelOf(text)
		for _, c := range m.cornersOf() {
			y, code := impl.FromCorner(m.tree(), c[0], c[1])
			if code != impl.ErrNone {
				t.Fatalf("FromCorner %s %v: code %d", text, c, code)
			}
			checkTurned(t, m.tree(), y, turnedOrder(m.tree(), nil, c[0], c[1]))
		}
	}
}

// turnedOrder appends the nodes below a corner in preorder: from each neighbour, from the one that is
// told on, it goes on behind the node from which it comes.
func turnedOrder(x impl.Tree, order []int64, v, k int64) []int64 {
	isRoot := len(order) == 0
	order = append(order, v)
	around, _ := impl.AroundOf(x, v)
	for i := range around {
		next := around[(int(k)+i)%len(around)]
		// The last neighbour of all but the root is the node from which it comes.
		if !isRoot && i == len(around)-1 {
			break
		}
		back, _ := impl.AroundOf(x, next)
		place := (slices.Index(back, v) + 1) % len(back)
		order = turnedOrder(x, order, next, int64(place))
	}
	return order
}

// checkTurned checks that the nodes of y stand for those of x in an order.
func checkTurned(t *testing.T, x, y impl.Tree, order []int64) {
	t.Helper()
	if len(order) != len(x.Degrees) || len(order) != len(y.Degrees) {
		t.Fatalf("%v and %v have the order %v", x, y, order)
	}
	for i, v := range order {
		for j, w := range order {
			before, _ := impl.StepsBetween(x, v, w)
			behind, code := impl.StepsBetween(y, int64(i), int64(j))
			wantNumber(t, fmt.Sprint("the distance of ", v, " and ", w, " of ", x, " in ", y), behind, code, before)
		}
		around, _ := impl.AroundOf(x, v)
		turned, code := impl.AroundOf(y, int64(i))
		for place := range turned {
			turned[place] = order[turned[place]]
		}
		// Both begin at some neighbour and go round.
		first := max(slices.Index(around, slices.Concat(turned, []int64{-1})[0]), 0)
		wantList(t, fmt.Sprint("the neighbours of ", v, " of ", x, " in ", y), turned, code, slices.Concat(around[first:], around[:first])...)
	}
}

// TestCornersKeepNumbers checks that what does not depend on a corner is the same from all corners.
func TestCornersKeepNumbers(t *testing.T) {
	numbers := map[string]func(x impl.Tree) []int64{
		"SumOfDistances": func(x impl.Tree) []int64 { sum, _ := impl.SumOfDistances(x); return []int64{sum} },
		"ReachesOf":      func(x impl.Tree) []int64 { list, _ := impl.ReachesOf(x); return list },
		"LayersOf":       func(x impl.Tree) []int64 { list, _ := impl.LayersOf(x); return list },
		"LongestWay":     func(x impl.Tree) []int64 { list, _ := impl.LongestWay(x); return make([]int64, len(list)) },
		"CentresOf":      func(x impl.Tree) []int64 { list, _ := impl.CentresOf(x); return make([]int64, len(list)) },
		"MiddleNodes":    func(x impl.Tree) []int64 { list, _ := impl.MiddleNodes(x); return make([]int64, len(list)) },
	}
	for _, text := range manyTexts() {
		m := modelOf(text)
		for name, f := range numbers {
			want := slices.Sorted(slices.Values(f(m.tree())))
			for _, c := range m.cornersOf() {
				y, _ := impl.FromCorner(m.tree(), c[0], c[1])
				if got := slices.Sorted(slices.Values(f(y))); !sameList(got, want) {
					t.Errorf("%s of %s from the corner %v = %v, want %v", name, text, c, got, want)
				}
			}
		}
	}
}

// TestWidthsFromCorners checks that levels from a corner are the nodes of a distance.
func TestWidthsFromCorners(t *testing.T) {
	for _, text := range append(treesUpTo(6), largeTexts()...) {
		m := modelOf(text)
		reaches, _ := impl.ReachesOf(m.tree())
		for _, c := range m.cornersOf() {
			want := make([]int64, reaches[c[0]]+1)
			for w := range m.count() {
				steps, _ := impl.StepsBetween(m.tree(), c[0], w)
				want[steps]++
			}
			y, _ := impl.FromCorner(m.tree(), c[0], c[1])
			widths, code := impl.WidthsOf(y)
			wantList(t, fmt.Sprint("WidthsOf ", text, " from the corner ", c), widths, code, want...)
		}
	}
}

func TestWalkArgumentsStay(t *testing.T) {
	x, xMemory := guarded("((()())()(()))")
	u, uMemory := guarded("(()(())(()()))")
	contour := []int64{0, 1, 2, 1, 0, 1, 0, -77, -77, -77}
	depths := []int64{0, 1, 2, 2, 1, -77, -77, -77}
	memories := [][]int64{xMemory, uMemory, contour, depths}
	calls := map[string]func() (any, int64){
		"TreeOfContour":      func() (any, int64) { return pair(impl.TreeOfContour(contour[:7])) },
		"TreeOfContour none": func() (any, int64) { return pair(impl.TreeOfContour(contour[:6])) },
		"TreeOfDepths":       func() (any, int64) { return pair(impl.TreeOfDepths(depths[:5])) },
		"TreeOfDepths none":  func() (any, int64) { return pair(impl.TreeOfDepths(depths[:6])) },
		"HaveSameShape":      func() (any, int64) { return pair(impl.HaveSameShape(x, u)) },
		"LeastShape":         func() (any, int64) { return pair(impl.LeastShape(u)) },
		"FromCorner":         func() (any, int64) { return pair(impl.FromCorner(x, 1, 2)) },
		"FromCorner itself":  func() (any, int64) { return pair(impl.FromCorner(x, 0, 0)) },
		"WayBetween":         func() (any, int64) { return pair(impl.WayBetween(x, 6, 3)) },
		"WayBetween itself":  func() (any, int64) { return pair(impl.WayBetween(x, 6, 6)) },
		"LeastShape itself": func() (any, int64) {
			least, _ := impl.LeastShape(x)
			return pair(impl.LeastShape(least))
		},
	}
	checkStay(t, calls, func() string { return fmt.Sprint(memories) })
}

// TestLeastShapeOfItselfIsNew checks that the least shape is new memory where it is the argument.
func TestLeastShapeOfItselfIsNew(t *testing.T) {
	for _, text := range []string{"()", "(())", "((()))", "((()()))", pathText(impl.MaxNodes)} {
		x, memory := guarded(text)
		least, code := impl.LeastShape(x)
		wantTree(t, "LeastShape "+text, least, code, text)
		spoil(least)
		if slices.Contains(memory, -99) {
			t.Errorf("LeastShape of %s shares memory with its argument", text)
		}
	}
}

// TestNoWalkIsLeft checks that no goroutine of a call goes on behind it: the bubble ends only when all
// of them have ended.
func TestNoWalkIsLeft(t *testing.T) {
	synctest.Test(t, func(t *testing.T) {
		for _, x := range append(badTrees(), parsed("()"), parsed("(()(()))"), parsed(starText(impl.MaxNodes))) {
			for _, call := range ofTree {
				call(x)
			}
			for _, call := range ofNode {
				call(x, 0)
			}
			for _, list := range [][]int64{x.Degrees, {0, 1, 0, 1, 0}, {0, 1, 2, 1}, {0, 1, 2, 0}} {
				impl.TreeOfContour(list)
				impl.TreeOfDepths(list)
			}
		}
		synctest.Wait()
	})
}
