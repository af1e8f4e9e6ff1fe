package tests

import (
	"fmt"
	"slices"
	"testing"
	"testing/synctest"

	"loop.example/g01391/impl"
)

// TestPromise7 checks promise 7 by the package's functions alone: edits go back, and distances are the same
// both ways.
func TestPromise7(t *testing.T) {
	for _, text := range append(manyTexts(), distantTexts()...) {
		checkTakenOutGoesBack(t, parsed(text))
		checkPutInGoesBack(t, parsed(text))
	}
	texts := append(treesUpTo(6), distantTexts()...)
	for i, text := range texts {
		for _, other := range texts[:i+1] {
			checkBothWays(t, parsed(text), parsed(other))
		}
	}
}

// checkTakenOutGoesBack takes out each node, and puts it in over its children again.
func checkTakenOutGoesBack(t *testing.T, x impl.Tree) {
	t.Helper()
	parents, _ := impl.ParentsOf(x)
	for v := int64(1); v < int64(len(x.Degrees)); v++ {
		less, code := impl.TakeOut(x, v)
		if code != impl.ErrNone || !impl.IsTree(less) || len(less.Degrees) != len(x.Degrees)-1 {
			t.Fatalf("TakeOut %v %d = %v, %d", x, v, less, code)
		}
		address, _ := impl.AddressOf(x, v)
		back, code := impl.PutIn(less, parents[v], address[len(address)-1], x.Degrees[v])
		wantList(t, fmt.Sprint("PutIn what is taken out, ", x, " ", v), back.Degrees, code, x.Degrees...)
		checkOneEdit(t, x, less)
	}
}

// checkPutInGoesBack puts in nodes at all places over all numbers of children, and takes them out again.
func checkPutInGoesBack(t *testing.T, x impl.Tree) {
	t.Helper()
	for v, degree := range x.Degrees {
		address, _ := impl.AddressOf(x, int64(v))
		for place := range degree + 1 {
			for children := range degree - place + 1 {
				more, code := impl.PutIn(x, int64(v), place, children)
				if len(x.Degrees) == impl.MaxNodes {
					wantCode(t, fmt.Sprint("PutIn ", x), more, code, impl.ErrLimit)
					continue
				}
				node, codeOfNode := impl.NodeAt(more, append(slices.Clone(address), place))
				back, codeOfBack := impl.TakeOut(more, node)
				if code != impl.ErrNone || codeOfNode != impl.ErrNone || more.Degrees[node] != children {
					t.Fatalf("PutIn %v %d %d %d = %v, %d", x, v, place, children, more, code)
				}
				wantList(t, fmt.Sprint("TakeOut what is put in, ", x, " ", v, " ", place, " ", children), back.Degrees, codeOfBack, x.Degrees...)
			}
		}
	}
}

// checkOneEdit checks that one edit leads from a tree to one of a node less, and back.
func checkOneEdit(t *testing.T, x, less impl.Tree) {
	t.Helper()
	what := fmt.Sprint(x, " ", less)
	distance, code := impl.EditDistance(x, less)
	wantNumber(t, "EditDistance "+what, distance, code, 1)
	yes, code := impl.CanTakeOut(x, less)
	wantAnswer(t, "CanTakeOut "+what, yes, code, true)
	yes, code = impl.CanTakeOut(less, x)
	wantAnswer(t, "CanTakeOut the other way "+what, yes, code, false)
}

func checkBothWays(t *testing.T, x, y impl.Tree) {
	t.Helper()
	for name, f := range map[string]func(x, y impl.Tree) (int64, int64){
		"EditDistance": impl.EditDistance, "LeafDistance": impl.LeafDistance, "NodesInCommon": impl.NodesInCommon,
	} {
		there, code := f(x, y)
		if code != impl.ErrNone {
			t.Fatalf("%s %v %v: code %d", name, x, y, code)
		}
		back, code := f(y, x)
		wantNumber(t, fmt.Sprint(name, " ", y, " ", x), back, code, there)
		mirror, _ := impl.MirrorOf(x)
		otherMirror, _ := impl.MirrorOf(y)
		mirrored, code := f(mirror, otherMirror)
		wantNumber(t, fmt.Sprint(name, " of mirrored ", x, " ", y), mirrored, code, there)
	}
}

// TestNeighboursGoBack checks that trees that come by taking out are those from which the tree comes by
// putting in, and the other way.
func TestNeighboursGoBack(t *testing.T) {
	hasTree := func(list []impl.Tree, x impl.Tree) bool {
		return slices.ContainsFunc(list, func(y impl.Tree) bool { return slices.Equal(x.Degrees, y.Degrees) })
	}
	for _, text := range append(manyTexts(), distantTexts()...) {
		x := parsed(text)
		less, code := impl.ByTakingOut(x)
		if code != impl.ErrNone || (len(less) == 0) != (text == "()") {
			t.Fatalf("ByTakingOut %s = %v, %d", text, less, code)
		}
		for _, y := range less {
			if more, code := impl.ByPuttingIn(y); code != impl.ErrNone || !hasTree(more, x) {
				t.Errorf("ByPuttingIn %v = %v, %d, without %v", y, more, code, x)
			}
		}
		more, _ := impl.ByPuttingIn(x)
		for _, y := range more {
			if less, code := impl.ByTakingOut(y); code != impl.ErrNone || !hasTree(less, x) {
				t.Errorf("ByTakingOut %v = %v, %d, without %v", y, less, code, x)
			}
			checkOneEdit(t, y, x)
		}
		checkTreeOrder(t, less)
		checkTreeOrder(t, more)
	}
}

// checkTreeOrder checks that all trees of a list are different, and in the order of trees.
func checkTreeOrder(t *testing.T, list []impl.Tree) {
	t.Helper()
	for i := 1; i < len(list); i++ {
		if order, code := impl.CompareTrees(list[i-1], list[i]); order != -1 || code != impl.ErrNone {
			t.Errorf("%v and %v stand one behind the other: %d, %d", list[i-1], list[i], order, code)
		}
	}
}

// TestDistancesAreAMetric checks the guarantee: distances are those of a metric, and leaf distances are so
// too, and not less.
func TestDistancesAreAMetric(t *testing.T) {
	texts := append(treesUpTo(5), pathsAndStars()...)
	texts = append(texts, pathText(24), starText(24), combText(23, true), combText(23, false), someText(24, 4), someText(24, 9))
	for _, distanceOf := range []func(x, y impl.Tree) (int64, int64){impl.EditDistance, impl.LeafDistance} {
		distances := make([][]int64, len(texts))
		for i, text := range texts {
			for j, other := range texts {
				distance, code := distanceOf(parsed(text), parsed(other))
				if code != impl.ErrNone || distance < 0 || (distance == 0) != (text == other) || distance%2 != int64(len(text)+len(other))/2%2 {
					t.Fatalf("the distance of %s and %s is %d, code %d (tree %d of the list, and %d)", text, other, distance, code, i, j)
				}
				distances[i] = append(distances[i], distance)
			}
		}
		for i := range texts {
			for j := range texts {
				for k := range texts {
					if distances[i][k] > distances[i][j]+distances[j][k] {
						t.Errorf("the distances of %s, %s and %s: %d > %d + %d", texts[i], texts[j], texts[k], distances[i][k], distances[i][j], distances[j][k])
					}
				}
			}
		}
	}
}

// TestLeafDistancesAreNotLess checks that leaf distances are not less than distances, and greater for some
// trees.
func TestLeafDistancesAreNotLess(t *testing.T) {
	greater := 0
	for _, text := range append(treesUpTo(6), distantTexts()...) {
		for _, other := range append(treesUpTo(6), distantTexts()...) {
			distance, _ := impl.EditDistance(parsed(text), parsed(other))
			leafDistance, code := impl.LeafDistance(parsed(text), parsed(other))
			if code != impl.ErrNone || leafDistance < distance || leafDistance > int64(len(text)+len(other))/2-2 {
				t.Errorf("LeafDistance %s %s = %d, %d, with the distance %d", text, other, leafDistance, code, distance)
			}
			if leafDistance > distance {
				greater++
			}
		}
	}
	if greater < 1000 {
		t.Errorf("only %d leaf distances are greater", greater)
	}
}

// TestWaysOfEditsHaveDistances checks that ways have as many steps as distances, and that each tree is the
// least one that is nearer.
func TestWaysOfEditsHaveDistances(t *testing.T) {
	texts := append(treesUpTo(4), pathsAndStars()...)
	for _, text := range texts {
		for _, other := range texts {
			x, u := parsed(text), parsed(other)
			way, code := impl.EditWay(x, u)
			distance, _ := impl.EditDistance(x, u)
			if code != impl.ErrNone || int64(len(way)) != distance+1 {
				t.Fatalf("EditWay %s %s = %v, %d, with the distance %d", text, other, way, code, distance)
			}
			wantTree(t, "the first tree of EditWay "+text+" "+other, way[0], code, text)
			wantTree(t, "the last tree of EditWay "+text+" "+other, way[distance], code, other)
			for i, y := range way[1:] {
				wantList(t, fmt.Sprint("EditWay ", text, " ", other, ", behind ", way[i]), y.Degrees, code, leastNearer(way[i], u).Degrees...)
			}
		}
	}
}

// leastNearer returns the first tree by one edit that has a distance from u that is less by one.
func leastNearer(x, u impl.Tree) impl.Tree {
	distance, _ := impl.EditDistance(x, u)
	less, _ := impl.ByTakingOut(x)
	more, _ := impl.ByPuttingIn(x)
	for _, y := range append(less, more...) {
		if nearer, _ := impl.EditDistance(y, u); nearer == distance-1 {
			return y
		}
	}
	return impl.Tree{}
}

// TestCommonPairsAreInCommon checks that common pairs agree, that they are as many as the nodes in common,
// that they have the roots, and that both trees without all other nodes are the same.
func TestCommonPairsAreInCommon(t *testing.T) {
	texts := append(treesUpTo(6), distantTexts()...)
	for _, text := range texts {
		for _, other := range texts {
			x, y := parsed(text), parsed(other)
			what := fmt.Sprint("CommonPairs ", text, " ", other)
			pairs, code := impl.CommonPairs(x, y)
			common, _ := impl.NodesInCommon(x, y)
			wantNumber(t, "the number of "+what, int64(len(pairs)), code, common)
			yes, code := impl.DoAgree(x, y, pairs)
			wantAnswer(t, "DoAgree "+what, yes, code, true)
			var first, second []int64
			for _, p := range pairs {
				first, second = append(first, p[0]), append(second, p[1])
			}
			if !slices.IsSorted(first) || first[0] != 0 || second[0] != 0 {
				t.Errorf("%s = %v", what, pairs)
			}
			left := without(x, first)
			wantList(t, "what is left by "+what, left.Degrees, code, without(y, second).Degrees...)
			yes, code = impl.CanTakeOut(x, left)
			wantAnswer(t, "CanTakeOut what is left by "+what, yes, code, true)
		}
	}
}

// without returns a tree with all nodes but those of a list taken out.
func without(x impl.Tree, list []int64) impl.Tree {
	for v := int64(len(x.Degrees)) - 1; v > 0; v-- {
		if !slices.Contains(list, v) {
			x, _ = impl.TakeOut(x, v)
		}
	}
	return x
}

func TestEditArgumentsStay(t *testing.T) {
	x, xMemory := guarded("((()())())")
	u, uMemory := guarded("(()(())(()))")
	numbers := [][]int64{{0, 0, -77, -77}, {1, 2, -77, -77}, {4, 4, -77, -77}, {9, 9}}
	pairs := [][]int64{numbers[0][:2], numbers[1][:2], numbers[2][:2], numbers[3]}
	memories := [][][]int64{{xMemory, uMemory}, numbers, pairs}
	calls := map[string]func() (any, int64){
		"DoAgree turned": func() (any, int64) { return pair(impl.DoAgree(x, u, pairs[:2])) },
		"DoAgree more":   func() (any, int64) { return pair(impl.DoAgree(x, u, pairs[1:3])) },
		"DoAgree bad":    func() (any, int64) { return pair(impl.DoAgree(x, u, pairs)) },
		"EditWay back":   func() (any, int64) { return pair(impl.EditWay(u, x)) },
		"EditWay itself": func() (any, int64) { return pair(impl.EditWay(x, x)) },
		"PutIn over all": func() (any, int64) { return pair(impl.PutIn(u, 0, 0, 3)) },
		"PutIn behind":   func() (any, int64) { return pair(impl.PutIn(x, 4, 0, 0)) },
		"TakeOut last":   func() (any, int64) { return pair(impl.TakeOut(u, 5)) },
		"ByTakingOut":    func() (any, int64) { return pair(impl.ByTakingOut(u)) },
		"ByPuttingIn":    func() (any, int64) { return pair(impl.ByPuttingIn(u)) },
	}
	for name, f := range ofTwoTrees {
		calls[name] = func() (any, int64) { return f(x, u) }
	}
	checkStay(t, calls, func() string { return fmt.Sprint(memories) })
}

// TestEditsAreNew checks that no two lists of a result share memory.
func TestEditsAreNew(t *testing.T) {
	texts := append(treesUpTo(4), pathsAndStars()...)
	for _, text := range append(texts, distantTexts()...) {
		less, _ := impl.ByTakingOut(parsed(text))
		checkOwnMemory(t, "ByTakingOut "+text, less)
		more, _ := impl.ByPuttingIn(parsed(text))
		checkOwnMemory(t, "ByPuttingIn "+text, more)
		for _, other := range texts {
			pairs, _ := impl.CommonPairs(parsed(text), parsed(other))
			checkOwnMemory(t, "CommonPairs "+text+" "+other, pairs)
			way, _ := impl.EditWay(parsed(text), parsed(other))
			checkOwnMemory(t, "EditWay "+text+" "+other, way)
		}
	}
}

// TestNoNeighbourIsLeft checks that no goroutine of a call goes on behind it, and that several calls at once
// return what they return alone.
func TestNoNeighbourIsLeft(t *testing.T) {
	texts := pathsAndStars()
	synctest.Test(t, func(t *testing.T) {
		ways := make(chan string)
		for i := range texts {
			x, u := parsed(texts[i]), parsed(texts[len(texts)-1-i])
			way, _ := impl.EditWay(x, u)
			alone := fmt.Sprint(way)
			for range 4 {
				go func() {
					way, _ := impl.EditWay(x, u)
					ways <- fmt.Sprint(way)
				}()
			}
			for range 4 {
				if together := <-ways; together != alone {
					t.Errorf("EditWay %s %s = %s, and at once %s", texts[i], texts[len(texts)-1-i], alone, together)
				}
			}
		}
		synctest.Wait()
	})
}
