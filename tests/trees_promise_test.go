package tests

import (
	"fmt"
	"reflect"
	"slices"
	"testing"

	"loop.example/g01391/impl"
)

// TestPromise1 checks promise 1 and the guarantee of chapter 1 by the package's functions alone.
func TestPromise1(t *testing.T) {
	for _, text := range manyTexts() {
		x, code := impl.ParseTree(text)
		if code != impl.ErrNone {
			t.Fatalf("ParseTree %s: code %d", text, code)
		}
		checkSizes(t, x)
		checkAddresses(t, x)
		if back, code := impl.TreeText(x); back != text || code != impl.ErrNone {
			t.Errorf("TreeText = %q, %d; want %q", back, code, text)
		}
		once, _ := impl.MirrorOf(x)
		twice, code := impl.MirrorOf(once)
		wantTree(t, "mirrored twice", twice, code, text)
	}
}

func checkSizes(t *testing.T, x impl.Tree) {
	t.Helper()
	sizes, code := impl.SizesOf(x)
	if code != impl.ErrNone || len(sizes) != len(x.Degrees) || sizes[0] != int64(len(x.Degrees)) {
		t.Fatalf("SizesOf %v = %v, %d", x, sizes, code)
	}
	for v := range sizes {
		sum := int64(1)
		children, _ := impl.ChildrenOf(x, int64(v))
		for _, child := range children {
			sum += sizes[child]
		}
		part, _ := impl.SubtreeAt(x, int64(v))
		if sum != sizes[v] || int64(len(part.Degrees)) != sum || int64(len(children)) != x.Degrees[v] {
			t.Errorf("the sizes of %v do not add up at %d: %v", x, v, sizes)
		}
	}
}

func checkAddresses(t *testing.T, x impl.Tree) {
	t.Helper()
	depths, _ := impl.DepthsOf(x)
	for v := range int64(len(x.Degrees)) {
		address, _ := impl.AddressOf(x, v)
		back, code := impl.NodeAt(x, address)
		wantNumber(t, fmt.Sprint("NodeAt ", x, address), back, code, v)
		if int64(len(address)) != depths[v] {
			t.Errorf("the address %v of %d in %v is not as long as its depth", address, v, x)
		}
	}
}

// guarded returns a tree whose list has other numbers behind it, and all of its memory.
func guarded(text string) (impl.Tree, []int64) {
	memory := append(parsed(text).Degrees, slices.Repeat([]int64{-77}, 60)...)
	return impl.Tree{Degrees: memory[:len(text)/2]}, memory
}

// callsOf returns all calls with a tree and its nodes, by their names.
func callsOf(x impl.Tree) map[string]func() (any, int64) {
	calls := map[string]func() (any, int64){}
	for name, f := range ofTree {
		calls[name] = func() (any, int64) { return f(x) }
	}
	for v := range int64(len(x.Degrees)) {
		for name, f := range ofNode {
			calls[fmt.Sprint(name, " ", v)] = func() (any, int64) { return f(x, v) }
		}
		calls[fmt.Sprint("ReplaceAt by itself ", v)] = func() (any, int64) { return pair(impl.ReplaceAt(x, v, x)) }
	}
	calls["JoinTrees twice"] = func() (any, int64) { return pair(impl.JoinTrees([]impl.Tree{x, x})) }
	return calls
}

// spoil writes over a result, and over the spare capacity behind it.
func spoil(x any) {
	var list []int64
	switch y := x.(type) {
	case []int64:
		list = y
	case impl.Tree:
		list = y.Degrees
	case []impl.Tree:
		for _, tree := range y {
			spoil(tree)
		}
	case [][]int64:
		for _, part := range y {
			spoil(part)
		}
	case impl.Automaton:
		spoil(y.Good)
		steps := y.Steps[:cap(y.Steps)]
		for i := range steps {
			spoil(steps[i])
			steps[i] = []int64{-99}
		}
	case impl.Desk:
		spoil(y.Tree)
		spoil(y.Other)
		rules := y.Rules[:cap(y.Rules)]
		for i := range rules {
			rules[i] = impl.Rule{Left: "spoilt", Right: "spoilt"}
		}
	}
	list = list[:cap(list)]
	for i := range list {
		list[i] = -99
	}
}

// checkStay checks that calls do not change what is told of the memory of their arguments, that no result
// shares any of it, or any with another list of the same result, and that calls return the same again.
func checkStay(t *testing.T, calls map[string]func() (any, int64), memory func() string) {
	t.Helper()
	before := memory()
	for name, call := range calls {
		first, code := call()
		told := fmt.Sprint(first)
		checkOwnMemory(t, name, first)
		spoil(first)
		if after := memory(); after != before {
			t.Fatalf("%s wrote into an argument, or shares memory with one: %s", name, after)
		}
		if again, codeAgain := call(); fmt.Sprint(again) != told || codeAgain != code {
			t.Errorf("%s = %s, %d, and then %v, %d", name, told, code, again, codeAgain)
		}
	}
}

func TestArgumentsStay(t *testing.T) {
	for _, text := range []string{"()", "(())", "(()(()))", "((()())()(()))", someText(11, 3)} {
		x, memory := guarded(text)
		before := slices.Clone(memory)
		for name, call := range callsOf(x) {
			first, code := call()
			if !slices.Equal(memory, before) {
				t.Fatalf("%s of %s wrote into its argument: %v", name, text, memory)
			}
			told := fmt.Sprint(first)
			spoil(first)
			if !slices.Equal(memory, before) {
				t.Fatalf("the result of %s of %s shares memory with its argument", name, text)
			}
			again, codeAgain := call()
			if fmt.Sprint(again) != told || code != codeAgain || !reflect.DeepEqual(memory, before) {
				t.Errorf("%s of %s = %v, %d, and then %v, %d", name, text, told, code, again, codeAgain)
			}
		}
	}
}

func TestListsStay(t *testing.T) {
	x, xMemory := guarded("(()(()))")
	y, yMemory := guarded("(())")
	trees := []impl.Tree{x, y, {}, {}}
	joined, code := impl.JoinTrees(trees[:2])
	wantTree(t, "JoinTrees", joined, code, "((()(()))(()))")
	spoil(joined)
	replaced, code := impl.ReplaceAt(x, 1, y)
	wantTree(t, "ReplaceAt", replaced, code, "((())(()))")
	spoil(replaced)
	address := append([]int64{1, 0}, -5, -5)
	v, code := impl.NodeAt(x, address[:2])
	wantNumber(t, "NodeAt", v, code, 3)
	if !sameList(address, []int64{1, 0, -5, -5}) || !sameList(trees[0].Degrees, parsed("(()(()))").Degrees) || len(trees[2].Degrees) != 0 {
		t.Errorf("an argument was written: %v, %v", address, trees)
	}
	if xMemory[len(x.Degrees)] != -77 || yMemory[len(y.Degrees)] != -77 || !sameList(y.Degrees, parsed("(())").Degrees) {
		t.Errorf("an argument was written: %v, %v", xMemory, yMemory)
	}
}
