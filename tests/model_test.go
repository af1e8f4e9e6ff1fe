package tests

import (
	"fmt"
	"reflect"
	"slices"
	"strings"
	"testing"

	"loop.example/g01391/impl"
)

// A model tells of a tree by its text alone: each node has the place of its bracket and the place
// behind the bracket that closes it. It shares no code with the package, so that a mistake there
// does not come back here.
type model struct {
	text   string
	begin  []int
	behind []int
	up     []int64
	closed []int64
}

func modelOf(text string) model {
	m := model{text: text}
	open := []int64{-1}
	for i, c := range text {
		if c == '(' {
			v := int64(len(m.begin))
			m.begin = append(m.begin, i)
			m.behind = append(m.behind, 0)
			m.up = append(m.up, open[len(open)-1])
			open = append(open, v)
			continue
		}
		v := open[len(open)-1]
		m.behind[v] = i + 1
		m.closed = append(m.closed, v)
		open = open[:len(open)-1]
	}
	return m
}

func (m model) count() int64 { return int64(len(m.begin)) }

func (m model) children(v int64) []int64 {
	var list []int64
	for w, p := range m.up {
		if p == v {
			list = append(list, int64(w))
		}
	}
	return list
}

func (m model) depth(v int64) int64 {
	if v == 0 {
		return 0
	}
	return m.depth(m.up[v]) + 1
}

func (m model) part(v int64) string { return m.text[m.begin[v]:m.behind[v]] }

func (m model) address(v int64) []int64 {
	if v == 0 {
		return nil
	}
	place := slices.Index(m.children(m.up[v]), v)
	return append(m.address(m.up[v]), int64(place))
}

func (m model) isBelow(v, w int64) bool {
	return m.begin[w] <= m.begin[v] && m.behind[v] <= m.behind[w]
}

func (m model) meet(v, w int64) int64 {
	for !m.isBelow(v, w) {
		w = m.up[w]
	}
	return w
}

func (m model) with(v int64, text string) string {
	return m.text[:m.begin[v]] + text + m.text[m.behind[v]:]
}

// each returns what a function tells of each node.
func (m model) each(f func(v int64) int64) []int64 {
	list := make([]int64, m.count())
	for v := range list {
		list[v] = f(int64(v))
	}
	return list
}

func (m model) tree() impl.Tree {
	return impl.Tree{Degrees: m.each(func(v int64) int64 { return int64(len(m.children(v))) })}
}

// mirrorText reads a text from its end.
func mirrorText(text string) string {
	var b strings.Builder
	for i := len(text) - 1; i >= 0; i-- {
		b.WriteByte('(' + ')' - text[i])
	}
	return b.String()
}

// forestTexts returns the texts of all lists of trees with n nodes together.
func forestTexts(n int) []string {
	if n == 0 {
		return []string{""}
	}
	var list []string
	for k := range n {
		for _, first := range forestTexts(k) {
			for _, others := range forestTexts(n - 1 - k) {
				list = append(list, "("+first+")"+others)
			}
		}
	}
	return list
}

// treeTexts returns the texts of all trees of n nodes.
func treeTexts(n int) []string {
	var list []string
	for _, text := range forestTexts(n - 1) {
		list = append(list, "("+text+")")
	}
	return list
}

// orderedTrees returns all trees of n nodes, at most 10, in the order of their degrees.
func orderedTrees(n int) []impl.Tree {
	var list []impl.Tree
	for _, text := range treeTexts(n) {
		list = append(list, modelOf(text).tree())
	}
	slices.SortFunc(list, func(x, y impl.Tree) int {
		return strings.Compare(fmt.Sprint(x.Degrees), fmt.Sprint(y.Degrees))
	})
	return list
}

func pathText(n int) string { return strings.Repeat("(", n) + strings.Repeat(")", n) }

func starText(n int) string { return "(" + strings.Repeat("()", n-1) + ")" }

// someText returns the text of a tree of n nodes that a seed tells.
func someText(n int, seed uint64) string {
	text := "("
	depth := 1
	for made := 1; made < n; {
		seed = seed*6364136223846793005 + 1442695040888963407
		if depth > 1 && seed>>60 < 7 {
			text += ")"
			depth--
			continue
		}
		text += "("
		depth++
		made++
	}
	return text + strings.Repeat(")", depth)
}

// manyTexts returns the texts of all small trees and of some with MaxNodes nodes.
func manyTexts() []string {
	var list []string
	for n := 1; n <= 7; n++ {
		list = append(list, treeTexts(n)...)
	}
	list = append(list, pathText(impl.MaxNodes), starText(impl.MaxNodes))
	for seed := range uint64(20) {
		list = append(list, someText(impl.MaxNodes, seed))
	}
	return list
}

func sameList(x, y []int64) bool { return slices.Equal(x, y) }

// isZero reports whether a result is a zero value, for which a nil slice and an empty one count.
func isZero(x any) bool {
	switch y := x.(type) {
	case []int64:
		return len(y) == 0
	case impl.Tree:
		return len(y.Degrees) == 0
	case []impl.Tree:
		return len(y) == 0
	case [][]int64:
		return len(y) == 0
	case impl.Automaton:
		return y.Start == 0 && len(y.Steps) == 0 && len(y.Good) == 0
	case impl.Desk:
		return isZero(y.Tree) && isZero(y.Other) && len(y.Rules) == 0
	}
	return reflect.ValueOf(x).IsZero()
}

func wantList(t *testing.T, what string, got []int64, code int64, want ...int64) {
	t.Helper()
	if !sameList(got, want) || code != impl.ErrNone {
		t.Errorf("%s = %v, code %d; want %v, code 0", what, got, code, want)
	}
}

func wantNumber(t *testing.T, what string, got, code, want int64) {
	t.Helper()
	if got != want || code != impl.ErrNone {
		t.Errorf("%s = %d, code %d; want %d, code 0", what, got, code, want)
	}
}

func wantTree(t *testing.T, what string, got impl.Tree, code int64, text string) {
	t.Helper()
	if want := modelOf(text).tree(); !sameList(got.Degrees, want.Degrees) || code != impl.ErrNone {
		t.Errorf("%s = %v, code %d; want %v, code 0", what, got, code, want)
	}
}

// wantCode checks a code other than ErrNone, and that the result beside it is a zero value.
func wantCode(t *testing.T, what string, got any, code, want int64) {
	t.Helper()
	if code != want || !isZero(got) {
		t.Errorf("%s = %v, code %d; want the zero value, code %d", what, got, code, want)
	}
}
