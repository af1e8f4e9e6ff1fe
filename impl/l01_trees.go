package impl

import (
	"cmp"
	"iter"
	"slices"
)

const (
	ErrNone = iota
	ErrInvalid
	ErrRange
	ErrLimit
	ErrNotFound
	ErrState
	ErrSyntax
)
const MaxNodes = 24

type Tree struct {
	Degrees []int64
}

// IsTree reports whether t is a tree.
func IsTree(t Tree) bool {
	n := int64(len(t.Degrees))
	if n < 1 || n > MaxNodes {
		return false
	}
	// missing counts the nodes that are announced by a parent, or as the root, and have not come.
	missing := int64(1)
	for _, degree := range t.Degrees {
		// The bound on a degree keeps the sum from overflowing.
		if missing == 0 || degree < 0 || degree >= n {
			return false
		}
		missing += degree - 1
	}
	return missing == 0
}

// ParentsOf returns the parents of all nodes, -1 for the root, and ErrNone.
func ParentsOf(t Tree) ([]int64, int64) {
	if code := codeOf(t); code != ErrNone {
		return nil, code
	}
	return parentsIn(t.Degrees), ErrNone
}

// ChildrenOf returns the children of a node, from left to right, and ErrNone.
func ChildrenOf(t Tree, v int64) ([]int64, int64) {
	if code := codeOf(t, v); code != ErrNone {
		return nil, code
	}
	return childrenIn(t.Degrees, v), ErrNone
}

// DepthsOf returns the depths of all nodes, and ErrNone.
func DepthsOf(t Tree) ([]int64, int64) {
	if code := codeOf(t); code != ErrNone {
		return nil, code
	}
	return depthsIn(t.Degrees), ErrNone
}

// SizesOf returns the sizes of the subtrees of all nodes, and ErrNone.
func SizesOf(t Tree) ([]int64, int64) {
	if code := codeOf(t); code != ErrNone {
		return nil, code
	}
	sizes := make([]int64, len(t.Degrees))
	for v := range sizes {
		sizes[v] = sizeAt(t.Degrees, int64(v))
	}
	return sizes, ErrNone
}

// LeavesOf returns the leaves, ascending, and ErrNone.
func LeavesOf(t Tree) ([]int64, int64) {
	if code := codeOf(t); code != ErrNone {
		return nil, code
	}
	var leaves []int64
	for v, degree := range t.Degrees {
		if degree == 0 {
			leaves = append(leaves, int64(v))
		}
	}
	return leaves, ErrNone
}

// HeightOf returns the height, and ErrNone.
func HeightOf(t Tree) (int64, int64) {
	if code := codeOf(t); code != ErrNone {
		return 0, code
	}
	return slices.Max(depthsIn(t.Degrees)), ErrNone
}

// SubtreeAt returns the subtree of a node, and ErrNone.
func SubtreeAt(t Tree, v int64) (Tree, int64) {
	if code := codeOf(t, v); code != ErrNone {
		return Tree{}, code
	}
	return Tree{slices.Clone(partAt(t.Degrees, v))}, ErrNone
}

// AddressOf returns the address of a node, and ErrNone.
func AddressOf(t Tree, v int64) ([]int64, int64) {
	if code := codeOf(t, v); code != ErrNone {
		return nil, code
	}
	var address []int64
	for at := int64(0); at != v; {
		place, child := childToward(t.Degrees, at, v)
		address = append(address, place)
		at = child
	}
	return address, ErrNone
}

// NodeAt returns the node with an address, a list of at most MaxNodes numbers of at least 0, and
// ErrNone. Errors: ErrNotFound if there is none.
func NodeAt(t Tree, address []int64) (int64, int64) {
	if code := codeOf(t); code != ErrNone {
		return 0, code
	}
	if len(address) > MaxNodes || slices.ContainsFunc(address, isNegative) {
		return 0, ErrRange
	}
	v := int64(0)
	for _, place := range address {
		if place >= t.Degrees[v] {
			return 0, ErrNotFound
		}
		v = childrenIn(t.Degrees, v)[place]
	}
	return v, ErrNone
}

// MirrorOf returns the mirrored tree, and ErrNone.
func MirrorOf(t Tree) (Tree, int64) {
	if code := codeOf(t); code != ErrNone {
		return Tree{}, code
	}
	return Tree{mirrored(t.Degrees, map[string][]int64{})}, ErrNone
}

// JoinTrees returns the tree with the trees of a list below its root, and ErrNone. Errors:
// ErrInvalid if one is no tree; ErrLimit if it would have more than MaxNodes nodes.
func JoinTrees(list []Tree) (Tree, int64) {
	total := 1
	for _, t := range list {
		if !IsTree(t) {
			return Tree{}, ErrInvalid
		}
		total += len(t.Degrees)
	}
	if total > MaxNodes {
		return Tree{}, ErrLimit
	}
	degrees := []int64{int64(len(list))}
	for _, t := range list {
		degrees = append(degrees, t.Degrees...)
	}
	return Tree{degrees}, ErrNone
}

// ReplaceAt returns t with the tree u in the place of the subtree of a node v, and ErrNone. Errors:
// ErrLimit as for JoinTrees.
func ReplaceAt(t Tree, v int64, u Tree) (Tree, int64) {
	if !IsTree(t) || !IsTree(u) {
		return Tree{}, ErrInvalid
	}
	if code := codeOf(t, v); code != ErrNone {
		return Tree{}, code
	}
	end := v + sizeAt(t.Degrees, v)
	degrees := slices.Concat(t.Degrees[:v], u.Degrees, t.Degrees[end:])
	if len(degrees) > MaxNodes {
		return Tree{}, ErrLimit
	}
	return Tree{degrees}, ErrNone
}

// RemoveAt returns t without the subtree of a node v, and ErrNone. Errors: ErrState if v is the
// root.
func RemoveAt(t Tree, v int64) (Tree, int64) {
	if code := codeOf(t, v); code != ErrNone {
		return Tree{}, code
	}
	if v == 0 {
		return Tree{}, ErrState
	}
	end := v + sizeAt(t.Degrees, v)
	degrees := slices.Concat(t.Degrees[:v], t.Degrees[end:])
	degrees[parentsIn(t.Degrees)[v]]--
	return Tree{degrees}, ErrNone
}

// PostorderOf returns the nodes in postorder, and ErrNone.
func PostorderOf(t Tree) ([]int64, int64) {
	if code := codeOf(t); code != ErrNone {
		return nil, code
	}
	return appendPostorder(nil, t.Degrees, 0), ErrNone
}

// LevelOrderOf returns the nodes in level order, and ErrNone.
func LevelOrderOf(t Tree) ([]int64, int64) {
	if code := codeOf(t); code != ErrNone {
		return nil, code
	}
	order := []int64{0}
	for i := 0; i < len(order); i++ {
		order = append(order, childrenIn(t.Degrees, order[i])...)
	}
	return order, ErrNone
}

// IsBelow reports whether the node v is in the subtree of w, and returns ErrNone.
func IsBelow(t Tree, v int64, w int64) (bool, int64) {
	if code := codeOf(t, v, w); code != ErrNone {
		return false, code
	}
	return isIn(t.Degrees, v, w), ErrNone
}

// MeetOf returns the meet of two nodes, and ErrNone.
func MeetOf(t Tree, v int64, w int64) (int64, int64) {
	if code := codeOf(t, v, w); code != ErrNone {
		return 0, code
	}
	// A node has a greater number than its parent, so that the first one found is the deepest.
	meet := min(v, w)
	for !isIn(t.Degrees, v, meet) || !isIn(t.Degrees, w, meet) {
		meet--
	}
	return meet, ErrNone
}

// CompareTrees returns -1, 0 or 1 if t comes before u, is u, or comes behind it, and ErrNone.
func CompareTrees(t Tree, u Tree) (int64, int64) {
	if !IsTree(t) || !IsTree(u) {
		return 0, ErrInvalid
	}
	if n, m := len(t.Degrees), len(u.Degrees); n != m {
		return int64(cmp.Compare(n, m)), ErrNone
	}
	return int64(slices.Compare(t.Degrees, u.Degrees)), ErrNone
}

// TreeText returns the text of t, and ErrNone.
func TreeText(t Tree) (string, int64) {
	if code := codeOf(t); code != ErrNone {
		return "", code
	}
	return textOf(t.Degrees), ErrNone
}

// ParseTree returns the tree with a text, and ErrNone. Errors: ErrSyntax if there is none. (No
// other errors are returned.)
func ParseTree(text string) (Tree, int64) {
	if text == "" || len(text) > 2*MaxNodes {
		return Tree{}, ErrSyntax
	}
	var degrees, open []int64
	for i := range len(text) {
		last := len(open) - 1
		// Only the first bracket may stand where nothing is open.
		if last < 0 && i > 0 {
			return Tree{}, ErrSyntax
		}
		switch {
		case text[i] == '(':
			if last >= 0 {
				degrees[open[last]]++
			}
			open = append(open, int64(len(degrees)))
			degrees = append(degrees, 0)
		case text[i] == ')' && last >= 0:
			open = open[:last]
		default:
			return Tree{}, ErrSyntax
		}
	}
	if len(open) > 0 {
		return Tree{}, ErrSyntax
	}
	return Tree{degrees}, ErrNone
}

// codeOf returns the code for a tree and for numbers that have to be nodes of it.
func codeOf(t Tree, nodes ...int64) int64 {
	if !IsTree(t) {
		return ErrInvalid
	}
	for _, v := range nodes {
		if v < 0 || v >= int64(len(t.Degrees)) {
			return ErrRange
		}
	}
	return ErrNone
}

func isNegative(x int64) bool { return x < 0 }

// partAt returns the subtree of v as a part of the list. Its capacity ends where it ends, so that
// nothing behind it can be written by an append.
func partAt(degrees []int64, v int64) []int64 {
	end := v
	for missing := int64(1); missing > 0; end++ {
		missing += degrees[end] - 1
	}
	return degrees[v:end:end]
}

func sizeAt(degrees []int64, v int64) int64 { return int64(len(partAt(degrees, v))) }

// isIn reports whether v is in the subtree of w.
func isIn(degrees []int64, v int64, w int64) bool {
	return w <= v && v < w+sizeAt(degrees, w)
}

// eachChild ranges over the children of v with their places, from left to right.
func eachChild(degrees []int64, v int64) iter.Seq2[int64, int64] {
	return func(yield func(int64, int64) bool) {
		child := v + 1
		for place := range degrees[v] {
			if !yield(place, child) {
				return
			}
			child += sizeAt(degrees, child)
		}
	}
}

func childrenIn(degrees []int64, v int64) []int64 {
	var children []int64
	for _, child := range eachChild(degrees, v) {
		children = append(children, child)
	}
	return children
}

// childToward returns the place and the number of the child of w on the way down to v: the last
// one that does not come behind v.
func childToward(degrees []int64, w int64, v int64) (int64, int64) {
	lastPlace, lastChild := int64(0), w
	for place, child := range eachChild(degrees, w) {
		if child > v {
			break
		}
		lastPlace, lastChild = place, child
	}
	return lastPlace, lastChild
}

func parentsIn(degrees []int64) []int64 {
	parents := make([]int64, len(degrees))
	parents[0] = -1
	for v := range int64(len(degrees)) {
		for _, child := range eachChild(degrees, v) {
			parents[child] = v
		}
	}
	return parents
}

func depthsIn(degrees []int64) []int64 {
	depths := make([]int64, len(degrees))
	for v := range int64(len(degrees)) {
		for _, child := range eachChild(degrees, v) {
			depths[child] = depths[v] + 1
		}
	}
	return depths
}

// mirrored returns a mirrored tree. What is known, by the texts of trees, is not worked out again:
// a tree often has the same subtree at many nodes.
func mirrored(degrees []int64, known map[string][]int64) []int64 {
	text := textOf(degrees)
	if result, ok := known[text]; ok {
		return result
	}
	result := []int64{degrees[0]}
	for _, child := range slices.Backward(childrenIn(degrees, 0)) {
		result = append(result, mirrored(partAt(degrees, child), known)...)
	}
	known[text] = result
	return result
}

func appendPostorder(order []int64, degrees []int64, v int64) []int64 {
	for _, child := range eachChild(degrees, v) {
		order = appendPostorder(order, degrees, child)
	}
	return append(order, v)
}

func textOf(degrees []int64) string {
	text := "("
	for _, child := range eachChild(degrees, 0) {
		text += textOf(partAt(degrees, child))
	}
	return text + ")"
}
