package tests

import (
	"slices"
	"strings"

	"loop.example/g01391/impl"
)

// A node is the root of a binary tree, nil that of the empty one. Like the model of trees it shares
// no code with the package.
type node struct {
	left, right *node
}

// nodeOf reads digits from their end: each 1 joins the two parts that were made last.
func nodeOf(w string) *node {
	var made []*node
	for i := len(w) - 1; i >= 0; i-- {
		if w[i] == '0' {
			made = append(made, nil)
			continue
		}
		k := len(made)
		made = append(made[:k-2], &node{left: made[k-1], right: made[k-2]})
	}
	return made[0]
}

func (x *node) text() string {
	if x == nil {
		return "0"
	}
	return "1" + x.left.text() + x.right.text()
}

func (x *node) size() int64 { return int64(strings.Count(x.text(), "1")) }

// numbered returns all nodes in the order of their numbers.
func (x *node) numbered() []*node {
	if x == nil {
		return nil
	}
	return slices.Concat([]*node{x}, x.left.numbered(), x.right.numbered())
}

func (x *node) inner() []*node {
	if x == nil {
		return nil
	}
	return slices.Concat(x.left.inner(), []*node{x}, x.right.inner())
}

func (x *node) mirror() *node {
	if x == nil {
		return nil
	}
	return &node{x.right.mirror(), x.left.mirror()}
}

func (x *node) brackets(letters *string) string {
	if x == nil {
		letter := (*letters)[:1]
		*letters = (*letters)[1:]
		return letter
	}
	left := x.left.brackets(letters)
	return "(" + left + x.right.brackets(letters) + ")"
}

func bracketsOf(w string) string {
	letters := "abcdefghijklmnopqrstuvwxyz"
	return nodeOf(w).brackets(&letters)
}

func vectorOf(w string) []int64 {
	var list []int64
	for _, x := range nodeOf(w).inner() {
		list = append(list, x.right.size())
	}
	return list
}

// turn returns what a rotation at a node leads to, or the empty string if it cannot be done.
func turn(w string, i int64, right bool) string {
	root := nodeOf(w)
	x := root.numbered()[i]
	switch {
	case right && x.left != nil:
		*x = node{x.left.left, &node{x.left.right, x.right}}
	case !right && x.right != nil:
		*x = node{&node{x.left, x.right.left}, x.right.right}
	default:
		return ""
	}
	return root.text()
}

// turnsFrom returns how many rotations lead at least from a binary tree to each one that is reached.
func turnsFrom(w string, kinds ...bool) map[string]int64 {
	turns := map[string]int64{w: 0}
	for list := []string{w}; len(list) > 0; list = list[1:] {
		for i := range int64(len(w) / 2) {
			for _, right := range kinds {
				next := turn(list[0], i, right)
				if _, known := turns[next]; !known && next != "" {
					turns[next] = turns[list[0]] + 1
					list = append(list, next)
				}
			}
		}
	}
	return turns
}

// binaryTexts returns the texts of all binary trees of n nodes.
func binaryTexts(n int) []string {
	if n == 0 {
		return []string{"0"}
	}
	var list []string
	for k := range n {
		for _, left := range binaryTexts(k) {
			for _, right := range binaryTexts(n - 1 - k) {
				list = append(list, "1"+left+right)
			}
		}
	}
	return list
}

// leftComb and rightComb return the texts with the least and the greatest vector of n nodes.
func leftComb(n int) string { return strings.Repeat("1", n) + strings.Repeat("0", n+1) }

func rightComb(n int) string { return strings.Repeat("10", n) + "0" }

func zigzag(n int) string {
	w := "0"
	for i := range n {
		if i%2 == 0 {
			w = "1" + w + "0"
		} else {
			w = "10" + w
		}
	}
	return w
}

// someBinary returns the text of a binary tree of n nodes that a seed tells.
func someBinary(n int, seed uint64) string {
	if n == 0 {
		return "0"
	}
	seed = seed*6364136223846793005 + 1442695040888963407
	k := int(seed>>33) % n
	return "1" + someBinary(k, seed) + someBinary(n-1-k, seed+1)
}

// manyBinaries returns the texts of all small binary trees and of some with up to MaxBinary nodes.
func manyBinaries() []string {
	var list []string
	for n := range 7 {
		list = append(list, binaryTexts(n)...)
	}
	for _, n := range []int{12, impl.MaxBinary - 1, impl.MaxBinary} {
		list = append(list, leftComb(n), rightComb(n), zigzag(n))
		for seed := range uint64(12) {
			list = append(list, someBinary(n, seed))
		}
	}
	return list
}

// badBinaries returns texts that are not those of binary trees: with other bytes, that end too early
// or go on too long, or of more than MaxBinary nodes.
func badBinaries() []string {
	return []string{
		"", "1", "00", "10", "01", "11", "110", "1000", "010", "0100", "10100 ", " 10100", "1x0", "120", "1o0", "l00", "(()", "a",
		"\x00", "\x01\x00\x00", "10\x00", "100\n", "1é0", "１００", "100100", "1010", "11001", "1100100" + "0", "10\xff",
		leftComb(impl.MaxBinary + 1), rightComb(impl.MaxBinary + 1), zigzag(impl.MaxBinary + 1), zigzag(impl.MaxBinary + 2), someBinary(400, 1),
		leftComb(impl.MaxBinary) + "0", leftComb(impl.MaxBinary)[1:], leftComb(impl.MaxBinary)[:2*impl.MaxBinary], "0" + rightComb(impl.MaxBinary-1),
		strings.Repeat("1", 2*impl.MaxBinary+1), strings.Repeat("0", 2*impl.MaxBinary+1), strings.Repeat("1", 1<<20), leftComb(1 << 18),
	}
}
