package tests

import (
	"fmt"
	"math"
	"slices"
	"strings"
	"testing"

	"loop.example/g01391/impl"
)

// ofBinary has each function of a binary tree alone.
var ofBinary = map[string]func(w string) (any, int64){
	"SidesOf":      sidesOf,
	"JoinSides":    func(w string) (any, int64) { return pair(impl.JoinSides(w, "0")) },
	"JoinSides, u": func(w string) (any, int64) { return pair(impl.JoinSides("0", w)) },
	"TreeOfBinary": func(w string) (any, int64) { return pair(impl.TreeOfBinary(w)) },
	"MirrorBinary": func(w string) (any, int64) { return pair(impl.MirrorBinary(w)) },
	"InnerOrder":   func(w string) (any, int64) { return pair(impl.InnerOrder(w)) },
	"VectorOf":     func(w string) (any, int64) { return pair(impl.VectorOf(w)) },
	"BracketsOf":   func(w string) (any, int64) { return pair(impl.BracketsOf(w)) },

	"ListOfDecreasing": func(w string) (any, int64) { return pair(impl.ListOfDecreasing(w)) },
}

// ofTurn has each function of a binary tree and a node.
var ofTurn = map[string]func(w string, i int64) (string, int64){
	"RotateRight": impl.RotateRight,
	"RotateLeft":  impl.RotateLeft,
}

// ofTwo has each function of two binary trees of as many nodes.
var ofTwo = map[string]func(w, u string) (any, int64){
	"IsAtMost":     func(w, u string) (any, int64) { return pair(impl.IsAtMost(w, u)) },
	"MeetOfBinary": func(w, u string) (any, int64) { return pair(impl.MeetOfBinary(w, u)) },
	"TurnsBetween": func(w, u string) (any, int64) { return pair(impl.TurnsBetween(w, u)) },
}

func sidesOf(w string) (any, int64) {
	left, right, code := impl.SidesOf(w)
	return [2]string{left, right}, code
}

func wantText(t *testing.T, what string, got string, code int64, want string) {
	t.Helper()
	if got != want || code != impl.ErrNone {
		t.Errorf("%s = %q, code %d; want %q, code 0", what, got, code, want)
	}
}

func wantAnswer(t *testing.T, what string, got bool, code int64, want bool) {
	t.Helper()
	if got != want || code != impl.ErrNone {
		t.Errorf("%s = %v, code %d; want %v, code 0", what, got, code, want)
	}
}

func TestLimitsOfBinaries(t *testing.T) {
	if impl.MaxBinary != 23 || impl.MaxTurns != 7 {
		t.Errorf("MaxBinary = %d, MaxTurns = %d", impl.MaxBinary, impl.MaxTurns)
	}
}

func TestIsBinary(t *testing.T) {
	for _, w := range manyBinaries() {
		if !impl.IsBinary(w) {
			t.Errorf("IsBinary %q = false", w)
		}
	}
	for _, w := range badBinaries() {
		if impl.IsBinary(w) {
			t.Errorf("IsBinary %.80q = true", w)
		}
	}
}

// TestShortTexts holds all texts of at most nine bytes of three kinds against the known ones, and
// checks that each function refuses those that tell no binary tree.
func TestShortTexts(t *testing.T) {
	known := map[string]bool{}
	for n := range 5 {
		for _, w := range binaryTexts(n) {
			known[w] = true
		}
	}
	found := 0
	var try func(w string)
	try = func(w string) {
		if impl.IsBinary(w) != known[w] {
			t.Errorf("IsBinary %q = %v", w, !known[w])
		}
		if known[w] {
			found++
		} else if len(w) <= 5 {
			checkRefused(t, w)
		}
		for i := 0; i < 3 && len(w) < 9; i++ {
			try(w + "01("[i:i+1])
		}
	}
	try("")
	if found != 1+1+2+5+14 {
		t.Errorf("%d binary trees found", found)
	}
}

func TestNoBinary(t *testing.T) {
	for _, w := range badBinaries() {
		checkRefused(t, w)
	}
}

// checkRefused checks that each function refuses a text that tells no binary tree, whatever stands
// beside it.
func checkRefused(t *testing.T, w string) {
	t.Helper()
	what := fmt.Sprintf(" of %.80q", w)
	for name, f := range ofBinary {
		got, code := f(w)
		wantCode(t, name+what, got, code, impl.ErrInvalid)
	}
	for name, f := range ofTurn {
		for _, i := range []int64{0, 1, -1, int64(len(w)), math.MaxInt64, math.MinInt64} {
			got, code := f(w, i)
			wantCode(t, name+what, got, code, impl.ErrInvalid)
		}
	}
	for _, u := range []string{"0", "100", "10100", leftComb(len(w) / 2), leftComb(impl.MaxBinary), w} {
		for name, f := range ofTwo {
			got, code := f(w, u)
			wantCode(t, name+what, got, code, impl.ErrInvalid)
			got, code = f(u, w)
			wantCode(t, name+what+" as the second one", got, code, impl.ErrInvalid)
		}
		got, code := impl.JoinSides(w, u)
		wantCode(t, "JoinSides"+what, got, code, impl.ErrInvalid)
		got, code = impl.JoinSides(u, w)
		wantCode(t, "JoinSides"+what+" as the second one", got, code, impl.ErrInvalid)
	}
}

func TestSidesOf(t *testing.T) {
	for _, w := range manyBinaries() {
		left, right, code := impl.SidesOf(w)
		if w == "0" {
			wantCode(t, "SidesOf the empty one", left+right, code, impl.ErrState)
			continue
		}
		x := nodeOf(w)
		wantText(t, "SidesOf, left, "+w, left, code, x.left.text())
		wantText(t, "SidesOf, right, "+w, right, code, x.right.text())
	}
}

func TestJoinSides(t *testing.T) {
	for n := range 5 {
		for _, left := range binaryTexts(n) {
			for _, right := range binaryTexts(4 - n) {
				w, code := impl.JoinSides(left, right)
				wantText(t, "JoinSides "+left+" "+right, w, code, "1"+left+right)
			}
		}
	}
	for n := range impl.MaxBinary + 1 {
		for m := range impl.MaxBinary + 1 {
			left, right := zigzag(n), someBinary(m, 7)
			w, code := impl.JoinSides(left, right)
			what := fmt.Sprint("JoinSides of ", n, " and ", m, " nodes")
			if n+m >= impl.MaxBinary {
				wantCode(t, what, w, code, impl.ErrLimit)
			} else {
				wantText(t, what, w, code, "1"+left+right)
			}
		}
	}
}

// binaryBeside returns the binary tree of what begins with a child at a place, by its definition.
func binaryBeside(m model, siblings []int64) *node {
	if len(siblings) == 0 {
		return nil
	}
	return &node{binaryBeside(m, m.children(siblings[0])), binaryBeside(m, siblings[1:])}
}

func TestBinariesOfTrees(t *testing.T) {
	for _, text := range manyTexts() {
		m := modelOf(text)
		want := binaryBeside(m, m.children(0)).text()
		w, code := impl.BinaryOf(m.tree())
		wantText(t, "BinaryOf "+text, w, code, want)
		x, code := impl.TreeOfBinary(want)
		wantTree(t, "TreeOfBinary "+want, x, code, text)
	}
	for _, c := range []struct{ text, w string }{
		{"()", "0"}, {"(())", "100"}, {"(()(()))", "1011000"}, {"((()))", "11000"}, {"(()())", "10100"},
		{pathText(impl.MaxNodes), leftComb(impl.MaxBinary)}, {starText(impl.MaxNodes), rightComb(impl.MaxBinary)},
	} {
		w, code := impl.BinaryOf(parsed(c.text))
		wantText(t, "BinaryOf "+c.text, w, code, c.w)
		x, code := impl.TreeOfBinary(c.w)
		wantTree(t, "TreeOfBinary "+c.w, x, code, c.text)
	}
}

// TestListsOfBinaries holds what is told of single binary trees against the model.
func TestListsOfBinaries(t *testing.T) {
	for _, w := range manyBinaries() {
		x := nodeOf(w)
		mirror, code := impl.MirrorBinary(w)
		wantText(t, "MirrorBinary "+w, mirror, code, x.mirror().text())
		var want []int64
		for _, y := range x.inner() {
			want = append(want, int64(slices.Index(x.numbered(), y)))
		}
		order, code := impl.InnerOrder(w)
		wantList(t, "InnerOrder "+w, order, code, want...)
		vector, code := impl.VectorOf(w)
		wantList(t, "VectorOf "+w, vector, code, vectorOf(w)...)
		back, code := impl.BinaryOfVector(vectorOf(w))
		wantText(t, fmt.Sprint("BinaryOfVector ", vectorOf(w)), back, code, w)
		brackets, code := impl.BracketsOf(w)
		wantText(t, "BracketsOf "+w, brackets, code, bracketsOf(w))
		back, code = impl.ParseBrackets(bracketsOf(w))
		wantText(t, "ParseBrackets "+bracketsOf(w), back, code, w)
	}
}

func TestEmptyBinary(t *testing.T) {
	w, code := impl.JoinSides("0", "0")
	wantText(t, "JoinSides", w, code, "100")
	x, code := impl.TreeOfBinary("0")
	wantTree(t, "TreeOfBinary", x, code, "()")
	w, code = impl.MirrorBinary("0")
	wantText(t, "MirrorBinary", w, code, "0")
	order, code := impl.InnerOrder("0")
	wantList(t, "InnerOrder", order, code)
	vector, code := impl.VectorOf("0")
	wantList(t, "VectorOf", vector, code)
	for _, list := range [][]int64{nil, {}} {
		w, code = impl.BinaryOfVector(list)
		wantText(t, "BinaryOfVector", w, code, "0")
	}
	yes, code := impl.IsAtMost("0", "0")
	wantAnswer(t, "IsAtMost", yes, code, true)
	w, code = impl.MeetOfBinary("0", "0")
	wantText(t, "MeetOfBinary", w, code, "0")
	turns, code := impl.TurnsBetween("0", "0")
	wantNumber(t, "TurnsBetween", turns, code, 0)
	brackets, code := impl.BracketsOf("0")
	wantText(t, "BracketsOf", brackets, code, "a")
	w, code = impl.ParseBrackets("a")
	wantText(t, "ParseBrackets", w, code, "0")
}

func TestRotations(t *testing.T) {
	for _, w := range manyBinaries() {
		for i := range int64(len(w) / 2) {
			for name, f := range ofTurn {
				u, code := f(w, i)
				what := fmt.Sprint(name, " ", w, " ", i)
				if want := turn(w, i, name == "RotateRight"); want != "" {
					wantText(t, what, u, code, want)
				} else {
					wantCode(t, what, u, code, impl.ErrState)
				}
			}
		}
		for _, i := range append(badNodes(int64(len(w)/2)), int64(len(w)), 1<<32, -1<<32) {
			for name, f := range ofTurn {
				u, code := f(w, i)
				wantCode(t, fmt.Sprint(name, " ", w, " ", i), u, code, impl.ErrRange)
			}
		}
	}
}

// TestRotationsOfCombs turns the least vector into the greatest one at the root, and back.
func TestRotationsOfCombs(t *testing.T) {
	w, code := leftComb(impl.MaxBinary), int64(impl.ErrNone)
	none, noCode := impl.RotateLeft(w, 0)
	wantCode(t, "RotateLeft of the least one", none, noCode, impl.ErrState)
	for range impl.MaxBinary - 1 {
		w, code = impl.RotateRight(w, 0)
	}
	wantText(t, "RotateRight at the root", w, code, rightComb(impl.MaxBinary))
	none, noCode = impl.RotateRight(w, 0)
	wantCode(t, "RotateRight of the greatest one", none, noCode, impl.ErrState)
	for range impl.MaxBinary - 1 {
		w, code = impl.RotateLeft(w, 0)
	}
	wantText(t, "RotateLeft at the root", w, code, leftComb(impl.MaxBinary))
}

// TestShortVectors holds all lists of at most five numbers in 0..5 against the known vectors.
func TestShortVectors(t *testing.T) {
	known := map[string]string{}
	for n := range 6 {
		for _, w := range binaryTexts(n) {
			known[fmt.Sprint(vectorOf(w))] = w
		}
	}
	var try func(list []int64)
	try = func(list []int64) {
		w, code := impl.BinaryOfVector(list)
		what := fmt.Sprint("BinaryOfVector ", list)
		if want, ok := known[fmt.Sprint(list)]; ok {
			wantText(t, what, w, code, want)
		} else {
			wantCode(t, what, w, code, impl.ErrNotFound)
		}
		for x := int64(0); x <= 5 && len(list) < 5; x++ {
			try(append(slices.Clone(list), x))
		}
	}
	try([]int64{})
}

func TestLargeVectors(t *testing.T) {
	greatest := make([]int64, impl.MaxBinary)
	for i := range greatest {
		greatest[i] = int64(impl.MaxBinary - 1 - i)
	}
	vector, code := impl.VectorOf(rightComb(impl.MaxBinary))
	wantList(t, "the greatest vector", vector, code, greatest...)
	w, code := impl.BinaryOfVector(greatest)
	wantText(t, "BinaryOfVector of the greatest", w, code, rightComb(impl.MaxBinary))
	vector, code = impl.VectorOf(leftComb(impl.MaxBinary))
	wantList(t, "the least vector", vector, code, make([]int64, impl.MaxBinary)...)
	w, code = impl.BinaryOfVector(make([]int64, impl.MaxBinary))
	wantText(t, "BinaryOfVector of the least", w, code, leftComb(impl.MaxBinary))
	for i := range greatest {
		list := slices.Clone(greatest)
		list[i]++
		w, code = impl.BinaryOfVector(list)
		wantCode(t, fmt.Sprint("BinaryOfVector ", list), w, code, impl.ErrNotFound)
	}
	for _, list := range [][]int64{{impl.MaxBinary}, slices.Repeat([]int64{impl.MaxBinary}, impl.MaxBinary), listWith(impl.MaxBinary, 0, 1)} {
		w, code = impl.BinaryOfVector(list)
		wantCode(t, fmt.Sprint("BinaryOfVector ", list), w, code, impl.ErrNotFound)
	}
}

func TestVectorsOutOfRange(t *testing.T) {
	for _, x := range []int64{-1, impl.MaxBinary + 1, math.MaxInt64, math.MinInt64, 1 << 32, -1 << 32} {
		for _, list := range [][]int64{{x}, {0, x}, {x, 0}, {5, x, 0}, {1, 1, x}, listWith(impl.MaxBinary, x, 0), listWith(impl.MaxBinary, 0, x)} {
			w, code := impl.BinaryOfVector(list)
			wantCode(t, fmt.Sprint("BinaryOfVector ", list), w, code, impl.ErrRange)
		}
	}
	for _, n := range []int{impl.MaxBinary + 1, impl.MaxBinary + 2, 1000} {
		w, code := impl.BinaryOfVector(make([]int64, n))
		wantCode(t, fmt.Sprint("BinaryOfVector of ", n, " numbers"), w, code, impl.ErrRange)
	}
}

// TestAtMost holds the order against the right rotations that lead from one to the other.
func TestAtMost(t *testing.T) {
	for n := range 7 {
		all := binaryTexts(n)
		for _, w := range all {
			above := turnsFrom(w, true)
			for _, u := range all {
				_, want := above[u]
				yes, code := impl.IsAtMost(w, u)
				wantAnswer(t, "IsAtMost "+w+" "+u, yes, code, want)
			}
		}
	}
	least, greatest := leftComb(impl.MaxBinary), rightComb(impl.MaxBinary)
	for seed := range uint64(20) {
		w := someBinary(impl.MaxBinary, seed)
		yes, code := impl.IsAtMost(least, w)
		wantAnswer(t, "IsAtMost, the least one, "+w, yes, code, true)
		yes, code = impl.IsAtMost(w, greatest)
		wantAnswer(t, "IsAtMost, the greatest one, "+w, yes, code, true)
		yes, code = impl.IsAtMost(w, least)
		wantAnswer(t, "IsAtMost of the least one, "+w, yes, code, w == least)
		yes, code = impl.IsAtMost(greatest, w)
		wantAnswer(t, "IsAtMost of the greatest one, "+w, yes, code, w == greatest)
	}
}

func TestMeetOfBinary(t *testing.T) {
	for n := range 6 {
		checkMeets(t, binaryTexts(n))
	}
	large := []string{leftComb(impl.MaxBinary), rightComb(impl.MaxBinary), zigzag(impl.MaxBinary)}
	for seed := range uint64(20) {
		large = append(large, someBinary(impl.MaxBinary, seed))
	}
	checkMeets(t, large)
	w, code := impl.MeetOfBinary("1101000", "1100100")
	wantText(t, "MeetOfBinary of two that are not in order", w, code, "1110000")
}

func checkMeets(t *testing.T, all []string) {
	t.Helper()
	for _, w := range all {
		for _, u := range all {
			want := vectorOf(w)
			for i, x := range vectorOf(u) {
				want[i] = min(want[i], x)
			}
			meet, code := impl.MeetOfBinary(w, u)
			what := "MeetOfBinary " + w + " " + u
			if code != impl.ErrNone || !impl.IsBinary(meet) {
				t.Fatalf("%s = %q, code %d", what, meet, code)
			}
			wantList(t, "the vector of "+what, vectorOf(meet), code, want...)
		}
	}
}

// TestTurnsBetween holds numbers of rotations against those of the model, for pairs of all binary
// trees of few nodes, and of some of more.
func TestTurnsBetween(t *testing.T) {
	// How many rotations lead at most from one binary tree to another one, by their nodes.
	greatest := []int64{0, 0, 1, 2, 4, 5, 7, 9}
	steps := []int{1, 1, 1, 1, 1, 1, 7, 25}
	for n := range impl.MaxTurns + 1 {
		all := binaryTexts(n)
		found := int64(0)
		for i := 0; i < len(all); i += steps[n] {
			turns := turnsFrom(all[i], true, false)
			for k, u := range all {
				found = max(found, turns[u])
				if (i+k)%steps[n] == 0 {
					got, code := impl.TurnsBetween(all[i], u)
					wantNumber(t, "TurnsBetween "+all[i]+" "+u, got, code, turns[u])
				}
			}
		}
		if found > greatest[n] || steps[n] == 1 && found < greatest[n] {
			t.Errorf("%d rotations found for %d nodes", found, n)
		}
	}
	turns, code := impl.TurnsBetween(leftComb(impl.MaxTurns), rightComb(impl.MaxTurns))
	wantNumber(t, "TurnsBetween of combs", turns, code, impl.MaxTurns-1)
}

func TestTurnsBetweenRefuses(t *testing.T) {
	for n := impl.MaxTurns + 1; n <= impl.MaxBinary; n++ {
		for _, u := range []string{leftComb(n), rightComb(n), zigzag(n)} {
			turns, code := impl.TurnsBetween(leftComb(n), u)
			wantCode(t, fmt.Sprint("TurnsBetween of ", n, " nodes"), turns, code, impl.ErrLimit)
		}
	}
}

// TestOtherNumbersOfNodes checks pairs of binary trees with different numbers of nodes.
func TestOtherNumbersOfNodes(t *testing.T) {
	for n := range impl.MaxBinary + 1 {
		for m := range impl.MaxBinary + 1 {
			if n == m {
				continue
			}
			for name, f := range ofTwo {
				got, code := f(zigzag(n), leftComb(m))
				wantCode(t, fmt.Sprint(name, " of ", n, " and ", m, " nodes"), got, code, impl.ErrRange)
			}
		}
	}
}

func TestBracketsOf(t *testing.T) {
	letters := "abcdefghijklmnopqrstuvwx"
	brackets, code := impl.BracketsOf(leftComb(impl.MaxBinary))
	want := strings.Repeat("(", impl.MaxBinary) + "a"
	for i := range impl.MaxBinary {
		want += letters[i+1:i+2] + ")"
	}
	wantText(t, "BracketsOf 24 letters, left", brackets, code, want)
	w, code := impl.ParseBrackets(want)
	wantText(t, "ParseBrackets "+want, w, code, leftComb(impl.MaxBinary))
	brackets, code = impl.BracketsOf(rightComb(impl.MaxBinary))
	want = ""
	for i := range impl.MaxBinary {
		want += "(" + letters[i:i+1]
	}
	want += "x" + strings.Repeat(")", impl.MaxBinary)
	wantText(t, "BracketsOf 24 letters, right", brackets, code, want)
	w, code = impl.ParseBrackets(want)
	wantText(t, "ParseBrackets "+want, w, code, rightComb(impl.MaxBinary))
	brackets, code = impl.BracketsOf("1101000")
	wantText(t, "BracketsOf", brackets, code, "((a(bc))d)")
}

func TestParseBracketsRefuses(t *testing.T) {
	for _, text := range []string{
		"", "b", "A", "0", "1", "aa", "ab", "(", ")", "()", "(a)", "(ab", "ab)", "a)", "(a", "(ab))", "((ab)", "(ba)", "(aa)", "(ac)", "(bc)",
		"(abc)", "((ab)cd)", "(a b)", " (ab)", "(ab) ", "(ab)\n", "(AB)", "(a,b)", "[ab]", "(ab)c", "a(bc)", "(a(cb))", "((bc)a)", "(a(bc)", "((ab)c",
		"(a(bd))", "(b(cd))", ")ab(", "(a)b", "(é)", "(a\xffb)", "(a\x00)", "100", "(01)", "(10)", "(a0)", "（ab）", "((ab)(cd)", "(ab)(cd)",
		bracketsOf(leftComb(impl.MaxBinary + 1)), bracketsOf(rightComb(impl.MaxBinary + 1)), bracketsOf(zigzag(impl.MaxBinary + 2)),
		bracketsOf(leftComb(impl.MaxBinary)) + ")", "(" + bracketsOf(zigzag(impl.MaxBinary)), bracketsOf(zigzag(impl.MaxBinary))[1:],
		strings.Repeat("(", 1<<20), strings.Repeat("(a", 1<<20), strings.Repeat("a", 1<<20), strings.Repeat(")", 1<<20), "a" + strings.Repeat(")", 1<<20),
	} {
		w, code := impl.ParseBrackets(text)
		wantCode(t, fmt.Sprintf("ParseBrackets %.80q", text), w, code, impl.ErrSyntax)
	}
}

// TestShortBrackets holds all texts of at most seven bytes of brackets against the known ones.
func TestShortBrackets(t *testing.T) {
	known := knownBrackets(3)
	found := 0
	var try func(text string)
	try = func(text string) {
		if checkBrackets(t, known, text) {
			found++
		}
		for i := 0; i < 5 && len(text) < 7; i++ {
			try(text + "()abc"[i:i+1])
		}
	}
	try("")
	if found != 1+1+2 {
		t.Errorf("%d brackets found", found)
	}
}

// TestChangedBrackets takes a byte out of brackets, puts one in, and puts one in the place of
// another one.
func TestChangedBrackets(t *testing.T) {
	known := knownBrackets(5)
	for text := range known {
		for i := range len(text) {
			checkBrackets(t, known, text[:i]+text[i+1:])
			for _, other := range "()abcdefg x0" {
				checkBrackets(t, known, text[:i]+string(other)+text[i:])
				checkBrackets(t, known, text[:i]+string(other)+text[i+1:])
			}
		}
	}
}

// knownBrackets returns all binary trees of up to n nodes by their brackets.
func knownBrackets(n int) map[string]string {
	known := map[string]string{}
	for k := range n + 1 {
		for _, w := range binaryTexts(k) {
			known[bracketsOf(w)] = w
		}
	}
	return known
}

func checkBrackets(t *testing.T, known map[string]string, text string) bool {
	t.Helper()
	w, code := impl.ParseBrackets(text)
	want, ok := known[text]
	if ok {
		wantText(t, "ParseBrackets "+text, w, code, want)
	} else {
		wantCode(t, "ParseBrackets "+text, w, code, impl.ErrSyntax)
	}
	return ok
}
