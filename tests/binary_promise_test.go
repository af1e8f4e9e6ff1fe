package tests

import (
	"fmt"
	"slices"
	"strings"
	"testing"
	"unsafe"

	"loop.example/g01391/impl"
)

// TestPromise3 checks promise 3 and the rest of the guarantee of chapter 3 by the package's
// functions alone.
func TestPromise3(t *testing.T) {
	for _, w := range manyBinaries() {
		vector, _ := impl.VectorOf(w)
		back, code := impl.BinaryOfVector(vector)
		wantText(t, fmt.Sprint("BinaryOfVector ", vector), back, code, w)
		brackets, _ := impl.BracketsOf(w)
		back, code = impl.ParseBrackets(brackets)
		wantText(t, "ParseBrackets "+brackets, back, code, w)
		turns := int64(0)
		for i := range int64(len(w) / 2) {
			if right, code := impl.RotateRight(w, i); code == impl.ErrNone {
				back, code = impl.RotateLeft(right, i)
				wantText(t, fmt.Sprint("RotateLeft ", right, " ", i), back, code, w)
				checkGreater(t, w, right)
				turns++
			}
			if left, code := impl.RotateLeft(w, i); code == impl.ErrNone {
				back, code = impl.RotateRight(left, i)
				wantText(t, fmt.Sprint("RotateRight ", left, " ", i), back, code, w)
				checkGreater(t, left, w)
				turns++
			}
		}
		// Each node but the root is at a side of another one.
		wantNumber(t, "the rotations of "+w, turns, impl.ErrNone, max(0, int64(len(w)/2)-1))
	}
}

func checkGreater(t *testing.T, w, u string) {
	t.Helper()
	yes, code := impl.IsAtMost(w, u)
	wantAnswer(t, "IsAtMost "+w+" "+u, yes, code, true)
	yes, code = impl.IsAtMost(u, w)
	wantAnswer(t, "IsAtMost "+u+" "+w, yes, code, false)
	meet, code := impl.MeetOfBinary(w, u)
	wantText(t, "MeetOfBinary "+w+" "+u, meet, code, w)
	if len(w)/2 <= impl.MaxTurns {
		turns, code := impl.TurnsBetween(w, u)
		wantNumber(t, "TurnsBetween "+w+" "+u, turns, code, 1)
		turns, code = impl.TurnsBetween(u, w)
		wantNumber(t, "TurnsBetween "+u+" "+w, turns, code, 1)
	}
}

func TestPromise15(t *testing.T) {
	for _, text := range manyTexts() {
		w, _ := impl.BinaryOf(parsed(text))
		back, code := impl.TreeOfBinary(w)
		wantTree(t, "TreeOfBinary "+w, back, code, text)
	}
	for _, w := range manyBinaries() {
		x, _ := impl.TreeOfBinary(w)
		back, code := impl.BinaryOf(x)
		wantText(t, fmt.Sprint("BinaryOf ", x), back, code, w)
	}
}

// TestBinariesLeadBack checks what else leads back: sides, and binary trees mirrored twice, whose
// inner order is turned round.
func TestBinariesLeadBack(t *testing.T) {
	for _, w := range manyBinaries() {
		if left, right, code := impl.SidesOf(w); code == impl.ErrNone {
			back, code := impl.JoinSides(left, right)
			wantText(t, "JoinSides "+left+" "+right, back, code, w)
		}
		once, _ := impl.MirrorBinary(w)
		twice, code := impl.MirrorBinary(once)
		wantText(t, "mirrored twice", twice, code, w)
	}
}

// TestMeetsAreGreatest checks that a meet is at most both, and that all that are so are at most it.
func TestMeetsAreGreatest(t *testing.T) {
	all := binaryTexts(4)
	isAtMost := func(w, u string) bool {
		yes, _ := impl.IsAtMost(w, u)
		return yes
	}
	for _, w := range all {
		for _, u := range all {
			meet, _ := impl.MeetOfBinary(w, u)
			for _, x := range all {
				if isAtMost(x, meet) != (isAtMost(x, w) && isAtMost(x, u)) {
					t.Errorf("the meet of %s and %s is %s, with %s below", w, u, meet, x)
				}
			}
		}
	}
}

func TestTurnsAreTheSameBothWays(t *testing.T) {
	all := binaryTexts(5)
	for _, w := range all {
		for _, u := range all {
			there, _ := impl.TurnsBetween(w, u)
			back, code := impl.TurnsBetween(u, w)
			wantNumber(t, "TurnsBetween "+u+" "+w, back, code, there)
			if (there == 0) != (w == u) {
				t.Errorf("TurnsBetween %s %s = %d", w, u, there)
			}
		}
	}
}

func TestVectorsStay(t *testing.T) {
	for _, c := range []struct {
		list []int64
		w    string
		code int64
	}{
		{[]int64{3, 0, 1, 0}, "101100100", impl.ErrNone}, {[]int64{3, 0, 2, 0}, "", impl.ErrNotFound}, {[]int64{3, -1, 1, 0}, "", impl.ErrRange},
	} {
		memory := append(slices.Clone(c.list), -77, -77, -77)
		before := slices.Clone(memory)
		w, code := impl.BinaryOfVector(memory[:4])
		if w != c.w || code != c.code {
			t.Errorf("BinaryOfVector %v = %q, %d; want %q, %d", c.list, w, code, c.w, c.code)
		}
		if !sameList(memory, before) {
			t.Errorf("BinaryOfVector wrote into its argument: %v", memory)
		}
	}
}

func TestListsOfBinariesAreNew(t *testing.T) {
	for _, w := range []string{"100", "1100100", someBinary(impl.MaxBinary, 3)} {
		for _, name := range []string{"InnerOrder", "VectorOf", "TreeOfBinary"} {
			first, _ := ofBinary[name](w)
			told := fmt.Sprint(first)
			spoil(first)
			if again, code := ofBinary[name](w); fmt.Sprint(again) != told || code != impl.ErrNone {
				t.Errorf("%s of %s = %s, and then %v, %d", name, w, told, again, code)
			}
		}
	}
}

// TestTextsAreNew checks that no text in a result lies in the memory of an argument.
func TestTextsAreNew(t *testing.T) {
	for _, text := range []string{"0", "100", "11000", "10100", "1100100"} {
		w := strings.Clone(text)
		left, right, _ := impl.SidesOf(w)
		joined, _ := impl.JoinSides(w, "0")
		mirror, _ := impl.MirrorBinary(w)
		turnedRight, _ := impl.RotateRight(w, 0)
		turnedLeft, _ := impl.RotateLeft(w, 0)
		meet, _ := impl.MeetOfBinary(w, w)
		brackets, _ := impl.BracketsOf(w)
		parsed, _ := impl.ParseBrackets(brackets)
		for i, result := range []string{left, right, joined, mirror, turnedRight, turnedLeft, meet, brackets} {
			if liesIn(result, w) {
				t.Errorf("result %d, %q, lies in the memory of %q", i, result, w)
			}
		}
		if liesIn(parsed, brackets) {
			t.Errorf("the result of ParseBrackets lies in the memory of %q", brackets)
		}
	}
}

// liesIn reports whether a text begins in the memory of another one.
func liesIn(text, whole string) bool {
	begin := uintptr(unsafe.Pointer(unsafe.StringData(whole)))
	at := uintptr(unsafe.Pointer(unsafe.StringData(text)))
	return text != "" && begin <= at && at < begin+uintptr(len(whole))
}
