package tests

import (
	"fmt"
	"math"
	"slices"
	"testing"

	"loop.example/g01391/impl"
)

// ofOrder has each function of a tree and an order.
var ofOrder = map[string]func(x impl.Tree, order []int64) (any, int64){
	"IsGrowing":     func(x impl.Tree, order []int64) (any, int64) { return pair(impl.IsGrowing(x, order)) },
	"NextGrowing":   func(x impl.Tree, order []int64) (any, int64) { return pair(impl.NextGrowing(x, order)) },
	"RankOfGrowing": func(x impl.Tree, order []int64) (any, int64) { return pair(impl.RankOfGrowing(x, order)) },
	"LabelsOf":      func(x impl.Tree, order []int64) (any, int64) { return pair(impl.LabelsOf(x, order)) },
	"FreePlaces":    func(x impl.Tree, order []int64) (any, int64) { return pair(impl.FreePlaces(x, order)) },
	"ExchangeAt 0":  func(x impl.Tree, order []int64) (any, int64) { return pair(impl.ExchangeAt(x, order, 0)) },
	"BreaksOf":      func(x impl.Tree, order []int64) (any, int64) { return pair(impl.BreaksOf(x, order)) },
	"ListOfGrowth":  func(x impl.Tree, order []int64) (any, int64) { return pair(impl.ListOfGrowth(x, order)) },
}

// farNumbers returns numbers that are far off.
func farNumbers() []int64 {
	return []int64{math.MinInt64, math.MinInt64 + 1, -1 << 32, 1 << 32, 1<<32 + 1, math.MaxInt64 - 1, math.MaxInt64}
}

// grown returns both lists of the results of GrownTree as one result.
func grown(x impl.Tree, growth []int64, code int64) (any, int64) {
	if len(x.Degrees)+len(growth) == 0 {
		return [][]int64(nil), code
	}
	return [][]int64{x.Degrees, growth}, code
}

// wantListOrCode checks a list, or a code if it is not ErrNone.
func wantListOrCode(t *testing.T, what string, got []int64, code int64, want []int64, wantedCode int64) {
	t.Helper()
	if wantedCode != impl.ErrNone {
		wantCode(t, what, got, code, wantedCode)
	} else {
		wantList(t, what, got, code, want...)
	}
}

func TestLimitOfGrowing(t *testing.T) {
	if impl.MaxGrown != 20 {
		t.Errorf("MaxGrown = %d", impl.MaxGrown)
	}
}

// TestIsGrowing holds all lists of all nodes, each once, against the growing orders of small trees.
func TestIsGrowing(t *testing.T) {
	for _, text := range treesUpTo(6) {
		known := map[string]bool{}
		for _, order := range modelOf(text).growingOrders() {
			known[fmt.Sprint(order)] = true
		}
		for _, list := range permuted(int64(len(text) / 2)) {
			yes, code := impl.IsGrowing(parsed(text), list)
			wantAnswer(t, fmt.Sprint("IsGrowing ", text, " ", list), yes, code, known[fmt.Sprint(list)])
		}
	}
}

// TestShortOrders holds all lists of at most five numbers against the lists of all nodes of small trees.
func TestShortOrders(t *testing.T) {
	for _, text := range treesUpTo(4) {
		m := modelOf(text)
		for _, list := range listsOf(5, 4) {
			yes, code := impl.IsGrowing(m.tree(), list)
			what := fmt.Sprint("IsGrowing ", text, " ", list)
			if sameList(slices.Sorted(slices.Values(list)), countedTo(0, m.count()-1)) {
				wantAnswer(t, what, yes, code, m.isGrowing(list))
			} else {
				wantCode(t, what, yes, code, impl.ErrRange)
			}
		}
	}
}

// TestGrowingOrders checks each function at all growing orders of all small trees, and of larger ones that have few.
func TestGrowingOrders(t *testing.T) {
	for _, text := range append(treesUpTo(6), narrowTexts()...) {
		checkAllOrders(t, text, 1)
	}
	for _, text := range treeTexts(7) {
		checkAllOrders(t, text, 31)
	}
}

// checkAllOrders goes over all growing orders of a tree, and looks closely at each one of so many.
func checkAllOrders(t *testing.T, text string, step int) {
	t.Helper()
	m := modelOf(text)
	x := m.tree()
	orders := m.growingOrders()
	count, code := impl.CountGrowing(x)
	wantLimited(t, m, "CountGrowing "+text, count, code, int64(len(orders)))
	first, code := impl.FirstGrowing(x)
	wantList(t, "FirstGrowing "+text, first, code, orders[0]...)
	last, code := impl.LastGrowing(x)
	wantList(t, "LastGrowing "+text, last, code, orders[len(orders)-1]...)
	for rank, order := range orders {
		what := fmt.Sprint(text, " ", order)
		next, code := impl.NextGrowing(x, order)
		if rank+1 < len(orders) {
			wantList(t, "NextGrowing "+what, next, code, orders[rank+1]...)
		} else {
			wantCode(t, "NextGrowing "+what, next, code, impl.ErrNotFound)
		}
		back, code := impl.RankOfGrowing(x, order)
		wantLimited(t, m, "RankOfGrowing "+what, back, code, int64(rank))
		checkOfRank(t, m, int64(rank), order)
		if rank%step == 0 {
			checkOneOrder(t, m, order)
		}
	}
	checkOfRank(t, m, int64(len(orders)), nil)
}

// wantLimited checks a number that is told of trees of at most MaxGrown nodes alone.
func wantLimited(t *testing.T, m model, what string, got, code, want int64) {
	t.Helper()
	if m.count() > impl.MaxGrown {
		wantCode(t, what, got, code, impl.ErrLimit)
	} else {
		wantNumber(t, what, got, code, want)
	}
}

// checkOfRank checks the growing order of a rank, none if it is nil.
func checkOfRank(t *testing.T, m model, rank int64, want []int64) {
	t.Helper()
	order, code := impl.GrowingOfRank(m.tree(), rank)
	what := fmt.Sprint("GrowingOfRank ", m.text, " ", rank)
	switch {
	case m.count() > impl.MaxGrown:
		wantCode(t, what, order, code, impl.ErrLimit)
	case want == nil:
		wantCode(t, what, order, code, impl.ErrNotFound)
	default:
		wantList(t, what, order, code, want...)
	}
}

// checkOneOrder checks what is told of one growing order.
func checkOneOrder(t *testing.T, m model, order []int64) {
	t.Helper()
	x := m.tree()
	what := fmt.Sprint(m.text, " ", order)
	yes, code := impl.IsGrowing(x, order)
	wantAnswer(t, "IsGrowing "+what, yes, code, true)
	labels, code := impl.LabelsOf(x, order)
	wantList(t, "LabelsOf "+what, labels, code, m.labels(order)...)
	breaks, code := impl.BreaksOf(x, order)
	wantList(t, "BreaksOf "+what, breaks, code, breaksOf(order)...)
	free, code := impl.FreePlaces(x, order)
	wantList(t, "FreePlaces "+what, free, code, m.free(order)...)
	for _, i := range append(countedTo(-2, m.count()+1), farNumbers()...) {
		got, code := impl.ExchangeAt(x, order, i)
		what := fmt.Sprint("ExchangeAt ", what, " ", i)
		switch {
		case i < 0 || i > m.count()-2:
			wantCode(t, what, got, code, impl.ErrRange)
		case m.isGrowing(exchanged(order, i)):
			wantList(t, what, got, code, exchanged(order, i)...)
		default:
			wantCode(t, what, got, code, impl.ErrState)
		}
	}
	list, code := impl.ListOfGrowth(x, order)
	if want, found := m.grownList(order); found {
		wantList(t, "ListOfGrowth "+what, list, code, want...)
	} else {
		wantCode(t, "ListOfGrowth "+what, list, code, impl.ErrNotFound)
	}
}

// TestLargeGrowingOrders checks the first, the last and some other growing orders of trees that have very many.
func TestLargeGrowingOrders(t *testing.T) {
	for _, text := range grownTexts() {
		m := modelOf(text)
		x := m.tree()
		first, code := impl.FirstGrowing(x)
		wantList(t, "FirstGrowing "+text, first, code, countedTo(0, m.count()-1)...)
		last, code := impl.LastGrowing(x)
		none, codeBehind := impl.NextGrowing(x, last)
		wantAnswer(t, fmt.Sprint("LastGrowing ", text, " = ", last, " is one"), m.isGrowing(last), code, true)
		wantCode(t, fmt.Sprint("NextGrowing ", text, " ", last), none, codeBehind, impl.ErrNotFound)
		count, code := impl.CountGrowing(x)
		wantLimited(t, m, "CountGrowing "+text, count, code, m.shuffles([]int64{0}).Int64())
		orders := [][]int64{first, last}
		for seed := range uint64(12) {
			orders = append(orders, m.drawnGrowing(seed))
		}
		for _, order := range orders {
			checkOneOrder(t, m, order)
			checkOneRank(t, m, order)
		}
	}
}

// checkOneRank checks the rank of one growing order, and the next one.
func checkOneRank(t *testing.T, m model, order []int64) {
	t.Helper()
	x := m.tree()
	what := fmt.Sprint(m.text, " ", order)
	want := m.nextGrowing(order)
	next, code := impl.NextGrowing(x, order)
	if want == nil {
		wantCode(t, "NextGrowing "+what, next, code, impl.ErrNotFound)
	} else {
		wantList(t, "NextGrowing "+what, next, code, want...)
	}
	wantRank := int64(0)
	if m.count() <= impl.MaxGrown {
		wantRank = m.rankOfGrowing(order)
	}
	rank, code := impl.RankOfGrowing(x, order)
	wantLimited(t, m, "RankOfGrowing "+what, rank, code, wantRank)
	checkOfRank(t, m, wantRank, order)
	checkOfRank(t, m, wantRank+1, want)
}

func TestListedCounts(t *testing.T) {
	for _, c := range []struct {
		text string
		want int64
	}{
		{"()", 1}, {"(())", 1}, {"(()())", 2}, {"((()))", 1}, {"((())())", 3}, {"(()(()))", 3}, {"(()()())", 6}, {"((())(()))", 6}, {"((()())())", 8},
		{"((()())()(()))", 120}, {fullText(2), 80}, {fullText(3), 21964800}, {pathText(20), 1}, {starText(20), 121645100408832000},
		{"(" + pathText(10) + pathText(9) + ")", 92378}, {"(" + starText(10) + pathText(9) + ")", 92378 * 362880},
	} {
		count, code := impl.CountGrowing(parsed(c.text))
		wantNumber(t, "CountGrowing "+c.text, count, code, c.want)
	}
	for _, text := range []string{pathText(21), starText(21), someText(21, 1), pathText(24), starText(24), someText(23, 4)} {
		count, code := impl.CountGrowing(parsed(text))
		wantCode(t, "CountGrowing "+text, count, code, impl.ErrLimit)
	}
}

func TestListedFirstAndLastGrowing(t *testing.T) {
	down := countedTo(23, 1)
	for _, c := range []struct {
		text string
		want []int64
	}{
		{"()", []int64{0}}, {"(())", []int64{0, 1}}, {"(()())", []int64{0, 2, 1}}, {"((())())", []int64{0, 3, 1, 2}}, {"(()(()))", []int64{0, 2, 3, 1}},
		{"((()())()(()))", []int64{0, 5, 6, 4, 1, 3, 2}}, {"(((())()))", []int64{0, 1, 4, 2, 3}}, {pathText(24), countedTo(0, 23)},
		{starText(24), append([]int64{0}, down...)}, {"(()" + pathText(22) + ")", slices.Concat([]int64{0}, countedTo(2, 23), []int64{1})},
	} {
		first, code := impl.FirstGrowing(parsed(c.text))
		wantList(t, "FirstGrowing "+c.text, first, code, countedTo(0, int64(len(c.text)/2-1))...)
		last, code := impl.LastGrowing(parsed(c.text))
		wantList(t, "LastGrowing "+c.text, last, code, c.want...)
	}
}

// TestListedNextGrowing has orders whose last places alone change, and orders of which all but the first place
// change.
func TestListedNextGrowing(t *testing.T) {
	up, down := countedTo(2, 23), countedTo(23, 2)
	for _, c := range []struct {
		text        string
		order, want []int64
	}{
		{"(()())", []int64{0, 1, 2}, []int64{0, 2, 1}}, {"(()()())", []int64{0, 1, 2, 3}, []int64{0, 1, 3, 2}}, {"(()()())", []int64{0, 1, 3, 2}, []int64{0, 2, 1, 3}},
		{"(()()())", []int64{0, 2, 3, 1}, []int64{0, 3, 1, 2}}, {"((())())", []int64{0, 1, 2, 3}, []int64{0, 1, 3, 2}}, {"((())())", []int64{0, 1, 3, 2}, []int64{0, 3, 1, 2}},
		{"(()(()))", []int64{0, 1, 2, 3}, []int64{0, 2, 1, 3}}, {"(()(()))", []int64{0, 2, 1, 3}, []int64{0, 2, 3, 1}}, {"((()())())", []int64{0, 1, 4, 3, 2}, []int64{0, 4, 1, 2, 3}},
		{"((())(()))", []int64{0, 1, 3, 4, 2}, []int64{0, 3, 1, 2, 4}}, {"((())(()))", []int64{0, 1, 2, 3, 4}, []int64{0, 1, 3, 2, 4}},
		{starText(24), countedTo(0, 23), append(countedTo(0, 21), 23, 22)}, {starText(24), append([]int64{0, 1}, down...), append([]int64{0, 2, 1}, up[1:]...)},
	} {
		next, code := impl.NextGrowing(parsed(c.text), c.order)
		wantList(t, fmt.Sprint("NextGrowing ", c.text, " ", c.order), next, code, c.want...)
	}
	for _, c := range []struct {
		text  string
		order []int64
	}{
		{"()", []int64{0}}, {"(())", []int64{0, 1}}, {"(()())", []int64{0, 2, 1}}, {"((())())", []int64{0, 3, 1, 2}}, {"(()(()))", []int64{0, 2, 3, 1}},
		{pathText(24), countedTo(0, 23)}, {starText(24), slices.Concat([]int64{0}, down, []int64{1})},
	} {
		next, code := impl.NextGrowing(parsed(c.text), c.order)
		wantCode(t, fmt.Sprint("NextGrowing ", c.text, " ", c.order), next, code, impl.ErrNotFound)
	}
}

// TestListedRanks has the ranks 0, the greatest one and one more, and negative and very great ones.
func TestListedRanks(t *testing.T) {
	down := countedTo(19, 1)
	for _, c := range []struct {
		text  string
		rank  int64
		order []int64
		error int64
	}{
		{"()", 0, []int64{0}, impl.ErrNone}, {"()", 1, nil, impl.ErrNotFound}, {"()", -1, nil, impl.ErrRange},
		{"((())())", 0, []int64{0, 1, 2, 3}, impl.ErrNone}, {"((())())", 1, []int64{0, 1, 3, 2}, impl.ErrNone}, {"((())())", 2, []int64{0, 3, 1, 2}, impl.ErrNone}, {"((())())", 3, nil, impl.ErrNotFound},
		{"((()())()(()))", 119, []int64{0, 5, 6, 4, 1, 3, 2}, impl.ErrNone}, {"((()())()(()))", 120, nil, impl.ErrNotFound}, {"((()())()(()))", 60, []int64{0, 4, 1, 2, 3, 5, 6}, impl.ErrNone},
		{pathText(20), 0, countedTo(0, 19), impl.ErrNone}, {pathText(20), 1, nil, impl.ErrNotFound}, {pathText(20), math.MaxInt64, nil, impl.ErrNotFound}, {pathText(20), -1, nil, impl.ErrRange},
		{starText(20), 0, countedTo(0, 19), impl.ErrNone}, {starText(20), 1, append(countedTo(0, 17), 19, 18), impl.ErrNone},
		{starText(20), 6402373705728000, append([]int64{0, 2, 1}, countedTo(3, 19)...), impl.ErrNone},
		{starText(20), 121645100408831999, append([]int64{0}, down...), impl.ErrNone}, {starText(20), 121645100408832000, nil, impl.ErrNotFound}, {starText(20), math.MaxInt64, nil, impl.ErrNotFound},
		{starText(21), 0, nil, impl.ErrLimit}, {starText(21), -1, nil, impl.ErrRange}, {pathText(24), 0, nil, impl.ErrLimit}, {pathText(24), 1, nil, impl.ErrLimit},
		{pathText(24), math.MaxInt64, nil, impl.ErrLimit}, {pathText(24), math.MinInt64, nil, impl.ErrRange},
	} {
		order, code := impl.GrowingOfRank(parsed(c.text), c.rank)
		wantListOrCode(t, fmt.Sprint("GrowingOfRank ", c.text, " ", c.rank), order, code, c.order, c.error)
		if c.error == impl.ErrNone {
			rank, code := impl.RankOfGrowing(parsed(c.text), c.order)
			wantNumber(t, fmt.Sprint("RankOfGrowing ", c.text, " ", c.order), rank, code, c.rank)
		}
	}
}

// TestListedPlaces has free places and breaks at the beginning and at the end, none, and as many as there can be.
func TestListedPlaces(t *testing.T) {
	down := countedTo(23, 1)
	for _, c := range []struct {
		text                        string
		order, labels, free, breaks []int64
	}{
		{"()", []int64{0}, []int64{0}, nil, nil},
		{"(())", []int64{0, 1}, []int64{0, 1}, nil, nil},
		{"(()())", []int64{0, 1, 2}, []int64{0, 1, 2}, []int64{1}, nil},
		{"(()())", []int64{0, 2, 1}, []int64{0, 2, 1}, []int64{1}, []int64{1}},
		{"((())())", []int64{0, 1, 2, 3}, []int64{0, 1, 2, 3}, []int64{2}, nil},
		{"((())())", []int64{0, 1, 3, 2}, []int64{0, 1, 3, 2}, []int64{1, 2}, []int64{2}},
		{"((())())", []int64{0, 3, 1, 2}, []int64{0, 2, 3, 1}, []int64{1}, []int64{1}},
		{"((()())()(()))", []int64{0, 4, 5, 1, 3, 6, 2}, []int64{0, 3, 6, 4, 1, 2, 5}, []int64{1, 2, 4, 5}, []int64{2, 5}},
		{pathText(24), countedTo(0, 23), countedTo(0, 23), nil, nil},
		{starText(24), countedTo(0, 23), countedTo(0, 23), countedTo(1, 22), nil},
		{starText(24), append([]int64{0}, down...), append([]int64{0}, down...), countedTo(1, 22), countedTo(1, 22)},
	} {
		x := parsed(c.text)
		what := fmt.Sprint(c.text, " ", c.order)
		labels, code := impl.LabelsOf(x, c.order)
		wantList(t, "LabelsOf "+what, labels, code, c.labels...)
		free, code := impl.FreePlaces(x, c.order)
		wantList(t, "FreePlaces "+what, free, code, c.free...)
		breaks, code := impl.BreaksOf(x, c.order)
		wantList(t, "BreaksOf "+what, breaks, code, c.breaks...)
	}
}

// TestListedExchanges has exchanges at the places 0 and n - 2, and one beyond each.
func TestListedExchanges(t *testing.T) {
	star := countedTo(0, 23)
	for _, c := range []struct {
		text  string
		order []int64
		i     int64
		want  []int64
		error int64
	}{
		{"()", []int64{0}, -1, nil, impl.ErrRange}, {"()", []int64{0}, 0, nil, impl.ErrRange},
		{"(())", []int64{0, 1}, -1, nil, impl.ErrRange}, {"(())", []int64{0, 1}, 0, nil, impl.ErrState}, {"(())", []int64{0, 1}, 1, nil, impl.ErrRange},
		{"(()())", []int64{0, 1, 2}, 0, nil, impl.ErrState}, {"(()())", []int64{0, 1, 2}, 1, []int64{0, 2, 1}, impl.ErrNone}, {"(()())", []int64{0, 1, 2}, 2, nil, impl.ErrRange},
		{"((())())", []int64{0, 1, 3, 2}, 1, []int64{0, 3, 1, 2}, impl.ErrNone}, {"((())())", []int64{0, 1, 3, 2}, 2, []int64{0, 1, 2, 3}, impl.ErrNone},
		{"((())())", []int64{0, 3, 1, 2}, 2, nil, impl.ErrState}, {"((())())", []int64{0, 3, 1, 2}, 3, nil, impl.ErrRange}, {"((())())", []int64{0, 3, 1, 2}, -1, nil, impl.ErrRange},
		{pathText(24), countedTo(0, 23), 22, nil, impl.ErrState}, {pathText(24), countedTo(0, 23), 23, nil, impl.ErrRange},
		{starText(24), star, 22, append(countedTo(0, 21), 23, 22), impl.ErrNone}, {starText(24), star, 23, nil, impl.ErrRange}, {starText(24), star, 0, nil, impl.ErrState},
		{starText(24), star, -1, nil, impl.ErrRange}, {starText(24), star, 1, append([]int64{0, 2, 1}, star[3:]...), impl.ErrNone},
	} {
		got, code := impl.ExchangeAt(parsed(c.text), c.order, c.i)
		wantListOrCode(t, fmt.Sprint("ExchangeAt ", c.text, " ", c.order, " ", c.i), got, code, c.want, c.error)
	}
}

// TestNoTreeWithOrder checks that what is no tree is refused first, whatever stands beside it.
func TestNoTreeWithOrder(t *testing.T) {
	for _, bad := range badTrees() {
		n := int64(len(bad.Degrees))
		for _, list := range [][]int64{nil, {0}, {0, 1}, {1, 0}, {0, 0}, {-1}, countedTo(0, n-1), countedTo(1, n), countedTo(0, n), countedTo(0, 24), {math.MaxInt64, math.MinInt64}} {
			for name, f := range ofOrder {
				got, code := f(bad, list)
				wantCode(t, fmt.Sprint(name, " ", bad, " ", list), got, code, impl.ErrInvalid)
			}
			for _, i := range append(countedTo(-1, n), farNumbers()...) {
				got, code := impl.ExchangeAt(bad, list, i)
				wantCode(t, fmt.Sprint("ExchangeAt ", bad, " ", list, " ", i), got, code, impl.ErrInvalid)
			}
		}
		for _, rank := range append(countedTo(-2, 2), farNumbers()...) {
			got, code := impl.GrowingOfRank(bad, rank)
			wantCode(t, fmt.Sprint("GrowingOfRank ", bad, " ", rank), got, code, impl.ErrInvalid)
		}
	}
}

// orderedTexts returns the texts of trees of 1 to MaxNodes nodes, some of them beyond MaxGrown.
func orderedTexts() []string {
	return []string{"()", "(())", "(()())", "((())())", "((()())()(()))", pathText(20), starText(20), someText(20, 1), pathText(21), starText(21), someText(21, 2), pathText(24), starText(24), someText(24, 3)}
}

// TestNoOrder checks that lists that do not have all nodes, each once, are refused, also where the node at a place
// is ahead of its parent, the place of an exchange is out of range, and the tree has too many nodes for a rank.
func TestNoOrder(t *testing.T) {
	for _, text := range orderedTexts() {
		x := parsed(text)
		n := int64(len(x.Degrees))
		for _, list := range badOrders(n) {
			what := fmt.Sprint(" ", text, " ", list)
			for name, f := range ofOrder {
				got, code := f(x, list)
				wantCode(t, name+what, got, code, impl.ErrRange)
			}
			for _, i := range []int64{-1, 1, n - 2, n - 1, math.MinInt64, math.MaxInt64} {
				got, code := impl.ExchangeAt(x, list, i)
				wantCode(t, fmt.Sprint("ExchangeAt", what, " ", i), got, code, impl.ErrRange)
			}
		}
	}
}

// TestNotGrowing checks lists of all nodes, each once, in which one node alone comes ahead of its parent.
func TestNotGrowing(t *testing.T) {
	for _, text := range orderedTexts() {
		m := modelOf(text)
		for seed := range uint64(3) {
			for _, list := range m.aheadOfParent(m.drawnGrowing(seed)) {
				checkNotGrowing(t, m, list)
			}
		}
		// With the root at the end, each of its children comes ahead of it.
		if m.count() > 1 {
			checkNotGrowing(t, m, append(countedTo(1, m.count()-1), 0))
		}
	}
}

func checkNotGrowing(t *testing.T, m model, list []int64) {
	t.Helper()
	x := m.tree()
	what := fmt.Sprint(" ", m.text, " ", list)
	yes, code := impl.IsGrowing(x, list)
	wantAnswer(t, "IsGrowing"+what, yes, code, false)
	for name, f := range ofOrder {
		if name != "IsGrowing" {
			got, code := f(x, list)
			wantCode(t, name+what, got, code, impl.ErrState)
		}
	}
	for _, i := range append(countedTo(-1, m.count()), farNumbers()...) {
		got, code := impl.ExchangeAt(x, list, i)
		want := int64(impl.ErrState)
		if i < 0 || i > m.count()-2 {
			want = impl.ErrRange
		}
		wantCode(t, fmt.Sprint("ExchangeAt", what, " ", i), got, code, want)
	}
}

// TestGrownTree holds all lists of at most seven numbers, and many long ones, against trees of pointers.
func TestGrownTree(t *testing.T) {
	var lists [][]int64
	for n := range int64(8) {
		lists = append(lists, growingLists(n)...)
	}
	for _, n := range []int64{12, impl.MaxNodes - 2, impl.MaxNodes - 1} {
		lists = append(lists, make([]int64, n), countedTo(0, n-1))
		for seed := range uint64(40) {
			lists = append(lists, drawnList(n, seed))
		}
	}
	for _, list := range lists {
		root := sproutOf(list)
		what := fmt.Sprint("GrownTree ", list)
		x, growth, code := impl.GrownTree(list)
		wantTree(t, what, x, code, root.text())
		wantList(t, "the growth of "+what, growth, code, root.growth()...)
		back, code := impl.ListOfGrowth(x, growth)
		wantList(t, fmt.Sprint("ListOfGrowth ", root.text(), " ", growth), back, code, list...)
	}
}

func TestListedGrownTrees(t *testing.T) {
	for _, c := range []struct {
		list   []int64
		text   string
		growth []int64
	}{
		{nil, "()", []int64{0}}, {[]int64{0}, "(())", []int64{0, 1}}, {[]int64{0, 0}, "(()())", []int64{0, 1, 2}}, {[]int64{0, 1}, "((()))", []int64{0, 1, 2}},
		{[]int64{0, 0, 1}, "((())())", []int64{0, 1, 3, 2}}, {[]int64{0, 0, 2}, "(()(()))", []int64{0, 1, 2, 3}}, {[]int64{0, 1, 0}, "((())())", []int64{0, 1, 2, 3}},
		{[]int64{0, 0, 1, 2, 1, 0}, "((()())(())())", []int64{0, 1, 4, 2, 5, 3, 6}}, {[]int64{0, 1, 2, 1, 0}, "(((())())())", []int64{0, 1, 2, 3, 4, 5}},
		{make([]int64, 23), starText(24), countedTo(0, 23)}, {countedTo(0, 22), pathText(24), countedTo(0, 23)},
	} {
		x, growth, code := impl.GrownTree(c.list)
		wantTree(t, fmt.Sprint("GrownTree ", c.list), x, code, c.text)
		wantList(t, fmt.Sprint("the growth of GrownTree ", c.list), growth, code, c.growth...)
	}
}

// TestShortGrownTrees holds all lists of at most five numbers in -1..5 against those that grow trees.
func TestShortGrownTrees(t *testing.T) {
	known := map[string]bool{}
	for n := range int64(6) {
		for _, list := range growingLists(n) {
			known[fmt.Sprint(list)] = true
		}
	}
	for _, list := range listsOf(5, 5) {
		got, code := grown(impl.GrownTree(list))
		if !known[fmt.Sprint(list)] {
			wantCode(t, fmt.Sprint("GrownTree ", list), got, code, impl.ErrRange)
		} else if code != impl.ErrNone || isZero(got) {
			t.Errorf("GrownTree %v = %v, code %d", list, got, code)
		}
	}
}

func TestGrownTreeRefuses(t *testing.T) {
	for _, list := range [][]int64{make([]int64, impl.MaxNodes), countedTo(0, impl.MaxNodes-1), drawnList(impl.MaxNodes, 1), make([]int64, 500), {1}, {-1}, {0, 2}, {0, 1, 3}} {
		got, code := grown(impl.GrownTree(list))
		wantCode(t, fmt.Sprint("GrownTree ", list), got, code, impl.ErrRange)
	}
	for _, n := range []int64{1, 4, impl.MaxNodes - 1} {
		for place := range n {
			for _, x := range append([]int64{-1, place + 1, place + 2, impl.MaxNodes}, farNumbers()...) {
				list := drawnList(n, uint64(place))
				list[place] = x
				got, code := grown(impl.GrownTree(list))
				wantCode(t, fmt.Sprint("GrownTree ", list), got, code, impl.ErrRange)
			}
		}
	}
}

// TestListedGrowths has growing orders that are the growth of a list, and those that are not.
func TestListedGrowths(t *testing.T) {
	for _, c := range []struct {
		text        string
		order, want []int64
		error       int64
	}{
		{"()", []int64{0}, nil, impl.ErrNone}, {"(())", []int64{0, 1}, []int64{0}, impl.ErrNone}, {"(()())", []int64{0, 1, 2}, []int64{0, 0}, impl.ErrNone}, {"(()())", []int64{0, 2, 1}, nil, impl.ErrNotFound},
		{"((())())", []int64{0, 1, 2, 3}, []int64{0, 1, 0}, impl.ErrNone}, {"((())())", []int64{0, 1, 3, 2}, []int64{0, 0, 1}, impl.ErrNone}, {"((())())", []int64{0, 3, 1, 2}, nil, impl.ErrNotFound},
		{"((())(()))", []int64{0, 1, 3, 4, 2}, []int64{0, 0, 2, 1}, impl.ErrNone}, {"((())(()))", []int64{0, 3, 1, 2, 4}, nil, impl.ErrNotFound}, {"((())(()))", []int64{0, 3, 4, 1, 2}, nil, impl.ErrNotFound},
		{"((()())())", []int64{0, 1, 4, 3, 2}, nil, impl.ErrNotFound}, {"((()())())", []int64{0, 1, 2, 4, 3}, []int64{0, 1, 0, 1}, impl.ErrNone},
		{pathText(24), countedTo(0, 23), countedTo(0, 22), impl.ErrNone}, {starText(24), countedTo(0, 23), make([]int64, 23), impl.ErrNone},
		{starText(24), append(countedTo(0, 21), 23, 22), nil, impl.ErrNotFound},
	} {
		list, code := impl.ListOfGrowth(parsed(c.text), c.order)
		wantListOrCode(t, fmt.Sprint("ListOfGrowth ", c.text, " ", c.order), list, code, c.want, c.error)
	}
}

// manyNumbers returns lists of different numbers: all of small ones, and some of negative and very great ones.
func manyNumbers() [][]int64 {
	var lists [][]int64
	for n := range int64(8) {
		lists = append(lists, permuted(n)...)
	}
	great := []int64{math.MaxInt64, math.MinInt64, 0, -1, 1 << 32, -1 << 32, math.MaxInt64 - 1, math.MinInt64 + 1}
	for _, order := range permuted(5) {
		for _, far := range [][]int64{great[:5], great[3:]} {
			list := make([]int64, 5)
			for place, i := range order {
				list[place] = far[i]
			}
			lists = append(lists, list)
		}
	}
	lists = append(lists, great, countedTo(0, 22), countedTo(-22, 0), countedTo(math.MaxInt64-22, math.MaxInt64-1))
	for seed := range uint64(40) {
		order := modelOf(starText(24)).drawnGrowing(seed)[1:]
		lists = append(lists, order, append(slices.Clone(order[:22]), -1))
	}
	return lists
}

func TestDecreasingTree(t *testing.T) {
	for _, list := range manyNumbers() {
		w, code := impl.DecreasingTree(list)
		wantText(t, fmt.Sprint("DecreasingTree ", list), w, code, decreasingText(list))
	}
	for _, c := range []struct {
		list []int64
		want string
	}{
		{nil, "0"}, {[]int64{5}, "100"}, {[]int64{0, 1}, "11000"}, {[]int64{1, 0}, "10100"}, {[]int64{2, 0, 3, 1}, "110100100"}, {[]int64{math.MinInt64, math.MaxInt64, -1}, "1100100"},
		{countedTo(0, 22), leftComb(23)}, {countedTo(-23, -1), leftComb(23)}, {[]int64{-1, -2, -3}, "1010100"}, {[]int64{3, 1, 2}, "1011000"},
	} {
		w, code := impl.DecreasingTree(c.list)
		wantText(t, fmt.Sprint("DecreasingTree ", c.list), w, code, c.want)
	}
}

func TestDecreasingTreeRefuses(t *testing.T) {
	for _, list := range [][]int64{countedTo(0, 23), countedTo(-24, -1), make([]int64, 24), countedTo(0, 499), {0, 0}, {math.MaxInt64, 3, math.MaxInt64}, {math.MinInt64, math.MinInt64}, {-1, 1, -1}} {
		w, code := impl.DecreasingTree(list)
		wantCode(t, fmt.Sprint("DecreasingTree ", list), w, code, impl.ErrRange)
	}
	for _, n := range []int64{2, 3, 7, 23} {
		for i := range n {
			for k := range i {
				list := countedTo(-3, n-4)
				list[i] = list[k]
				w, code := impl.DecreasingTree(list)
				wantCode(t, fmt.Sprint("DecreasingTree ", list), w, code, impl.ErrRange)
			}
		}
	}
}

// TestListOfDecreasing holds the lists of small binary trees against all lists.
func TestListOfDecreasing(t *testing.T) {
	for n := range 8 {
		greatest := greatestLists(int64(n))
		for _, w := range binaryTexts(n) {
			list, code := impl.ListOfDecreasing(w)
			wantList(t, "ListOfDecreasing "+w, list, code, greatest[w]...)
		}
	}
	for _, w := range manyBinaries() {
		list, code := impl.ListOfDecreasing(w)
		wantList(t, "ListOfDecreasing "+w, list, code, greatestByNumbers(w)...)
	}
}

func TestListedListsOfDecreasing(t *testing.T) {
	for _, c := range []struct {
		w    string
		want []int64
	}{
		{"0", nil}, {"100", []int64{0}}, {"11000", []int64{0, 1}}, {"10100", []int64{1, 0}}, {"1100100", []int64{1, 2, 0}}, {"110100100", []int64{2, 1, 3, 0}},
		{"1011000", []int64{2, 0, 1}}, {"110010100", []int64{2, 3, 1, 0}}, {"11001100100", []int64{3, 4, 1, 2, 0}}, {leftComb(23), countedTo(0, 22)}, {rightComb(23), countedTo(22, 0)},
	} {
		list, code := impl.ListOfDecreasing(c.w)
		wantList(t, "ListOfDecreasing "+c.w, list, code, c.want...)
	}
}
