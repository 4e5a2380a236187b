package tests

import (
	"math"
	"slices"
	"testing"

	"loop.example/g01236/impl"
)

func checkCutCalls(t *testing.T, n int, ds []impl.Diagonal) {
	t.Helper()
	checkCall(t, "IsCut", impl.IsCut, n, ds)
	checkCall(t, "PiecesOfCut", impl.PiecesOfCut, n, ds)
	checkCall(t, "SizesOfCut", impl.SizesOfCut, n, ds)
	checkCall(t, "PiecesAtCorners", impl.PiecesAtCorners, n, ds)
	checkCall(t, "FreeDiagonals", impl.FreeDiagonals, n, ds)
	checkCall(t, "CountFiner", impl.CountFiner, n, ds)
	checkCall(t, "FirstFiner", impl.FirstFiner, n, ds)
}

func checkCutCallsWithNumbers(t *testing.T, n int, ds []impl.Diagonal) {
	t.Helper()
	for _, number := range append(numberPool(), n-1, n, n+1) {
		checkCall(t, "IsEqualCut", impl.IsEqualCut, n, ds, number)
		checkCall(t, "TurnCut", impl.TurnCut, n, ds, number)
	}
	for _, d := range flippedPool(n, ds) {
		checkCall(t, "AddDiagonal", impl.AddDiagonal, n, ds, d)
	}
}

func TestChapter8TakesAllNumbers(t *testing.T) {
	for _, n := range numberPool() {
		checkCall(t, "CountAllCuts", impl.CountAllCuts, n)
		for _, number := range append(numberPool(), n-4, n-3, n-2, n, n+1) {
			checkCall(t, "CountCuts", impl.CountCuts, n, number)
			checkCall(t, "AllCuts", impl.AllCuts, n, number)
			checkCall(t, "CountEqualCuts", impl.CountEqualCuts, n, number)
			checkCall(t, "FirstEqualCut", impl.FirstEqualCut, n, number)
		}
	}
}

func TestChapter8TakesAllLists(t *testing.T) {
	for _, ds := range diagonalLists() {
		for _, n := range numberPool() {
			checkCutCalls(t, n, ds)
		}
		for _, n := range []int{math.MinInt, 0, 3, len(ds) + 3, math.MaxInt} {
			checkCutCallsWithNumbers(t, n, ds)
		}
	}
	for i, p := range append(someCuts(), noCuts()...) {
		checkCutCalls(t, p.n, p.ds)
		if i%10 == 0 {
			checkCutCallsWithNumbers(t, p.n, p.ds)
		}
	}
}

func TestChapter8TakesAllSizes(t *testing.T) {
	lists := slices.Concat(quiddityLists(), noSizeLists(), sizeLists(9))
	for _, size := range numberPool() {
		for count := range 13 {
			lists = append(lists, slices.Repeat([]int{size}, count), append(slices.Repeat([]int{3}, count), size))
		}
	}
	for _, sizes := range lists {
		checkCall(t, "CutOfSizes", impl.CutOfSizes, sizes)
	}
}
