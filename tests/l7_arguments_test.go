package tests

import (
	"math"
	"testing"

	"loop.example/g01236/impl"
)

func checkCountCalls(t *testing.T, n int, ds []impl.Diagonal) {
	t.Helper()
	checkCall(t, "CountWith", impl.CountWith, n, ds)
	checkCall(t, "RankOfTriangulation", impl.RankOfTriangulation, n, ds)
	checkCall(t, "LeastTurned", impl.LeastTurned, n, ds)
	checkCall(t, "LeastOfClass", impl.LeastOfClass, n, ds)
	checkCall(t, "IsOwnMirror", impl.IsOwnMirror, n, ds)
}

func TestChapter7TakesAllNumbers(t *testing.T) {
	for _, n := range numberPool() {
		checkCall(t, "CountTriangulations", impl.CountTriangulations, n)
		checkCall(t, "CountByEars", impl.CountByEars, n)
		checkCall(t, "CountByCorner", impl.CountByCorner, n)
		checkCall(t, "CountTurned", impl.CountTurned, n)
		checkCall(t, "CountClasses", impl.CountClasses, n)
		checkCall(t, "AllClasses", impl.AllClasses, n)
		checkCall(t, "AllQuiddities", impl.AllQuiddities, n)
		for _, k := range append(numberPool(), 41, 42, 131, 132) {
			checkCall(t, "TriangulationOfRank", impl.TriangulationOfRank, n, k)
			checkCall(t, "CountSymmetric", impl.CountSymmetric, n, k)
		}
	}
}

func TestChapter7TakesAllLists(t *testing.T) {
	for _, ds := range diagonalLists() {
		for _, n := range numberPool() {
			checkCountCalls(t, n, ds)
		}
	}
	for _, p := range append(somePolygons(), badPolygons()...) {
		checkCountCalls(t, p.n, p.ds)
	}
	for _, p := range widePolygons() {
		for _, ds := range partsOfPolygon(p) {
			checkCountCalls(t, p.n, ds)
		}
	}
	for _, p := range noLists() {
		checkCountCalls(t, p.n, p.ds)
	}
}

func TestChapter7TakesAllQuiddities(t *testing.T) {
	lists := append(quiddityLists(), quidditiesOf(7)...)
	for _, number := range []int{math.MinInt, -1, 0, 1, 2, math.MaxInt} {
		lists = append(lists, []int{number}, []int{1, number, 1, 2}, []int{6, 1, 2, 2, 2, 2, 2, number})
	}
	for _, list := range lists {
		checkCall(t, "RankOfQuiddity", impl.RankOfQuiddity, list)
	}
	for _, p := range somePolygons() {
		checkCall(t, "RankOfQuiddity", impl.RankOfQuiddity, quiddityOf(p.n, p.ds))
	}
}
