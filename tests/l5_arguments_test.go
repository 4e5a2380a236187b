package tests

import (
	"math"
	"slices"
	"testing"

	"loop.example/g01236/impl"
)

// flippedPool has corners of the polygon, and numbers of any size and sign.
func flippedPool(n int, ds []impl.Diagonal) []impl.Diagonal {
	pool := append(diagonals(math.MinInt, math.MaxInt, math.MaxInt, math.MinInt, -1, 2, 2, 0, 3, 3, 0, 12, 1, 13), noDiagonals(5)...)
	if n >= 4 && n <= 12 {
		pool = append(pool, diagonalsOf(n)...)
	}
	return append(pool, ds[:min(len(ds), 5)]...)
}

// otherLists are so few that they can be taken together with each list.
func otherLists() [][]impl.Diagonal {
	lists := [][]impl.Diagonal{nil, {}, diagonalPool(), slices.Repeat(fan(8), 9), slices.Repeat(diagonals(0, 2, 1, 3), 20), slices.Repeat(diagonals(math.MinInt, math.MaxInt), 40)}
	for n := 4; n <= 13; n++ {
		lists = append(lists, fanAt(n, 1).ds)
	}
	return lists
}

func checkFlipCalls(t *testing.T, n int, ds []impl.Diagonal) {
	t.Helper()
	checkCall(t, "AllFlips", impl.AllFlips, n, ds)
	checkCall(t, "CountByFlips", impl.CountByFlips, n, ds)
	checkCall(t, "FarthestByFlips", impl.FarthestByFlips, n, ds)
	for _, at := range numberPool() {
		checkCall(t, "FlipsToFan", impl.FlipsToFan, n, ds, at)
	}
}

func checkDiagonalCalls(t *testing.T, n int, ds []impl.Diagonal) {
	t.Helper()
	for _, d := range flippedPool(n, ds) {
		checkCall(t, "FlipDiagonal", impl.FlipDiagonal, n, ds, d)
		checkCall(t, "OtherDiagonal", impl.OtherDiagonal, n, ds, d)
		checkCall(t, "QuiddityChange", impl.QuiddityChange, n, ds, d)
		checkCall(t, "PlayFlips", impl.PlayFlips, n, ds, []impl.Diagonal{d})
	}
}

func checkPairCalls(t *testing.T, n int, a []impl.Diagonal, b []impl.Diagonal) {
	t.Helper()
	checkCall(t, "AreFlipApart", impl.AreFlipApart, n, a, b)
	checkCall(t, "CommonDiagonals", impl.CommonDiagonals, n, a, b)
	checkCall(t, "FlipDistance", impl.FlipDistance, n, a, b)
	checkCall(t, "FirstFlips", impl.FirstFlips, n, a, b)
	checkCall(t, "PlayFlips", impl.PlayFlips, n, a, b)
	checkCall(t, "CrossingsBetween", impl.CrossingsBetween, n, a, b)
}

func TestChapter5TakesAllNumbers(t *testing.T) {
	for _, n := range numberPool() {
		checkCall(t, "WidestDistance", impl.WidestDistance, n)
	}
}

func TestChapter5TakesAllLists(t *testing.T) {
	for _, ds := range diagonalLists() {
		for _, n := range numberPool() {
			checkFlipCalls(t, n, ds)
		}
		for _, n := range []int{math.MinInt, 0, 3, len(ds) + 3, math.MaxInt} {
			checkDiagonalCalls(t, n, ds)
		}
	}
	for _, p := range append(somePolygons(), badPolygons()...) {
		checkFlipCalls(t, p.n, p.ds)
		checkDiagonalCalls(t, p.n, p.ds)
	}
}

func TestChapter5TakesAllPairs(t *testing.T) {
	for _, ds := range diagonalLists() {
		for _, other := range otherLists() {
			for _, n := range []int{math.MinInt, -1, 0, 3, len(ds) + 3, len(other) + 3, math.MaxInt} {
				checkPairCalls(t, n, ds, other)
				checkPairCalls(t, n, other, ds)
			}
		}
	}
	for _, p := range somePolygons() {
		checkPairCalls(t, p.n, p.ds, p.ds)
		checkPairCalls(t, p.n, p.ds, fanAt(p.n, 1).ds)
	}
	for _, pair := range badPairs() {
		checkPairCalls(t, pair.a.n, pair.a.ds, pair.b.ds)
	}
}

func TestChapter5TakesAllFlips(t *testing.T) {
	for _, p := range somePolygons() {
		if p.n == 3 {
			continue
		}
		for _, flips := range []int{0, 1, 40, 41} {
			walked, _ := walkFrom(p, flips, 2)
			checkCall(t, "PlayFlips", impl.PlayFlips, p.n, p.ds, walked)
		}
	}
}
