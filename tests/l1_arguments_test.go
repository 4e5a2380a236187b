package tests

import (
	"math"
	"slices"
	"strings"
	"testing"

	"loop.example/g01236/impl"
)

func diagonalPool() []impl.Diagonal {
	var pool []impl.Diagonal
	for _, low := range numberPool() {
		for _, high := range numberPool() {
			pool = append(pool, impl.Diagonal{Low: low, High: high})
		}
	}
	return pool
}

// diagonalLists has triangulations, what is nearly one, and long lists with wild numbers.
func diagonalLists() [][]impl.Diagonal {
	lists := [][]impl.Diagonal{nil, {}, diagonalPool(), slices.Repeat(fan(12), 300)}
	for _, p := range badPolygons() {
		lists = append(lists, p.ds)
	}
	for n := 3; n <= 14; n++ {
		lists = append(lists, fan(n), moved(fan(n), func(corner int) int { return (corner + 2) % n }))
	}
	for _, d := range diagonals(math.MinInt, math.MaxInt, math.MaxInt, math.MinInt, -1, 3, 3, 12, 5, 5) {
		lists = append(lists, slices.Repeat([]impl.Diagonal{d}, 9), append(fan(7), d))
	}
	return lists
}

func quiddityLists() [][]int {
	lists := append(badQuiddities(), numberPool(), slices.Repeat(numberPool(), 300), make([]int, 5000))
	for n := 3; n <= 14; n++ {
		lists = append(lists, fanNumbers(n), slices.Repeat([]int{1, 2}, n)[:n], slices.Repeat([]int{math.MaxInt}, n))
	}
	return lists
}

func textPool() []string {
	texts := []string{
		"", ".", "..", ",", "-", "--", ",,", "0-2", "0-2,0-3", "0-2,", "\x00", "\xff\xfe-\x80", "0-2\n", "é-ü", "٣-٤",
		"99999999999999999999-3", "0-99999999999999999999", "-9223372036854775808-9223372036854775807",
		strings.Repeat("0-2,", 20000), strings.Repeat("1", 50000) + "-2", strings.Repeat(",", 50000), strings.Repeat("-", 50000),
	}
	for b := range 256 {
		texts = append(texts, string([]byte{byte(b)}), string([]byte{'0', '-', '2', byte(b)}), string([]byte{byte(b), '0', '-', '2'}))
	}
	return texts
}

func TestChapter1TakesAllNumbers(t *testing.T) {
	for _, n := range numberPool() {
		checkCall(t, "ZigzagOf", impl.ZigzagOf, n)
		checkCall(t, "AllTriangulations", impl.AllTriangulations, n)
		for _, at := range numberPool() {
			checkCall(t, "FanOf", impl.FanOf, n, at)
		}
		for _, d := range diagonalPool() {
			checkCall(t, "IsDiagonal", impl.IsDiagonal, n, d)
			for _, e := range diagonals(0, 2, 1, 3, 2, 0, math.MinInt, math.MaxInt, math.MaxInt, math.MinInt) {
				checkCall(t, "DoCross", impl.DoCross, n, d, e)
				checkCall(t, "DoCross", impl.DoCross, n, e, d)
			}
		}
	}
}

func TestChapter1TakesAllLists(t *testing.T) {
	for _, ds := range diagonalLists() {
		checkCall(t, "DiagonalsText", impl.DiagonalsText, ds)
		for _, n := range numberPool() {
			checkPolygonCalls(t, n, ds)
		}
	}
	for _, p := range somePolygons() {
		checkPolygonCalls(t, p.n, p.ds)
	}
	for _, p := range badPolygons() {
		checkPolygonCalls(t, p.n, p.ds)
	}
}

func checkPolygonCalls(t *testing.T, n int, ds []impl.Diagonal) {
	t.Helper()
	checkCall(t, "IsTriangulation", impl.IsTriangulation, n, ds)
	checkCall(t, "QuiddityOf", impl.QuiddityOf, n, ds)
	checkCall(t, "TrianglesOf", impl.TrianglesOf, n, ds)
	checkCall(t, "EarsOf", impl.EarsOf, n, ds)
	checkCall(t, "MirrorPolygon", impl.MirrorPolygon, n, ds)
	checkCall(t, "TrianglesBeside", impl.TrianglesBeside, n, ds)
	checkCall(t, "PeriodOfPolygon", impl.PeriodOfPolygon, n, ds)
	for _, k := range numberPool() {
		checkCall(t, "TurnPolygon", impl.TurnPolygon, n, ds, k)
	}
}

func TestChapter1TakesAllQuiddities(t *testing.T) {
	lists := quiddityLists()
	for _, p := range somePolygons() {
		lists = append(lists, quiddityOf(p.n, p.ds))
	}
	for _, quiddity := range lists {
		checkCall(t, "TriangulationOf", impl.TriangulationOf, quiddity)
		checkCall(t, "IsQuiddity", impl.IsQuiddity, quiddity)
		for _, at := range numberPool() {
			checkCall(t, "CutEar", impl.CutEar, quiddity, at)
			checkCall(t, "GlueEar", impl.GlueEar, quiddity, at)
		}
	}
}

func TestChapter1TakesAllTexts(t *testing.T) {
	for _, s := range textPool() {
		checkCall(t, "ParseDiagonals", impl.ParseDiagonals, s)
	}
}
