package tests

import (
	"math"
	"slices"
	"testing"

	"loop.example/g01236/impl"
)

// rowLists are lists of numbers that may stand in a row, and others of any size and sign.
func rowLists() [][]int {
	lists := append(quiddityLists(), rowsOfNoFrieze()...)
	for n := 1; n <= 14; n++ {
		for _, number := range numberPool() {
			lists = append(lists, slices.Repeat([]int{number}, n))
		}
	}
	for _, p := range widePolygons() {
		lists = append(lists, quiddityOf(p.n, p.ds), entriesFrom(p, 0)[1:])
	}
	return lists
}

// listsOfRows are nil, long or of unequal lengths, and friezes among them.
func listsOfRows() [][][]int {
	lists := append(noFriezes(), rowLists(), slices.Repeat([][]int{nil}, 5000), slices.Repeat([][]int{{1, 2, 1, 2}}, 5000))
	for n := range 14 {
		lists = append(lists, make([][]int, n), slices.Repeat([][]int{numberPool()}, n), slices.Repeat([][]int{make([]int, 5000)}, n))
		for _, number := range []int{math.MinInt, -1, 0, 1, 2, math.MaxInt} {
			lists = append(lists, slices.Repeat([][]int{slices.Repeat([]int{number}, n)}, max(n-3, 0)))
		}
	}
	for _, p := range somePolygons() {
		rows := friezeOf(p)
		lists = append(lists, rows)
		if len(rows) > 1 {
			lists = append(lists, rows[1:], append(copyRows(rows), nil), append(copyRows(rows), rows[0]))
		}
	}
	return lists
}

func TestChapter2TakesAllQuiddities(t *testing.T) {
	lists := quiddityLists()
	for _, p := range somePolygons() {
		lists = append(lists, quiddityOf(p.n, p.ds))
	}
	for _, quiddity := range lists {
		checkCall(t, "FriezeOf", impl.FriezeOf, quiddity)
		checkCall(t, "GreatestEntry", impl.GreatestEntry, quiddity)
		checkCall(t, "OnesOf", impl.OnesOf, quiddity)
		for _, number := range numberPool() {
			checkCall(t, "RowOfFrieze", impl.RowOfFrieze, quiddity, number)
			checkCall(t, "DiagonalOfFrieze", impl.DiagonalOfFrieze, quiddity, number)
			checkCall(t, "CountEntries", impl.CountEntries, quiddity, number)
		}
	}
}

func TestChapter2TakesAllIndices(t *testing.T) {
	lists := [][]int{nil, numberPool(), {1, 1, 1}, {1, 2, 1, 2}, {1, 3, 1, 2, 2}, {2, 2, 1, 1}, fanNumbers(12), fanNumbers(13)}
	pool := append(numberPool(), -1001, -1000, -999, 999, 1001, 1012, 1013)
	for _, quiddity := range lists {
		for _, i := range pool {
			for _, j := range pool {
				checkCall(t, "EntryOf", impl.EntryOf, quiddity, i, j)
				checkCall(t, "GlideOf", impl.GlideOf, quiddity, i, j)
			}
		}
	}
}

func TestChapter2TakesAllRows(t *testing.T) {
	for _, row := range rowLists() {
		checkCall(t, "ClosesAt", impl.ClosesAt, row)
		checkCall(t, "FriezeOfDiagonal", impl.FriezeOfDiagonal, row)
		for _, k := range numberPool() {
			checkCall(t, "ExtendFrieze", impl.ExtendFrieze, row, k)
		}
		for _, other := range [][]int{nil, row, numberPool(), {1, 1, 1}, {0, 0, 0}, {0, -1, 0, -1}, slices.Repeat([]int{1}, 12), slices.Repeat([]int{-1}, len(row)), make([]int, len(row))} {
			checkCall(t, "NextRow", impl.NextRow, row, other)
			checkCall(t, "NextRow", impl.NextRow, other, row)
		}
	}
}

func TestChapter2TakesAllListsOfRows(t *testing.T) {
	for _, rows := range listsOfRows() {
		checkCall(t, "IsFrieze", impl.IsFrieze, rows)
		checkCall(t, "QuiddityOfFrieze", impl.QuiddityOfFrieze, rows)
		checkCall(t, "MirrorFrieze", impl.MirrorFrieze, rows)
		checkCall(t, "FriezeText", impl.FriezeText, rows)
	}
}
