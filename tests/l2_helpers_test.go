package tests

import (
	"fmt"
	"slices"
	"testing"
)

// The helpers of this file tell entries by triangles alone, without continuants and diamonds.

// around is the corner at which one is after so many steps, also backwards.
func around(n int, steps int) int {
	at := steps
	for at < 0 {
		at += n
	}
	for at >= n {
		at -= n
	}
	return at
}

// entriesFrom has 0 at one corner and 1 at those joined with it; in each other triangle the corner farthest from it has the sum
// of both others.
func entriesFrom(p polygon, from int) []int {
	values := slices.Repeat([]int{-1}, p.n)
	for corner := range p.n {
		if areJoined(p.n, p.ds, from, corner) {
			values[corner] = 1
		}
	}
	values[from] = 0
	for slices.Contains(values, -1) {
		for _, c := range trianglesOf(p.n, p.ds) {
			for k := range c {
				last, a, b := c[k], c[(k+1)%3], c[(k+2)%3]
				if values[last] == -1 && values[a] != -1 && values[b] != -1 {
					values[last] = values[a] + values[b]
				}
			}
		}
	}
	return values
}

// entriesOf has for each corner what entriesFrom has.
func entriesOf(p polygon) [][]int {
	all := make([][]int, p.n)
	for from := range all {
		all[from] = entriesFrom(p, from)
	}
	return all
}

func friezeOf(p polygon) [][]int {
	entries := entriesOf(p)
	var rows [][]int
	for k := 1; k <= p.n-3; k++ {
		row := make([]int, p.n)
		for i := range row {
			row[i] = entries[i][around(p.n, i+k+1)]
		}
		rows = append(rows, row)
	}
	return rows
}

func mirrored(p polygon) polygon {
	return polygon{p.n, moved(p.ds, func(corner int) int { return p.n - 1 - corner })}
}

// turnedLeft begins a list with the number that stood behind its first one.
func turnedLeft(list []int) []int {
	return slices.Concat(list[1:], list[:1])
}

// friezePolygons are those of at least 4 corners.
func friezePolygons() []polygon {
	return slices.DeleteFunc(somePolygons(), func(p polygon) bool { return p.n < 4 })
}

func copyRows(rows [][]int) [][]int {
	var out [][]int
	for _, row := range rows {
		out = append(out, slices.Clone(row))
	}
	return out
}

// widestFrieze is that of the fan of 13 corners, one more than a polygon may have.
func widestFrieze() [][]int {
	return friezeOf(polygon{13, fan(13)})
}

// noFriezes are rows that are no frieze, each for one reason.
func noFriezes() [][][]int {
	return [][][]int{
		nil,
		{},
		{nil},
		{{}},
		{{1}},
		{{1, 1, 1}},
		{{1, 2, 1}},
		{{1, 1, 1, 1}},
		{{2, 2, 2, 2}},
		{{1, 2, 2, 1}},
		{{0, 0, 0, 0}},
		{{-1, -2, -1, -2}},
		{{1, 2, 1, 2, 1}},
		{{1, 2, 1, 2}, nil},
		{{1, 2, 1, 2}, {1, 1, 1, 1}},
		{{1, 1, 1, 1}, {1, 2, 1, 2}},
		{nil, {3, 1, 2, 2, 1}},
		{{3, 1, 2, 2, 1}},
		{{3, 1, 2, 2, 1}, nil},
		{{3, 1, 2, 2, 1}, {2, 1, 3, 1}},
		{{3, 1, 2, 2, 1}, {2, 1, 3, 1, 2, 2}},
		{{3, 1, 2, 2}, {2, 1, 3, 1, 2}},
		{{3, 1, 2, 2, 1, 1}, {2, 1, 3, 1, 2}},
		{{2, 1, 3, 1, 2}, {3, 1, 2, 2, 1}},
		{{3, 1, 2, 2, 1}, {1, 3, 1, 2, 2}},
		{{1, 3, 1, 2, 2}, {2, 1, 3, 1, 2}},
		{{3, 1, 2, 2, 1}, {2, 1, 3, 1, 2}, {1, 1, 1, 1, 1}},
		{{1, 1, 1, 1, 1}, {3, 1, 2, 2, 1}, {2, 1, 3, 1, 2}},
		{{3, 1, 2, 2, 1}, {0, 0, 0, 0, 0}},
		{{2, 2, 2, 2, 2}, {3, 3, 3, 3, 3}},
		{{2, 2, 2, 2, 2, 2}, {3, 3, 3, 3, 3, 3}, {4, 4, 4, 4, 4, 4}},
		{{1, 3, 1, 3, 1, 3}, {2, 2, 2, 2, 2, 2}, {3, 1, 3, 1, 3, 1}},
		{{3, 1, 3, 1, 3, 1}, {2, 2, 2, 2, 2, 2}},
		widestFrieze(),
	}
}

// spoiledFriezes makes of a frieze what is nearly one: with another number, a row turned, missing, twice, or too short or long.
func spoiledFriezes(rows [][]int) [][][]int {
	var all [][][]int
	for k, row := range rows {
		for i := range row {
			for _, change := range []int{-1, 1, 1 << 62} {
				other := copyRows(rows)
				other[k][i] += change
				all = append(all, other)
			}
		}
		short, long := copyRows(rows), copyRows(rows)
		short[k] = row[1:]
		long[k] = append(long[k], row[0])
		all = append(all, short, long, slices.Delete(copyRows(rows), k, k+1), slices.Insert(copyRows(rows), k, row))
		if !slices.Equal(row, turnedLeft(row)) && len(rows) > 1 {
			other := copyRows(rows)
			other[k] = turnedLeft(row)
			all = append(all, other)
		}
	}
	return all
}

// badIndices are beyond all indices that a frieze accepts.
func badIndices() []int {
	pool := slices.DeleteFunc(numberPool(), func(i int) bool { return i >= -1000 && i <= 1000 })
	return append(pool, -1001, 1001)
}

// below is the row that diamonds of determinant one make; it tells whether there is one, too.
func below(above []int, row []int) ([]int, bool) {
	var out []int
	for i := range row {
		next := (i + 1) % len(row)
		found := 0
		for number := 1; number <= 10000 && found == 0; number++ {
			if row[i]*row[next]-number*above[next] == 1 {
				found = number
			}
		}
		if found == 0 {
			return nil, false
		}
		out = append(out, found)
	}
	return out, true
}

func wantFailedNumber(t *testing.T, got int, ok bool, what ...any) {
	t.Helper()
	if got != 0 || ok {
		t.Errorf("%v: got %v, %v, want a failure", fmt.Sprint(what...), got, ok)
	}
}
