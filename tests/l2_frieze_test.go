package tests

import (
	"math"
	"slices"
	"strconv"
	"strings"
	"testing"

	"loop.example/g01236/impl"
)

func TestMaxRows(t *testing.T) {
	want(t, impl.MaxRows, 9, "MaxRows")
}

func TestFriezeOf(t *testing.T) {
	for _, p := range friezePolygons() {
		quiddity := quiddityOf(p.n, p.ds)
		got, ok := impl.FriezeOf(quiddity)
		wantTrue(t, ok, "FriezeOf ", quiddity)
		want(t, got, friezeOf(p), "FriezeOf ", quiddity)
		want(t, len(got), p.n-3, "number of rows of ", quiddity)
		want(t, got[0], turnedLeft(quiddity), "first row of ", quiddity)
	}
}

func TestFriezesThatAreKnown(t *testing.T) {
	known := []struct {
		quiddity []int
		rows     [][]int
	}{
		{[]int{1, 2, 1, 2}, [][]int{{2, 1, 2, 1}}},
		{[]int{2, 1, 2, 1}, [][]int{{1, 2, 1, 2}}},
		{[]int{1, 3, 1, 2, 2}, [][]int{{3, 1, 2, 2, 1}, {2, 1, 3, 1, 2}}},
		{[]int{1, 3, 1, 3, 1, 3}, [][]int{{3, 1, 3, 1, 3, 1}, {2, 2, 2, 2, 2, 2}, {3, 1, 3, 1, 3, 1}}},
	}
	for _, k := range known {
		got, ok := impl.FriezeOf(k.quiddity)
		wantTrue(t, ok, "FriezeOf ", k.quiddity)
		want(t, got, k.rows, "FriezeOf ", k.quiddity)
	}
	twelve, ok := impl.FriezeOf(fanNumbers(12))
	wantTrue(t, ok, "FriezeOf 12 numbers")
	want(t, len(twelve), 9, "rows of 12 numbers")
	want(t, twelve[0], []int{1, 2, 2, 2, 2, 2, 2, 2, 2, 2, 1, 10}, "first row of 12 numbers")
	want(t, twelve[1], []int{1, 3, 3, 3, 3, 3, 3, 3, 3, 1, 9, 9}, "second row of 12 numbers")
	want(t, twelve[8], []int{1, 10, 1, 2, 2, 2, 2, 2, 2, 2, 2, 2}, "last row of 12 numbers")
}

// TestDiamonds holds each number against its neighbours, with ones above the first row and below the last one.
func TestDiamonds(t *testing.T) {
	for _, p := range friezePolygons() {
		rows, _ := impl.FriezeOf(quiddityOf(p.n, p.ds))
		ones := slices.Repeat([]int{1}, p.n)
		rows = slices.Concat([][]int{ones}, rows, [][]int{ones})
		for k := 1; k < len(rows)-1; k++ {
			for i := range p.n {
				next := (i + 1) % p.n
				want(t, rows[k][i]*rows[k][next]-rows[k-1][next]*rows[k+1][i], 1, "diamond of ", p, k, i)
			}
		}
	}
}

func TestChapter2OfNoQuiddities(t *testing.T) {
	for _, list := range badQuiddities() {
		rows, ok := impl.FriezeOf(list)
		wantFailedList(t, rows, ok, "FriezeOf ", list)
		entry, ok := impl.EntryOf(list, 0, 1)
		wantFailedNumber(t, entry, ok, "EntryOf ", list)
		row, ok := impl.RowOfFrieze(list, 1)
		wantFailedList(t, row, ok, "RowOfFrieze ", list)
		diagonal, ok := impl.DiagonalOfFrieze(list, 0)
		wantFailedList(t, diagonal, ok, "DiagonalOfFrieze ", list)
		i, j, ok := impl.GlideOf(list, 0, 1)
		wantFailedNumber(t, i, ok, "GlideOf ", list)
		wantFailedNumber(t, j, ok, "GlideOf ", list)
		count, ok := impl.CountEntries(list, 1)
		wantFailedNumber(t, count, ok, "CountEntries ", list)
		greatest, ok := impl.GreatestEntry(list)
		wantFailedNumber(t, greatest, ok, "GreatestEntry ", list)
		ones, ok := impl.OnesOf(list)
		wantFailedList(t, ones, ok, "OnesOf ", list)
	}
}

// TestChapter2OfThreeNumbers tells that the triangle has no rows, but entries, diagonals of the frieze and ones.
func TestChapter2OfThreeNumbers(t *testing.T) {
	three := []int{1, 1, 1}
	rows, ok := impl.FriezeOf(three)
	wantFailedList(t, rows, ok, "FriezeOf the triangle")
	for k := -1; k <= 2; k++ {
		row, ok := impl.RowOfFrieze(three, k)
		wantFailedList(t, row, ok, "RowOfFrieze of the triangle ", k)
	}
	count, ok := impl.CountEntries(three, 1)
	wantFailedNumber(t, count, ok, "CountEntries of the triangle")
	greatest, ok := impl.GreatestEntry(three)
	wantFailedNumber(t, greatest, ok, "GreatestEntry of the triangle")
	for j, expected := range []int{0, 1, 1, 0} {
		entry, ok := impl.EntryOf(three, 0, j)
		wantTrue(t, ok, "EntryOf the triangle ", j)
		want(t, entry, expected, "EntryOf the triangle ", j)
	}
	diagonal, ok := impl.DiagonalOfFrieze(three, -7)
	wantTrue(t, ok, "DiagonalOfFrieze of the triangle")
	want(t, diagonal, []int{1, 1}, "DiagonalOfFrieze of the triangle")
	i, j, ok := impl.GlideOf(three, 1, 3)
	wantTrue(t, ok, "GlideOf of the triangle")
	want(t, []int{i, j}, []int{0, 1}, "GlideOf of the triangle")
	ones, ok := impl.OnesOf(three)
	wantTrue(t, ok, "OnesOf the triangle")
	want(t, len(ones), 0, "OnesOf the triangle")
}

// someIndices has both ends of all indices, and those about 0.
func someIndices(n int) []int {
	indices := []int{-1000, -999, -500, 500, 999, 1000}
	for i := -n - 1; i <= n+1; i++ {
		indices = append(indices, i)
	}
	return indices
}

func TestEntryOf(t *testing.T) {
	for _, p := range somePolygons() {
		quiddity := quiddityOf(p.n, p.ds)
		entries := entriesOf(p)
		for _, i := range someIndices(p.n) {
			for j := i; j <= i+p.n; j++ {
				got, ok := impl.EntryOf(quiddity, i, j)
				wantTrue(t, ok, "EntryOf ", quiddity, i, j)
				want(t, got, entries[around(p.n, i)][around(p.n, j)], "EntryOf ", quiddity, i, j)
			}
			for _, j := range []int{math.MinInt, i - p.n, i - 1, i + p.n + 1, i + 2*p.n, math.MaxInt} {
				got, ok := impl.EntryOf(quiddity, i, j)
				wantFailedNumber(t, got, ok, "EntryOf ", quiddity, i, j)
			}
		}
		for _, i := range badIndices() {
			for _, j := range []int{i, i + 1, i + p.n, 0, 1000} {
				got, ok := impl.EntryOf(quiddity, i, j)
				wantFailedNumber(t, got, ok, "EntryOf ", quiddity, i, j)
			}
		}
	}
}

// TestEntriesAreAsTold tells entries by the rule of the document alone.
func TestEntriesAreAsTold(t *testing.T) {
	for _, p := range somePolygons() {
		n, quiddity := p.n, quiddityOf(p.n, p.ds)
		entry := func(i int, j int) int {
			got, ok := impl.EntryOf(quiddity, i, j)
			wantTrue(t, ok, "EntryOf ", quiddity, i, j)
			return got
		}
		for _, i := range []int{-1000, -n, -1, 0, 1, n, 999} {
			want(t, []int{entry(i, i), entry(i, i+n)}, []int{0, 0}, "zeros of ", quiddity, i)
			want(t, []int{entry(i, i+1), entry(i, i+n-1)}, []int{1, 1}, "ones of ", quiddity, i)
			want(t, entry(i, i+2), quiddity[around(n, i+1)], "first row of ", quiddity, i)
			for j := i + 1; j < i+n; j++ {
				diamond := entry(i, j)*entry(i+1, j+1) - entry(i+1, j)*entry(i, j+1)
				want(t, diamond, 1, "diamond of ", quiddity, i, j)
			}
		}
	}
}

func TestEntriesThatAreKnown(t *testing.T) {
	known := []struct{ i, j, entry int }{
		{0, 0, 0}, {0, 1, 1}, {0, 2, 3}, {0, 3, 2}, {0, 4, 1}, {0, 5, 0},
		{-1, 1, 1}, {-2, 1, 1}, {-3, -1, 2}, {-3, 0, 3}, {1, 4, 1}, {2, 5, 3}, {1000, 1002, 3}, {-1000, -997, 2}, {1000, 1005, 0},
	}
	for _, k := range known {
		got, ok := impl.EntryOf([]int{1, 3, 1, 2, 2}, k.i, k.j)
		wantTrue(t, ok, "EntryOf ", k.i, k.j)
		want(t, got, k.entry, "EntryOf ", k.i, k.j)
	}
}

func TestRowOfFrieze(t *testing.T) {
	for _, p := range friezePolygons() {
		quiddity := quiddityOf(p.n, p.ds)
		for k, row := range friezeOf(p) {
			got, ok := impl.RowOfFrieze(quiddity, k+1)
			wantTrue(t, ok, "RowOfFrieze ", quiddity, k+1)
			want(t, got, row, "RowOfFrieze ", quiddity, k+1)
		}
		for _, k := range []int{math.MinInt, -1, 0, p.n - 2, p.n - 1, p.n, math.MaxInt} {
			got, ok := impl.RowOfFrieze(quiddity, k)
			wantFailedList(t, got, ok, "RowOfFrieze ", quiddity, k)
		}
	}
}

func TestDiagonalOfFrieze(t *testing.T) {
	for _, p := range somePolygons() {
		quiddity := quiddityOf(p.n, p.ds)
		entries := entriesOf(p)
		for _, i := range someIndices(p.n) {
			var expected []int
			for j := i + 1; j < i+p.n; j++ {
				expected = append(expected, entries[around(p.n, i)][around(p.n, j)])
			}
			got, ok := impl.DiagonalOfFrieze(quiddity, i)
			wantTrue(t, ok, "DiagonalOfFrieze ", quiddity, i)
			want(t, got, expected, "DiagonalOfFrieze ", quiddity, i)
			want(t, []int{got[0], got[p.n-2]}, []int{1, 1}, "ends of DiagonalOfFrieze ", quiddity, i)
		}
		for _, i := range badIndices() {
			got, ok := impl.DiagonalOfFrieze(quiddity, i)
			wantFailedList(t, got, ok, "DiagonalOfFrieze ", quiddity, i)
		}
	}
}

func TestGlideOf(t *testing.T) {
	for _, p := range somePolygons() {
		quiddity := quiddityOf(p.n, p.ds)
		for _, i := range someIndices(p.n) {
			for j := i; j <= i+p.n; j++ {
				first, second, ok := impl.GlideOf(quiddity, i, j)
				wantTrue(t, ok, "GlideOf ", quiddity, i, j)
				want(t, first, around(p.n, j), "first of GlideOf ", quiddity, i, j)
				want(t, second, first+p.n-(j-i), "second of GlideOf ", quiddity, i, j)
				entry, _ := impl.EntryOf(quiddity, i, j)
				again, ok := impl.EntryOf(quiddity, first, second)
				wantTrue(t, ok, "EntryOf where GlideOf leads ", quiddity, i, j)
				want(t, again, entry, "EntryOf where GlideOf leads ", quiddity, i, j)
			}
			for _, j := range []int{math.MinInt, i - p.n, i - 1, i + p.n + 1, math.MaxInt} {
				wantNoGlide(t, quiddity, i, j)
			}
		}
		for _, i := range badIndices() {
			for _, j := range []int{i, i + 1, i + p.n, 0, 1000} {
				wantNoGlide(t, quiddity, i, j)
			}
		}
	}
}

func wantNoGlide(t *testing.T, quiddity []int, i int, j int) {
	t.Helper()
	first, second, ok := impl.GlideOf(quiddity, i, j)
	wantFailedNumber(t, first, ok, "GlideOf ", quiddity, i, j)
	wantFailedNumber(t, second, ok, "GlideOf ", quiddity, i, j)
}

func TestGlidesThatAreKnown(t *testing.T) {
	known := [][4]int{{0, 2, 2, 5}, {1, 4, 4, 6}, {0, 0, 0, 5}, {0, 5, 0, 0}, {3, 8, 3, 3}, {-1, 1, 1, 4}, {-3, -1, 4, 7}, {-1000, -998, 2, 5}, {1000, 1004, 4, 5}, {999, 1001, 1, 4}}
	for _, k := range known {
		first, second, ok := impl.GlideOf([]int{1, 3, 1, 2, 2}, k[0], k[1])
		wantTrue(t, ok, "GlideOf ", k[0], k[1])
		want(t, []int{first, second}, []int{k[2], k[3]}, "GlideOf ", k[0], k[1])
	}
}

func TestEntriesComeAgain(t *testing.T) {
	for _, p := range somePolygons() {
		n, quiddity := p.n, quiddityOf(p.n, p.ds)
		for i := -n; i <= n; i++ {
			for j := i; j <= i+n; j++ {
				entry, _ := impl.EntryOf(quiddity, i, j)
				further, _ := impl.EntryOf(quiddity, i+n, j+n)
				glided, _ := impl.EntryOf(quiddity, j, i+n)
				want(t, []int{further, glided}, []int{entry, entry}, "entry that comes again ", quiddity, i, j)
			}
		}
	}
}

func TestIsFrieze(t *testing.T) {
	for _, p := range friezePolygons() {
		rows := friezeOf(p)
		want(t, impl.IsFrieze(rows), true, "IsFrieze ", rows)
		for range p.n {
			for k := range rows {
				rows[k] = turnedLeft(rows[k])
			}
			want(t, impl.IsFrieze(rows), true, "IsFrieze turned ", rows)
		}
		for _, bad := range spoiledFriezes(rows) {
			wantNoFrieze(t, bad)
		}
	}
	for _, rows := range noFriezes() {
		wantNoFrieze(t, rows)
	}
}

func wantNoFrieze(t *testing.T, rows [][]int) {
	t.Helper()
	want(t, impl.IsFrieze(rows), false, "IsFrieze ", rows)
	quiddity, ok := impl.QuiddityOfFrieze(rows)
	wantFailedList(t, quiddity, ok, "QuiddityOfFrieze ", rows)
	mirror, ok := impl.MirrorFrieze(rows)
	wantFailedList(t, mirror, ok, "MirrorFrieze ", rows)
	text, ok := impl.FriezeText(rows)
	if text != "" || ok {
		t.Errorf("FriezeText %v: got %q, %v, want a failure", rows, text, ok)
	}
}

// TestIsFriezeOfAnyNumbers puts numbers of any size everywhere, also where products of them wrap around.
func TestIsFriezeOfAnyNumbers(t *testing.T) {
	for _, number := range numberPool() {
		for n := 1; n <= 14; n++ {
			rows := make([][]int, max(n-3, 1))
			for k := range rows {
				rows[k] = slices.Repeat([]int{number}, n)
			}
			wantNoFrieze(t, rows)
		}
		for _, p := range []polygon{{4, fan(4)}, {5, fan(5)}, {12, fan(12)}} {
			rows := friezeOf(p)
			row := rows[len(rows)-1]
			row[1] = number
			want(t, impl.IsFrieze(rows), number == p.n-2, "IsFrieze ", rows)
		}
	}
}

// TestIsFriezeOfOneRow tries all rows of four numbers.
func TestIsFriezeOfOneRow(t *testing.T) {
	for code := range 6 * 6 * 6 * 6 {
		row := []int{code%6 - 1, code/6%6 - 1, code/36%6 - 1, code/216 - 1}
		expected := slices.Equal(row, []int{1, 2, 1, 2}) || slices.Equal(row, []int{2, 1, 2, 1})
		want(t, impl.IsFrieze([][]int{row}), expected, "IsFrieze ", row)
	}
}

func TestQuiddityOfFrieze(t *testing.T) {
	for _, p := range friezePolygons() {
		rows := friezeOf(p)
		got, ok := impl.QuiddityOfFrieze(rows)
		wantTrue(t, ok, "QuiddityOfFrieze ", rows)
		want(t, got, quiddityOf(p.n, p.ds), "QuiddityOfFrieze ", rows)
	}
	square, ok := impl.QuiddityOfFrieze([][]int{{2, 1, 2, 1}})
	wantTrue(t, ok, "QuiddityOfFrieze of one row")
	want(t, square, []int{1, 2, 1, 2}, "QuiddityOfFrieze of one row")
}

func TestNextRowOfFriezes(t *testing.T) {
	for _, p := range friezePolygons() {
		rows := friezeOf(p)
		ones := slices.Repeat([]int{1}, p.n)
		rows = slices.Concat([][]int{ones}, rows, [][]int{ones})
		for k := 2; k < len(rows); k++ {
			got, ok := impl.NextRow(rows[k-2], rows[k-1])
			wantTrue(t, ok, "NextRow ", rows[k-2], rows[k-1])
			want(t, got, rows[k], "NextRow ", rows[k-2], rows[k-1])
		}
		last, ok := impl.NextRow(rows[len(rows)-2], ones)
		wantFailedList(t, last, ok, "NextRow below the ones of ", p)
	}
}

// TestNextRowOfAllRows tries all rows of three numbers in 1..4.
func TestNextRowOfAllRows(t *testing.T) {
	var rows [][]int
	for code := range 64 {
		rows = append(rows, []int{code%4 + 1, code/4%4 + 1, code/16 + 1})
	}
	for _, above := range rows {
		for _, row := range rows {
			expected, exists := below(above, row)
			got, ok := impl.NextRow(above, row)
			want(t, ok, exists, "NextRow ", above, row)
			want(t, got, expected, "NextRow ", above, row)
		}
	}
}

func TestNextRowAtItsLimits(t *testing.T) {
	known := []struct{ above, row, next []int }{
		{[]int{1, 1, 1}, []int{73, 137, 73}, []int{10000, 10000, 5328}},
		{[]int{1, 1, 1}, []int{6, 1667, 6}, nil},
		{[]int{1, 1, 1}, []int{1667, 6, 6}, nil},
		{[]int{7, 1, 1}, []int{10000, 1, 2}, []int{9999, 1, 2857}},
		{[]int{1, 10000, 1}, []int{73, 137, 1}, []int{1, 136, 72}},
		{[]int{1, 10001, 1}, []int{10000, 10000, 1}, nil},
		{[]int{3, 1, 1}, []int{10001, 1, 2}, nil},
		{[]int{9999, 1, 1}, []int{10000, 1, 10000}, nil},
		{[]int{1, 9999, 1}, []int{10000, 10000, 1}, nil},
		{[]int{1, 1, 1}, []int{1, 1, 2}, nil},
		{[]int{1, 1, 1}, []int{2, 1, 1}, nil},
		{[]int{1, 1, 1}, []int{1, 2, 1}, nil},
		{[]int{1, 2, 1}, []int{3, 2, 2}, nil},
		{[]int{1, 5, 1}, []int{3, 2, 2}, []int{1, 3, 5}},
		{[]int{3, 1, 1}, []int{3, 2, 2}, nil},
		{[]int{1, 1, 3}, []int{3, 2, 2}, []int{5, 1, 5}},
	}
	for _, k := range known {
		got, ok := impl.NextRow(k.above, k.row)
		want(t, ok, k.next != nil, "NextRow ", k.above, k.row)
		want(t, got, k.next, "NextRow ", k.above, k.row)
	}
}

func TestNextRowOfBadRows(t *testing.T) {
	for n := 0; n <= 14; n++ {
		for m := 0; m <= 14; m++ {
			above, row := slices.Repeat([]int{1}, n), slices.Repeat([]int{2}, m)
			got, ok := impl.NextRow(above, row)
			if n != m || n < 3 || n > 12 {
				wantFailedList(t, got, ok, "NextRow ", above, row)
				continue
			}
			wantTrue(t, ok, "NextRow ", above, row)
			want(t, got, slices.Repeat([]int{3}, n), "NextRow ", above, row)
		}
	}
	for _, bad := range []int{math.MinInt, math.MinInt + 1, -10000, -1, 0, 10001, math.MaxInt} {
		for i := range 3 {
			wrong := []int{1, 1, 1}
			wrong[i] = bad
			first, ok := impl.NextRow(wrong, []int{2, 2, 2})
			wantFailedList(t, first, ok, "NextRow ", wrong)
			second, ok := impl.NextRow([]int{1, 1, 1}, wrong)
			wantFailedList(t, second, ok, "NextRow below ", wrong)
		}
		got, ok := impl.NextRow([]int{1, 1, 1}, slices.Repeat([]int{bad}, 3))
		wantFailedList(t, got, ok, "NextRow below three ", bad)
	}
}

func TestCountEntries(t *testing.T) {
	for _, p := range friezePolygons() {
		quiddity := quiddityOf(p.n, p.ds)
		counts := map[int]int{}
		for _, entry := range slices.Concat(friezeOf(p)...) {
			counts[entry]++
		}
		want(t, counts[1], 2*(p.n-3), "ones of ", p)
		for value := 1; value <= 150; value++ {
			got, ok := impl.CountEntries(quiddity, value)
			wantTrue(t, ok, "CountEntries ", quiddity, value)
			want(t, got, counts[value], "CountEntries ", quiddity, value)
		}
		none, ok := impl.CountEntries(quiddity, math.MaxInt)
		wantTrue(t, ok, "CountEntries ", quiddity, math.MaxInt)
		want(t, none, 0, "CountEntries ", quiddity, math.MaxInt)
		for _, value := range []int{math.MinInt, -2, -1, 0} {
			got, ok := impl.CountEntries(quiddity, value)
			wantFailedNumber(t, got, ok, "CountEntries ", quiddity, value)
		}
	}
	square, _ := impl.CountEntries([]int{1, 2, 1, 2}, 2)
	want(t, square, 2, "CountEntries of one row")
}

func TestGreatestEntry(t *testing.T) {
	for _, p := range friezePolygons() {
		quiddity := quiddityOf(p.n, p.ds)
		got, ok := impl.GreatestEntry(quiddity)
		wantTrue(t, ok, "GreatestEntry ", quiddity)
		want(t, got, slices.Max(slices.Concat(friezeOf(p)...)), "GreatestEntry ", quiddity)
	}
	square, _ := impl.GreatestEntry([]int{1, 2, 1, 2})
	want(t, square, 2, "GreatestEntry of one row")
	twelve, _ := impl.GreatestEntry(fanNumbers(12))
	want(t, twelve, 10, "GreatestEntry of the fan of 12")
	zigzag, _ := impl.GreatestEntry([]int{1, 3, 3, 3, 3, 2, 1, 3, 3, 3, 3, 2})
	want(t, zigzag, 89, "GreatestEntry of the zigzag of 12")
}

func TestOnesOf(t *testing.T) {
	for _, p := range somePolygons() {
		quiddity := quiddityOf(p.n, p.ds)
		got, ok := impl.OnesOf(quiddity)
		wantTrue(t, ok, "OnesOf ", quiddity)
		want(t, got, p.ds, "OnesOf ", quiddity)
	}
}

// extended is the row k below a row, by the rule of diamonds; it tells whether there is one, too.
func extended(row []int, k int) ([]int, bool) {
	above, ok := slices.Repeat([]int{1}, len(row)), true
	for at := 1; at < k && ok; at++ {
		next, exists := below(above, row)
		above, row, ok = row, next, exists
	}
	return row, ok
}

func TestExtendFriezeOfQuiddities(t *testing.T) {
	for _, p := range friezePolygons() {
		rows := append(friezeOf(p), slices.Repeat([]int{1}, p.n))
		for k := 1; k <= 9; k++ {
			got, ok := impl.ExtendFrieze(rows[0], k)
			if k > len(rows) {
				wantFailedList(t, got, ok, "ExtendFrieze ", rows[0], k)
				continue
			}
			wantTrue(t, ok, "ExtendFrieze ", rows[0], k)
			want(t, got, rows[k-1], "ExtendFrieze ", rows[0], k)
		}
	}
}

func TestExtendFriezeOfOtherRows(t *testing.T) {
	rows := [][]int{{5, 5, 5}, {4, 4, 4, 4}, {100, 1, 2}, {2, 3, 5}, {1, 1, 1}, {1, 1, 2}, {3, 1, 1, 3}, {2, 2, 3, 2, 2}, {1, 4, 2}, {1, 5, 1, 5}}
	for n := 3; n <= 12; n++ {
		rows = append(rows, slices.Repeat([]int{2}, n), slices.Repeat([]int{3}, n), slices.Repeat([]int{1, 3}, n)[:n], slices.Repeat([]int{1, 4}, n)[:n])
	}
	for _, row := range rows {
		for k := 1; k <= 9; k++ {
			expected, exists := extended(row, k)
			got, ok := impl.ExtendFrieze(row, k)
			want(t, ok, exists, "ExtendFrieze ", row, k)
			want(t, got, expected, "ExtendFrieze ", row, k)
		}
	}
}

func TestExtendFriezeAtItsLimits(t *testing.T) {
	twos := []int{2, 2, 2}
	for k := -2; k <= 12; k++ {
		got, ok := impl.ExtendFrieze(twos, k)
		if k < 1 || k > 9 {
			wantFailedList(t, got, ok, "ExtendFrieze ", twos, k)
			continue
		}
		wantTrue(t, ok, "ExtendFrieze ", twos, k)
		want(t, got, slices.Repeat([]int{k + 1}, 3), "ExtendFrieze ", twos, k)
	}
	for _, k := range []int{math.MinInt, math.MaxInt} {
		got, ok := impl.ExtendFrieze(twos, k)
		wantFailedList(t, got, ok, "ExtendFrieze ", twos, k)
	}
	hundreds := []int{100, 100, 100}
	second, ok := impl.ExtendFrieze(hundreds, 2)
	wantTrue(t, ok, "ExtendFrieze ", hundreds)
	want(t, second, []int{9999, 9999, 9999}, "ExtendFrieze ", hundreds)
	third, ok := impl.ExtendFrieze(hundreds, 3)
	wantFailedList(t, third, ok, "ExtendFrieze ", hundreds, 3)
	none, ok := impl.ExtendFrieze([]int{1, 1, 1}, 2)
	wantFailedList(t, none, ok, "ExtendFrieze below ones")
}

// rowsOfNoFrieze are no rows from which a frieze may be begun.
func rowsOfNoFrieze() [][]int {
	rows := [][]int{
		nil, {}, {1}, {1, 1}, {1, 2}, slices.Repeat([]int{1}, 13), slices.Repeat([]int{2}, 13), slices.Repeat([]int{1}, 5000),
	}
	for _, bad := range []int{math.MinInt, -1, 0, 101, 10000, math.MaxInt} {
		rows = append(rows, []int{bad, 1, 1}, []int{2, bad, 2}, []int{1, 2, 1, bad}, slices.Repeat([]int{bad}, 3), slices.Repeat([]int{bad}, 12))
	}
	return rows
}

func TestRowsFromWhichNoneIsMade(t *testing.T) {
	for _, row := range rowsOfNoFrieze() {
		for k := 1; k <= 3; k++ {
			got, ok := impl.ExtendFrieze(row, k)
			wantFailedList(t, got, ok, "ExtendFrieze ", row, k)
		}
		at, ok := impl.ClosesAt(row)
		wantFailedNumber(t, at, ok, "ClosesAt ", row)
	}
}

func TestClosesAt(t *testing.T) {
	for _, p := range somePolygons() {
		quiddity := quiddityOf(p.n, p.ds)
		got, ok := impl.ClosesAt(quiddity)
		if p.n == 12 {
			wantFailedNumber(t, got, ok, "ClosesAt ", quiddity)
			continue
		}
		wantTrue(t, ok, "ClosesAt ", quiddity)
		want(t, got, p.n-2, "ClosesAt ", quiddity)
	}
}

func TestClosesAtThatAreKnown(t *testing.T) {
	known := []struct {
		row []int
		at  int
	}{
		{[]int{1, 1, 1}, 1},
		{slices.Repeat([]int{1}, 4), 1},
		{slices.Repeat([]int{1}, 12), 1},
		{slices.Repeat([]int{1, 2}, 6), 2},
		{[]int{1, 2, 2, 1, 3}, 3},
		{slices.Repeat([]int{1, 2, 2, 1, 3}, 2), 3},
		{[]int{1, 3, 1, 3}, 4},
		{slices.Repeat([]int{1, 3}, 6), 4},
		{[]int{1, 2, 3, 1, 2, 3, 1, 2, 3}, 4},
		{[]int{1, 2, 3}, 4},
		{fanNumbers(11), 9},
	}
	for _, k := range known {
		got, ok := impl.ClosesAt(k.row)
		wantTrue(t, ok, "ClosesAt ", k.row)
		want(t, got, k.at, "ClosesAt ", k.row)
	}
	for _, row := range [][]int{{2, 2, 2}, {1, 1, 2}, {5, 5, 5}, {100, 100, 100}, {1, 2, 2, 2}, {1, 1, 1, 2}, slices.Repeat([]int{2}, 12), fanNumbers(12)} {
		got, ok := impl.ClosesAt(row)
		wantFailedNumber(t, got, ok, "ClosesAt ", row)
	}
}

func TestFriezeOfDiagonal(t *testing.T) {
	for _, p := range friezePolygons() {
		diagonal := entriesFrom(p, 0)[1:]
		got, ok := impl.FriezeOfDiagonal(diagonal)
		wantTrue(t, ok, "FriezeOfDiagonal ", diagonal)
		want(t, got, quiddityOf(p.n, p.ds), "FriezeOfDiagonal ", diagonal)
		for i := range diagonal {
			for _, change := range []int{-diagonal[i], 1 << 62, math.MinInt} {
				other := slices.Clone(diagonal)
				other[i] += change
				list, ok := impl.FriezeOfDiagonal(other)
				wantFailedList(t, list, ok, "FriezeOfDiagonal ", other)
			}
		}
	}
	square, ok := impl.FriezeOfDiagonal([]int{1, 2, 1})
	wantTrue(t, ok, "FriezeOfDiagonal of three numbers")
	want(t, square, []int{1, 2, 1, 2}, "FriezeOfDiagonal of three numbers")
	longest := []int{1, 10, 9, 8, 7, 6, 5, 4, 3, 2, 1}
	quiddity, ok := impl.FriezeOfDiagonal(longest)
	wantTrue(t, ok, "FriezeOfDiagonal ", longest)
	want(t, quiddity, []int{1, 10, 1, 2, 2, 2, 2, 2, 2, 2, 2, 2}, "FriezeOfDiagonal ", longest)
}

// TestFriezeOfDiagonalOfAllLists tries all lists of 3..5 numbers in -1..5.
func TestFriezeOfDiagonalOfAllLists(t *testing.T) {
	for n := 4; n <= 6; n++ {
		told := map[string][]int{}
		for _, ds := range triangulationsOf(n) {
			p := polygon{n, ds}
			told[numbersText(entriesFrom(p, 0)[1:])] = quiddityOf(n, ds)
		}
		list := slices.Repeat([]int{-1}, n-1)
		for {
			quiddity, exists := told[numbersText(list)]
			got, ok := impl.FriezeOfDiagonal(list)
			want(t, ok, exists, "FriezeOfDiagonal ", list)
			want(t, got, quiddity, "FriezeOfDiagonal ", list)
			at := 0
			for at < n-1 && list[at] == 5 {
				list[at] = -1
				at++
			}
			if at == n-1 {
				break
			}
			list[at]++
		}
	}
}

func TestFriezeOfDiagonalOfBadLists(t *testing.T) {
	lists := [][]int{
		nil, {}, {1}, {1, 1}, {0, 0, 0}, {1, 1, 1, 2}, {1, 3, 1}, {2, 2, 2}, {1, 3, 3, 1}, {-1, -2, -1}, {1, 2, 0, 2, 1},
		{1, math.MaxInt, 1}, {math.MaxInt, math.MaxInt, math.MaxInt}, {math.MinInt, -1, math.MinInt}, {1, 2, math.MinInt},
		{1, 11, 10, 9, 8, 7, 6, 5, 4, 3, 2, 1}, slices.Repeat([]int{1}, 12), slices.Repeat([]int{1}, 5000),
	}
	for _, list := range lists {
		got, ok := impl.FriezeOfDiagonal(list)
		wantFailedList(t, got, ok, "FriezeOfDiagonal ", list)
	}
}

func TestMirrorFrieze(t *testing.T) {
	for _, p := range friezePolygons() {
		rows := friezeOf(p)
		got, ok := impl.MirrorFrieze(rows)
		wantTrue(t, ok, "MirrorFrieze ", rows)
		want(t, got, friezeOf(mirrored(p)), "MirrorFrieze ", rows)
		back, ok := impl.MirrorFrieze(got)
		wantTrue(t, ok, "MirrorFrieze twice ", rows)
		want(t, back, rows, "MirrorFrieze twice ", rows)
	}
	square, ok := impl.MirrorFrieze([][]int{{2, 1, 2, 1}})
	wantTrue(t, ok, "MirrorFrieze of one row")
	want(t, square, [][]int{{1, 2, 1, 2}}, "MirrorFrieze of one row")
	five, ok := impl.MirrorFrieze([][]int{{3, 1, 2, 2, 1}, {2, 1, 3, 1, 2}})
	wantTrue(t, ok, "MirrorFrieze of five corners")
	want(t, five, [][]int{{2, 1, 3, 1, 2}, {1, 2, 2, 1, 3}}, "MirrorFrieze of five corners")
}

func numbersText(list []int) string {
	var words []string
	for _, number := range list {
		words = append(words, strconv.Itoa(number))
	}
	return strings.Join(words, ",")
}

func TestFriezeText(t *testing.T) {
	for _, p := range friezePolygons() {
		rows := friezeOf(p)
		var texts []string
		for _, row := range rows {
			texts = append(texts, numbersText(row))
		}
		got, ok := impl.FriezeText(rows)
		wantTrue(t, ok, "FriezeText ", rows)
		want(t, got, strings.Join(texts, "/"), "FriezeText ", rows)
	}
	one, ok := impl.FriezeText([][]int{{2, 1, 2, 1}})
	wantTrue(t, ok, "FriezeText of one row")
	want(t, one, "2,1,2,1", "FriezeText of one row")
	hexagon, ok := impl.FriezeText([][]int{{3, 1, 3, 1, 3, 1}, {2, 2, 2, 2, 2, 2}, {3, 1, 3, 1, 3, 1}})
	wantTrue(t, ok, "FriezeText of a hexagon")
	want(t, hexagon, "3,1,3,1,3,1/2,2,2,2,2,2/3,1,3,1,3,1", "FriezeText of a hexagon")
}

func TestExamplesOfChapter2(t *testing.T) {
	quiddity := []int{1, 3, 1, 2, 2}
	rows, _ := impl.FriezeOf(quiddity)
	text, _ := impl.FriezeText(rows)
	want(t, text, "3,1,2,2,1/2,1,3,1,2", "FriezeText of five corners")
	entry, _ := impl.EntryOf(quiddity, 0, 3)
	want(t, entry, 2, "EntryOf 0 and 3")
	diagonal, _ := impl.DiagonalOfFrieze(quiddity, 0)
	want(t, diagonal, []int{1, 3, 2, 1}, "DiagonalOfFrieze of 0")
	ones, _ := impl.OnesOf(quiddity)
	want(t, ones, diagonals(1, 3, 1, 4), "OnesOf five corners")
	at, _ := impl.ClosesAt([]int{1, 2, 2, 1, 3})
	want(t, at, 3, "ClosesAt 1, 2, 2, 1, 3")
	second, _ := impl.ExtendFrieze([]int{2, 2, 2}, 2)
	third, _ := impl.ExtendFrieze([]int{2, 2, 2}, 3)
	want(t, [][]int{second, third}, [][]int{{3, 3, 3}, {4, 4, 4}}, "ExtendFrieze 2, 2, 2")
	_, closes := impl.ClosesAt([]int{2, 2, 2})
	want(t, closes, false, "ClosesAt 2, 2, 2")
}
