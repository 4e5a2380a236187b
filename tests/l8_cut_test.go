package tests

import (
	"math"
	"slices"
	"testing"

	"loop.example/g01236/impl"
)

func TestLimitOfChapter8(t *testing.T) {
	want(t, impl.MaxCutCorners, 8, "MaxCutCorners")
}

func TestIsCutOfAllChoices(t *testing.T) {
	for n := 3; n <= 6; n++ {
		all := diagonalsOf(n)
		for choice := range 1 << len(all) {
			var ds []impl.Diagonal
			for i, d := range all {
				if choice>>i&1 == 1 {
					ds = append(ds, d)
				}
			}
			want(t, impl.IsCut(n, ds), !anyCross(n, ds), "IsCut ", n, ds)
		}
	}
}

func TestIsCutOfAllPairs(t *testing.T) {
	for n := 4; n <= 12; n++ {
		for _, d := range diagonalsOf(n) {
			for _, e := range diagonalsOf(n) {
				expected := compare(d, e) < 0 && !onBothSides(n, d, e)
				want(t, impl.IsCut(n, []impl.Diagonal{d, e}), expected, "IsCut ", n, d, e)
			}
		}
	}
}

func TestIsCutThatAreKnown(t *testing.T) {
	known := []struct {
		p   polygon
		cut bool
	}{
		{polygon{3, nil}, true},
		{polygon{3, []impl.Diagonal{}}, true},
		{polygon{12, nil}, true},
		{polygon{13, nil}, false},
		{polygon{2, nil}, false},
		{polygon{3, diagonals(0, 2)}, false},
		{polygon{4, diagonals(1, 3)}, true},
		{polygon{4, diagonals(0, 2, 1, 3)}, false},
		{polygon{6, diagonals(0, 3)}, true},
		{polygon{6, diagonals(3, 0)}, false},
		{polygon{6, diagonals(0, 3, 0, 3)}, false},
		{polygon{6, diagonals(0, 4, 0, 3)}, false},
		{polygon{6, diagonals(0, 2, 2, 4)}, true},
		{polygon{6, diagonals(2, 4, 0, 2)}, false},
		{polygon{6, diagonals(0, 2, 0, 4, 2, 4)}, true},
		{polygon{6, diagonals(0, 2, 0, 5, 2, 4)}, false},
		{polygon{6, diagonals(0, 3, 2, 5)}, false},
		{polygon{6, diagonals(0, 2, 0, 3, 0, 4, 1, 3)}, false},
		{polygon{12, fan(12)}, true},
		{polygon{12, fan(13)}, false},
		{polygon{12, diagonals(0, 6, 5, 11)}, false},
		{polygon{12, diagonals(0, 6, 6, 11)}, true},
	}
	for _, k := range known {
		want(t, impl.IsCut(k.p.n, k.p.ds), k.cut, "IsCut ", k.p)
	}
}

func TestPiecesOfCuts(t *testing.T) {
	for _, p := range someCuts() {
		want(t, impl.IsCut(p.n, p.ds), true, "IsCut ", p)
		pieces, ok := impl.PiecesOfCut(p.n, p.ds)
		wantTrue(t, ok, "PiecesOfCut ", p)
		want(t, pieces, piecesOf(p), "PiecesOfCut ", p)
		sizes, ok := impl.SizesOfCut(p.n, p.ds)
		wantTrue(t, ok, "SizesOfCut ", p)
		want(t, sizes, sizesOf(p), "SizesOfCut ", p)
		expected := make([]int, p.n)
		for _, corner := range slices.Concat(piecesOf(p)...) {
			expected[corner]++
		}
		at, ok := impl.PiecesAtCorners(p.n, p.ds)
		wantTrue(t, ok, "PiecesAtCorners ", p)
		want(t, at, expected, "PiecesAtCorners ", p)
	}
}

// TestPiecesShareThePolygon is the first half of promise 8: one piece more than diagonals, each side of the polygon in one
// piece, each diagonal in two, nothing else beside a piece, and no diagonal through one.
func TestPiecesShareThePolygon(t *testing.T) {
	for _, p := range someCuts() {
		pieces, _ := impl.PiecesOfCut(p.n, p.ds)
		want(t, len(pieces), len(p.ds)+1, "how many PiecesOfCut ", p)
		want(t, slices.IsSortedFunc(pieces, slices.Compare), true, "PiecesOfCut in order ", p)
		sides := map[impl.Diagonal]int{}
		triangles := 0
		for _, piece := range pieces {
			want(t, len(piece) >= 3 && slices.IsSorted(piece) && piece[0] >= 0 && piece[len(piece)-1] < p.n, true, "corners of a piece ", p, piece)
			triangles += len(piece) - 2
			for i, corner := range piece {
				sides[line(corner, piece[(i+1)%len(piece)])]++
			}
			for _, d := range p.ds {
				for i, a := range piece {
					for _, b := range piece[:i] {
						want(t, onBothSides(p.n, d, line(b, a)), false, "diagonal through a piece ", p, d, piece)
					}
				}
			}
		}
		want(t, triangles, p.n-2, "triangles in all pieces ", p)
		for at := range p.n {
			want(t, sides[line(at, (at+1)%p.n)], 1, "pieces at the side behind ", at, p)
		}
		for _, d := range p.ds {
			want(t, sides[d], 2, "pieces at the diagonal ", d, p)
		}
		want(t, len(sides), p.n+len(p.ds), "sides of all pieces ", p)
	}
}

func TestPiecesThatAreKnown(t *testing.T) {
	known := []struct {
		p      polygon
		pieces [][]int
		sizes  []int
		at     []int
	}{
		{polygon{3, nil}, [][]int{{0, 1, 2}}, []int{3}, []int{1, 1, 1}},
		{polygon{4, nil}, [][]int{{0, 1, 2, 3}}, []int{4}, []int{1, 1, 1, 1}},
		{polygon{4, diagonals(0, 2)}, [][]int{{0, 1, 2}, {0, 2, 3}}, []int{3, 3}, []int{2, 1, 2, 1}},
		{polygon{4, diagonals(1, 3)}, [][]int{{0, 1, 3}, {1, 2, 3}}, []int{3, 3}, []int{1, 2, 1, 2}},
		{polygon{5, diagonals(2, 4)}, [][]int{{0, 1, 2, 4}, {2, 3, 4}}, []int{3, 4}, []int{1, 1, 2, 1, 2}},
		{polygon{5, diagonals(0, 2)}, [][]int{{0, 1, 2}, {0, 2, 3, 4}}, []int{3, 4}, []int{2, 1, 2, 1, 1}},
		// A piece at the last side, from 5 to 0.
		{polygon{6, diagonals(0, 4)}, [][]int{{0, 1, 2, 3, 4}, {0, 4, 5}}, []int{3, 5}, []int{2, 1, 1, 1, 2, 1}},
		{polygon{6, diagonals(1, 5)}, [][]int{{0, 1, 5}, {1, 2, 3, 4, 5}}, []int{3, 5}, []int{1, 2, 1, 1, 1, 2}},
		{polygon{6, diagonals(0, 3)}, [][]int{{0, 1, 2, 3}, {0, 3, 4, 5}}, []int{4, 4}, []int{2, 1, 1, 2, 1, 1}},
		{polygon{6, diagonals(0, 2, 0, 4, 2, 4)}, [][]int{{0, 1, 2}, {0, 2, 4}, {0, 4, 5}, {2, 3, 4}}, []int{3, 3, 3, 3}, []int{3, 1, 3, 1, 3, 1}},
		{polygon{8, diagonals(0, 2, 2, 4, 4, 6)}, [][]int{{0, 1, 2}, {0, 2, 4, 6, 7}, {2, 3, 4}, {4, 5, 6}}, []int{3, 3, 3, 5}, []int{2, 1, 3, 1, 3, 1, 2, 1}},
		{polygon{8, diagonals(1, 6, 2, 5)}, [][]int{{0, 1, 6, 7}, {1, 2, 5, 6}, {2, 3, 4, 5}}, []int{4, 4, 4}, []int{1, 2, 2, 1, 1, 2, 2, 1}},
		{polygon{12, nil}, [][]int{{0, 1, 2, 3, 4, 5, 6, 7, 8, 9, 10, 11}}, []int{12}, slices.Repeat([]int{1}, 12)},
		{polygon{12, diagonals(0, 3, 3, 6, 6, 9)}, [][]int{{0, 1, 2, 3}, {0, 3, 6, 9, 10, 11}, {3, 4, 5, 6}, {6, 7, 8, 9}}, []int{4, 4, 4, 6}, []int{2, 1, 1, 3, 1, 1, 3, 1, 1, 2, 1, 1}},
		{polygon{12, diagonals(0, 2, 0, 10, 5, 7)}, [][]int{{0, 1, 2}, {0, 2, 3, 4, 5, 7, 8, 9, 10}, {0, 10, 11}, {5, 6, 7}}, []int{3, 3, 3, 9}, []int{3, 1, 2, 1, 1, 2, 1, 2, 1, 1, 2, 1}},
	}
	for _, k := range known {
		pieces, ok := impl.PiecesOfCut(k.p.n, k.p.ds)
		wantTrue(t, ok, "PiecesOfCut ", k.p)
		want(t, pieces, k.pieces, "PiecesOfCut ", k.p)
		sizes, ok := impl.SizesOfCut(k.p.n, k.p.ds)
		wantTrue(t, ok, "SizesOfCut ", k.p)
		want(t, sizes, k.sizes, "SizesOfCut ", k.p)
		at, ok := impl.PiecesAtCorners(k.p.n, k.p.ds)
		wantTrue(t, ok, "PiecesAtCorners ", k.p)
		want(t, at, k.at, "PiecesAtCorners ", k.p)
	}
}

// TestCutsThatAreTriangulations holds chapter 8 against chapter 1.
func TestCutsThatAreTriangulations(t *testing.T) {
	for _, p := range somePolygons() {
		pieces, _ := impl.PiecesOfCut(p.n, p.ds)
		want(t, pieces, trianglesOf(p.n, p.ds), "PiecesOfCut ", p)
		at, _ := impl.PiecesAtCorners(p.n, p.ds)
		want(t, at, quiddityOf(p.n, p.ds), "PiecesAtCorners ", p)
		free, ok := impl.FreeDiagonals(p.n, p.ds)
		wantTrue(t, ok, "FreeDiagonals ", p)
		want(t, len(free), 0, "FreeDiagonals ", p)
		count, ok := impl.CountFiner(p.n, p.ds)
		wantTrue(t, ok, "CountFiner ", p)
		want(t, count, 1, "CountFiner ", p)
		finer, ok := impl.FirstFiner(p.n, p.ds)
		wantTrue(t, ok, "FirstFiner ", p)
		want(t, finer, p.ds, "FirstFiner ", p)
		equal, ok := impl.IsEqualCut(p.n, p.ds, 3)
		wantTrue(t, ok, "IsEqualCut ", p)
		want(t, equal, true, "IsEqualCut ", p)
	}
}

func TestNothingOfNoCuts(t *testing.T) {
	for _, p := range noCuts() {
		want(t, impl.IsCut(p.n, p.ds), false, "IsCut ", p)
		pieces, ok := impl.PiecesOfCut(p.n, p.ds)
		wantFailedList(t, pieces, ok, "PiecesOfCut ", p)
		sizes, ok := impl.SizesOfCut(p.n, p.ds)
		wantFailedList(t, sizes, ok, "SizesOfCut ", p)
		at, ok := impl.PiecesAtCorners(p.n, p.ds)
		wantFailedList(t, at, ok, "PiecesAtCorners ", p)
		free, ok := impl.FreeDiagonals(p.n, p.ds)
		wantFailedList(t, free, ok, "FreeDiagonals ", p)
		count, ok := impl.CountFiner(p.n, p.ds)
		wantFailedNumber(t, count, ok, "CountFiner ", p)
		finer, ok := impl.FirstFiner(p.n, p.ds)
		wantFailedList(t, finer, ok, "FirstFiner ", p)
		for _, size := range []int{2, 3, 4, p.n} {
			equal, ok := impl.IsEqualCut(p.n, p.ds, size)
			wantFailedBool(t, equal, ok, "IsEqualCut ", p, size)
		}
		for _, k := range []int{0, 1} {
			turned, ok := impl.TurnCut(p.n, p.ds, k)
			wantFailedList(t, turned, ok, "TurnCut ", p, k)
		}
		for _, d := range append(diagonals(0, 2, 1, 3), p.ds[:min(len(p.ds), 3)]...) {
			longer, ok := impl.AddDiagonal(p.n, p.ds, d)
			wantFailedList(t, longer, ok, "AddDiagonal ", p, d)
		}
	}
}

func TestCountCuts(t *testing.T) {
	for n := 3; n <= 12; n++ {
		counts := countsByPieces(n)
		want(t, len(counts), n-2, "countsByPieces ", n)
		for diagonals, count := range counts {
			got, ok := impl.CountCuts(n, diagonals)
			wantTrue(t, ok, "CountCuts ", n, diagonals)
			want(t, got, count, "CountCuts ", n, diagonals)
			if n <= 9 {
				want(t, got, len(cutsWith(n, diagonals)), "CountCuts as many as are listed ", n, diagonals)
			}
		}
		all, ok := impl.CountAllCuts(n)
		wantTrue(t, ok, "CountAllCuts ", n)
		want(t, all, sum(counts), "CountAllCuts ", n)
		triangulations, _ := impl.CountTriangulations(n)
		most, _ := impl.CountCuts(n, n-3)
		want(t, most, triangulations, "CountCuts with n - 3 diagonals ", n)
	}
}

func TestCountCutsThatAreKnown(t *testing.T) {
	known := [][]int{
		{1},
		{1, 2},
		{1, 5, 5},
		{1, 9, 21, 14},
		{1, 14, 56, 84, 42},
		{1, 20, 120, 300, 330, 132},
	}
	for i, counts := range known {
		for diagonals, count := range counts {
			got, ok := impl.CountCuts(i+3, diagonals)
			wantTrue(t, ok, "CountCuts ", i+3, diagonals)
			want(t, got, count, "CountCuts ", i+3, diagonals)
		}
	}
	for i, count := range []int{1, 3, 11, 45, 197, 903, 4279, 20793, 103049, 518859} {
		got, ok := impl.CountAllCuts(i + 3)
		wantTrue(t, ok, "CountAllCuts ", i+3)
		want(t, got, count, "CountAllCuts ", i+3)
	}
}

func TestAllCuts(t *testing.T) {
	for n := 3; n <= 8; n++ {
		for diagonals := 0; diagonals <= n-3; diagonals++ {
			got, ok := impl.AllCuts(n, diagonals)
			wantTrue(t, ok, "AllCuts ", n, diagonals)
			want(t, got, cutsWith(n, diagonals), "AllCuts ", n, diagonals)
			count, _ := impl.CountCuts(n, diagonals)
			want(t, len(got), count, "how many AllCuts ", n, diagonals)
			want(t, slices.IsSortedFunc(got, compareLists), true, "AllCuts in order ", n, diagonals)
		}
		none, _ := impl.AllCuts(n, 0)
		want(t, none, [][]impl.Diagonal{nil}, "AllCuts without diagonals ", n)
		ones, _ := impl.AllCuts(n, 1)
		want(t, len(ones), len(diagonalsOf(n)), "AllCuts with one diagonal ", n)
		most, _ := impl.AllCuts(n, n-3)
		want(t, most, triangulationsOf(n), "AllCuts with n - 3 diagonals ", n)
	}
}

func TestNoCutsOfOtherNumbers(t *testing.T) {
	for n := 3; n <= 12; n++ {
		for _, diagonals := range notAddable(n) {
			count, ok := impl.CountCuts(n, diagonals)
			wantFailedNumber(t, count, ok, "CountCuts ", n, diagonals)
			all, ok := impl.AllCuts(n, diagonals)
			wantFailedList(t, all, ok, "AllCuts ", n, diagonals)
		}
	}
	for _, n := range notListed() {
		for _, diagonals := range []int{math.MinInt, -1, 0, 1, n - 3, n, math.MaxInt} {
			all, ok := impl.AllCuts(n, diagonals)
			wantFailedList(t, all, ok, "AllCuts ", n, diagonals)
		}
	}
	for _, n := range noCorners() {
		for _, diagonals := range []int{math.MinInt, -1, 0, 1, n - 3, n, math.MaxInt} {
			count, ok := impl.CountCuts(n, diagonals)
			wantFailedNumber(t, count, ok, "CountCuts ", n, diagonals)
		}
		count, ok := impl.CountAllCuts(n)
		wantFailedNumber(t, count, ok, "CountAllCuts ", n)
	}
}

func TestFreeDiagonalsAndAddDiagonal(t *testing.T) {
	for _, p := range someCuts() {
		free := freeDiagonals(p)
		got, ok := impl.FreeDiagonals(p.n, p.ds)
		wantTrue(t, ok, "FreeDiagonals ", p)
		want(t, got, free, "FreeDiagonals ", p)
		for _, d := range free {
			longer, ok := impl.AddDiagonal(p.n, p.ds, d)
			wantTrue(t, ok, "AddDiagonal ", p, d)
			want(t, longer, with(p.ds, d), "AddDiagonal ", p, d)
		}
		for _, d := range slices.Concat(p.ds, crossingDiagonals(p), noDiagonals(p.n)) {
			longer, ok := impl.AddDiagonal(p.n, p.ds, d)
			wantFailedList(t, longer, ok, "AddDiagonal ", p, d)
		}
		for _, d := range free {
			longer, ok := impl.AddDiagonal(p.n, p.ds, impl.Diagonal{Low: d.High, High: d.Low})
			wantFailedList(t, longer, ok, "AddDiagonal backwards ", p, d)
		}
	}
}

func TestFreeDiagonalsThatAreKnown(t *testing.T) {
	known := []struct {
		p    polygon
		free []impl.Diagonal
	}{
		{polygon{3, nil}, nil},
		{polygon{4, nil}, diagonals(0, 2, 1, 3)},
		{polygon{4, diagonals(0, 2)}, nil},
		{polygon{5, diagonals(0, 2)}, diagonals(0, 3, 2, 4)},
		{polygon{6, diagonals(0, 3)}, diagonals(0, 2, 0, 4, 1, 3, 3, 5)},
		{polygon{6, diagonals(2, 4)}, diagonals(0, 2, 0, 4, 1, 4, 1, 5, 2, 5)},
		{polygon{12, diagonals(0, 2, 0, 10, 2, 10, 3, 9, 3, 10, 4, 8, 4, 9)}, diagonals(4, 6, 4, 7, 5, 7, 5, 8, 6, 8)},
	}
	for _, k := range known {
		got, ok := impl.FreeDiagonals(k.p.n, k.p.ds)
		wantTrue(t, ok, "FreeDiagonals ", k.p)
		want(t, got, k.free, "FreeDiagonals ", k.p)
	}
}

func TestCountFiner(t *testing.T) {
	for _, p := range someCuts() {
		got, ok := impl.CountFiner(p.n, p.ds)
		wantTrue(t, ok, "CountFiner ", p)
		with, _ := impl.CountWith(p.n, p.ds)
		want(t, got, with, "CountFiner as many as CountWith ", p)
		if p.n <= 8 {
			want(t, got, countHaving(p.n, p.ds), "CountFiner ", p)
		}
	}
}

func TestCountFinerThatAreKnown(t *testing.T) {
	known := []struct {
		p     polygon
		count int
	}{
		{polygon{3, nil}, 1},
		{polygon{4, nil}, 2},
		{polygon{5, diagonals(2, 4)}, 2},
		{polygon{6, diagonals(0, 3)}, 4},
		{polygon{6, diagonals(1, 3)}, 5},
		{polygon{8, diagonals(1, 6, 2, 5)}, 8},
		{polygon{12, nil}, 16796},
		{polygon{12, diagonals(5, 11)}, 1764},
		{polygon{12, diagonals(0, 3, 3, 6, 6, 9)}, 112},
		{polygon{12, fan(12)}, 1},
	}
	for _, k := range known {
		got, ok := impl.CountFiner(k.p.n, k.p.ds)
		wantTrue(t, ok, "CountFiner ", k.p)
		want(t, got, k.count, "CountFiner ", k.p)
	}
}

// TestFirstFiner adds the first free diagonal again and again; of all finer triangulations, this is the first one.
func TestFirstFiner(t *testing.T) {
	for _, p := range someCuts() {
		finer := polygon{p.n, p.ds}
		for free := freeDiagonals(finer); len(free) > 0; free = freeDiagonals(finer) {
			finer.ds = with(finer.ds, free[0])
		}
		got, ok := impl.FirstFiner(p.n, p.ds)
		wantTrue(t, ok, "FirstFiner ", p)
		want(t, got, finer.ds, "FirstFiner ", p)
		want(t, len(got), p.n-3, "diagonals of FirstFiner ", p)
	}
	for n := 3; n <= 7; n++ {
		all := triangulationsOf(n)
		for _, ds := range cutsOf()[n] {
			first := slices.IndexFunc(all, func(other []impl.Diagonal) bool { return len(onlyInFirst(ds, other)) == 0 })
			got, _ := impl.FirstFiner(n, ds)
			want(t, got, all[first], "FirstFiner is the first one ", n, ds)
		}
	}
}

func TestFirstFinerThatAreKnown(t *testing.T) {
	known := []struct {
		p     polygon
		finer []impl.Diagonal
	}{
		{polygon{3, nil}, nil},
		{polygon{4, nil}, diagonals(0, 2)},
		{polygon{6, nil}, fan(6)},
		{polygon{6, diagonals(1, 4)}, diagonals(0, 4, 1, 3, 1, 4)},
		{polygon{6, diagonals(1, 5)}, diagonals(1, 3, 1, 4, 1, 5)},
		{polygon{12, nil}, fan(12)},
		{polygon{12, diagonals(1, 11)}, fanAt(12, 1).ds},
		{polygon{12, diagonals(5, 11)}, diagonals(0, 2, 0, 3, 0, 4, 0, 5, 5, 7, 5, 8, 5, 9, 5, 10, 5, 11)},
	}
	for _, k := range known {
		got, ok := impl.FirstFiner(k.p.n, k.p.ds)
		wantTrue(t, ok, "FirstFiner ", k.p)
		want(t, got, k.finer, "FirstFiner ", k.p)
	}
}

func TestIsEqualCut(t *testing.T) {
	for _, p := range someCuts() {
		for _, size := range []int{3, 4, 5, 6, p.n - 1, p.n, p.n + 1, 1000, math.MaxInt} {
			if size < 3 {
				continue
			}
			got, ok := impl.IsEqualCut(p.n, p.ds, size)
			wantTrue(t, ok, "IsEqualCut ", p, size)
			want(t, got, isEqualFor(p, size), "IsEqualCut ", p, size)
		}
		for _, size := range noSizes() {
			got, ok := impl.IsEqualCut(p.n, p.ds, size)
			wantFailedBool(t, got, ok, "IsEqualCut ", p, size)
		}
	}
}

func TestIsEqualCutThatAreKnown(t *testing.T) {
	known := []struct {
		p     polygon
		size  int
		equal bool
	}{
		{polygon{3, nil}, 3, true},
		{polygon{3, nil}, 4, false},
		{polygon{6, nil}, 6, true},
		{polygon{6, nil}, 7, false},
		{polygon{6, nil}, 3, false},
		{polygon{6, diagonals(0, 3)}, 4, true},
		{polygon{6, diagonals(0, 3)}, 3, false},
		{polygon{6, diagonals(0, 2)}, 3, false},
		{polygon{6, diagonals(0, 2)}, 5, false},
		{polygon{6, diagonals(0, 4)}, 3, false},
		{polygon{6, diagonals(0, 4)}, 5, false},
		{polygon{12, diagonals(0, 7)}, 7, false},
		{polygon{12, diagonals(0, 6)}, 7, true},
		{polygon{12, diagonals(0, 3, 3, 6, 6, 9)}, 4, false},
		{polygon{12, diagonals(0, 3, 0, 9, 3, 6, 6, 9)}, 4, true},
	}
	for _, k := range known {
		got, ok := impl.IsEqualCut(k.p.n, k.p.ds, k.size)
		wantTrue(t, ok, "IsEqualCut ", k.p, k.size)
		want(t, got, k.equal, "IsEqualCut ", k.p, k.size)
	}
}

func TestCountEqualCuts(t *testing.T) {
	for n := 3; n <= 12; n++ {
		for size := 3; size <= 14; size++ {
			got, ok := impl.CountEqualCuts(n, size)
			wantTrue(t, ok, "CountEqualCuts ", n, size)
			want(t, got, equalByPieces(n, size), "CountEqualCuts ", n, size)
			if n <= 9 {
				equal := slices.DeleteFunc(slices.Clone(cutsOf()[n]), func(ds []impl.Diagonal) bool { return !isEqualFor(polygon{n, ds}, size) })
				want(t, got, len(equal), "CountEqualCuts as many as are listed ", n, size)
			}
		}
		for _, size := range []int{n + 1, n + 2, 1000, math.MaxInt32, math.MaxInt - 1, math.MaxInt} {
			got, ok := impl.CountEqualCuts(n, size)
			wantTrue(t, ok, "CountEqualCuts ", n, size)
			want(t, got, 0, "CountEqualCuts ", n, size)
		}
	}
}

func TestCountEqualCutsThatAreKnown(t *testing.T) {
	known := []struct{ n, size, count int }{
		{3, 3, 1}, {3, 4, 0}, {4, 3, 2}, {4, 4, 1}, {5, 4, 0}, {5, 5, 1}, {5, 6, 0}, {6, 4, 3}, {6, 5, 0}, {8, 3, 132}, {8, 4, 12},
		{8, 5, 4}, {8, 8, 1}, {8, 9, 0}, {9, 4, 0}, {9, 9, 1}, {10, 4, 55}, {11, 5, 22}, {12, 3, 16796}, {12, 4, 273}, {12, 5, 0},
		{12, 7, 6}, {12, 12, 1}, {12, 13, 0},
	}
	for _, k := range known {
		got, ok := impl.CountEqualCuts(k.n, k.size)
		wantTrue(t, ok, "CountEqualCuts ", k.n, k.size)
		want(t, got, k.count, "CountEqualCuts ", k.n, k.size)
	}
}

func TestFirstEqualCut(t *testing.T) {
	for n := 3; n <= 8; n++ {
		for size := 3; size <= n+2; size++ {
			first := slices.IndexFunc(cutsOf()[n], func(ds []impl.Diagonal) bool { return isEqualFor(polygon{n, ds}, size) })
			got, ok := impl.FirstEqualCut(n, size)
			if first < 0 {
				wantFailedList(t, got, ok, "FirstEqualCut ", n, size)
				continue
			}
			wantTrue(t, ok, "FirstEqualCut ", n, size)
			want(t, got, cutsOf()[n][first], "FirstEqualCut ", n, size)
		}
		triangles, _ := impl.FirstEqualCut(n, 3)
		want(t, triangles, fan(n), "FirstEqualCut of triangles ", n)
		one, ok := impl.FirstEqualCut(n, n)
		wantTrue(t, ok, "FirstEqualCut of one piece ", n)
		want(t, len(one), 0, "FirstEqualCut of one piece ", n)
	}
	squares, _ := impl.FirstEqualCut(8, 4)
	want(t, squares, diagonals(0, 3, 0, 5), "FirstEqualCut ", 8, 4)
}

func TestNoEqualCutsOfOtherNumbers(t *testing.T) {
	for n := 3; n <= 12; n++ {
		for _, size := range noSizes() {
			count, ok := impl.CountEqualCuts(n, size)
			wantFailedNumber(t, count, ok, "CountEqualCuts ", n, size)
			first, ok := impl.FirstEqualCut(n, size)
			wantFailedList(t, first, ok, "FirstEqualCut ", n, size)
		}
		for _, size := range []int{n + 1, n + 2, 1000, math.MaxInt - 1, math.MaxInt} {
			first, ok := impl.FirstEqualCut(n, size)
			wantFailedList(t, first, ok, "FirstEqualCut ", n, size)
		}
	}
	for _, n := range notListed() {
		for _, size := range append(noSizes(), 3, 4, 5, n, math.MaxInt) {
			first, ok := impl.FirstEqualCut(n, size)
			wantFailedList(t, first, ok, "FirstEqualCut ", n, size)
		}
	}
	for _, n := range noCorners() {
		for _, size := range append(noSizes(), 3, 4, n, math.MaxInt) {
			count, ok := impl.CountEqualCuts(n, size)
			wantFailedNumber(t, count, ok, "CountEqualCuts ", n, size)
		}
	}
}

func TestTurnCut(t *testing.T) {
	for _, p := range someCuts() {
		for k := range p.n {
			got, ok := impl.TurnCut(p.n, p.ds, k)
			wantTrue(t, ok, "TurnCut ", p, k)
			want(t, got, moved(p.ds, func(corner int) int { return (corner + k) % p.n }), "TurnCut ", p, k)
			back, _ := impl.TurnCut(p.n, got, (p.n-k)%p.n)
			want(t, back, p.ds, "TurnCut back ", p, k)
		}
		for _, k := range []int{math.MinInt, -p.n, -2, -1, p.n, p.n + 1, 2 * p.n, math.MaxInt} {
			got, ok := impl.TurnCut(p.n, p.ds, k)
			wantFailedList(t, got, ok, "TurnCut ", p, k)
		}
	}
}

func TestTurnCutThatAreKnown(t *testing.T) {
	known := []struct {
		p      polygon
		k      int
		turned []impl.Diagonal
	}{
		{polygon{3, nil}, 2, nil},
		{polygon{6, diagonals(0, 3)}, 0, diagonals(0, 3)},
		{polygon{6, diagonals(0, 3)}, 5, diagonals(2, 5)},
		{polygon{6, diagonals(0, 2, 2, 4)}, 3, diagonals(1, 5, 3, 5)},
		{polygon{12, diagonals(0, 6, 0, 10)}, 11, diagonals(5, 11, 9, 11)},
	}
	for _, k := range known {
		got, ok := impl.TurnCut(k.p.n, k.p.ds, k.k)
		wantTrue(t, ok, "TurnCut ", k.p, k.k)
		want(t, got, k.turned, "TurnCut ", k.p, k.k)
	}
}

// TestCutOfSizes takes the pieces apart again: all of them have the corner 0, so that they come in the order of the sizes.
func TestCutOfSizes(t *testing.T) {
	for _, sizes := range sizeLists(12) {
		n, ds, ok := impl.CutOfSizes(sizes)
		wantTrue(t, ok, "CutOfSizes ", sizes)
		want(t, impl.IsCut(n, ds), true, "CutOfSizes is a cut ", sizes)
		want(t, slices.IsSortedFunc(ds, compare), true, "CutOfSizes in order ", sizes)
		pieces := piecesOf(polygon{n, ds})
		want(t, len(pieces), len(sizes), "pieces of CutOfSizes ", sizes)
		for i, piece := range pieces {
			want(t, piece[0], 0, "first corner of CutOfSizes ", sizes, piece)
			want(t, len(piece), sizes[i], "size of a piece of CutOfSizes ", sizes, piece)
		}
		again, _ := impl.SizesOfCut(n, ds)
		want(t, again, slices.Sorted(slices.Values(sizes)), "SizesOfCut of CutOfSizes ", sizes)
	}
}

func TestCutOfSizesThatAreKnown(t *testing.T) {
	known := []struct {
		sizes []int
		p     polygon
	}{
		{[]int{3}, polygon{3, nil}},
		{[]int{12}, polygon{12, nil}},
		{[]int{3, 3}, polygon{4, diagonals(0, 2)}},
		{[]int{4, 3}, polygon{5, diagonals(0, 3)}},
		{[]int{3, 4}, polygon{5, diagonals(0, 2)}},
		{[]int{3, 11}, polygon{12, diagonals(0, 2)}},
		{[]int{11, 3}, polygon{12, diagonals(0, 10)}},
		{[]int{7, 7}, polygon{12, diagonals(0, 6)}},
		{[]int{4, 3, 5, 4}, polygon{10, diagonals(0, 3, 0, 4, 0, 7)}},
		{[]int{4, 4, 4, 4, 4}, polygon{12, diagonals(0, 3, 0, 5, 0, 7, 0, 9)}},
		{slices.Repeat([]int{3}, 9), polygon{11, fan(11)}},
		{slices.Repeat([]int{3}, 10), polygon{12, fan(12)}},
	}
	for _, k := range known {
		n, ds, ok := impl.CutOfSizes(k.sizes)
		wantTrue(t, ok, "CutOfSizes ", k.sizes)
		want(t, polygon{n, ds}, k.p, "CutOfSizes ", k.sizes)
	}
}

func TestNoCutOfOtherSizes(t *testing.T) {
	for _, sizes := range noSizeLists() {
		n, ds, ok := impl.CutOfSizes(sizes)
		wantFailedList(t, ds, ok, "CutOfSizes ", sizes)
		want(t, n, 0, "CutOfSizes ", sizes)
	}
	for _, sizes := range sizeLists(12) {
		n, _, _ := impl.CutOfSizes(sizes)
		longer := append(slices.Clone(sizes), 12-n+3)
		more, ds, ok := impl.CutOfSizes(longer)
		wantFailedList(t, ds, ok, "CutOfSizes of a corner too many ", longer)
		want(t, more, 0, "CutOfSizes of a corner too many ", longer)
	}
}

// TestPiecesAreMemoryOfTheirOwn appends to each piece and writes over it: no other piece changes.
func TestPiecesAreMemoryOfTheirOwn(t *testing.T) {
	for _, p := range someCuts() {
		pieces, _ := impl.PiecesOfCut(p.n, p.ds)
		expected := piecesOf(p)
		for i := range pieces {
			longer := append(pieces[i], -1, -1)
			for at := range longer {
				longer[at] = -1
			}
			for at := range pieces[i] {
				pieces[i][at] = -1
			}
			for j := i + 1; j < len(pieces); j++ {
				want(t, pieces[j], expected[j], "piece beside one that is written over ", p)
			}
		}
	}
}

func TestExamplesOfChapter8(t *testing.T) {
	two := diagonals(0, 3)
	pieces, _ := impl.PiecesOfCut(6, two)
	want(t, pieces, [][]int{{0, 1, 2, 3}, {0, 3, 4, 5}}, "PiecesOfCut")
	equal, _ := impl.CountEqualCuts(6, 4)
	want(t, equal, 3, "CountEqualCuts")
	for i, count := range []int{1, 9, 21, 14} {
		got, _ := impl.CountCuts(6, i)
		want(t, got, count, "CountCuts ", i)
	}
	all, _ := impl.CountAllCuts(6)
	want(t, all, 45, "CountAllCuts")
	finer, _ := impl.CountFiner(6, two)
	want(t, finer, 4, "CountFiner")
	n, ds, _ := impl.CutOfSizes([]int{4, 3})
	want(t, polygon{n, ds}, polygon{5, two}, "CutOfSizes")
}
