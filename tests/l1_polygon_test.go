package tests

import (
	"fmt"
	"math"
	"regexp"
	"slices"
	"strconv"
	"strings"
	"testing"

	"loop.example/g01236/impl"
)

func TestConstants(t *testing.T) {
	want(t, impl.MaxCorners, 12, "MaxCorners")
}

func TestIsDiagonalOfAnyNumbers(t *testing.T) {
	for n := -2; n <= 15; n++ {
		for low := -2; low <= 15; low++ {
			for high := -2; high <= 15; high++ {
				d := impl.Diagonal{Low: low, High: high}
				expected := n >= 3 && n <= 12 && slices.Contains(diagonalsOf(n), d)
				want(t, impl.IsDiagonal(n, d), expected, "IsDiagonal ", n, d)
			}
		}
	}
	for _, d := range diagonals(math.MinInt, math.MaxInt, math.MaxInt, math.MinInt, 0, math.MaxInt, math.MinInt, 2, math.MinInt, math.MinInt+2) {
		for _, n := range []int{math.MinInt, 5, 12, math.MaxInt} {
			want(t, impl.IsDiagonal(n, d), false, "IsDiagonal ", n, d)
		}
	}
	want(t, impl.IsDiagonal(math.MaxInt, impl.Diagonal{Low: 0, High: 2}), false, "IsDiagonal of too many corners")
}

func TestDoCrossOfAllDiagonals(t *testing.T) {
	for n := 4; n <= 12; n++ {
		for _, d := range diagonalsOf(n) {
			for _, e := range diagonalsOf(n) {
				got, ok := impl.DoCross(n, d, e)
				wantTrue(t, ok, "DoCross ", n, d, e)
				want(t, got, onBothSides(n, d, e), "DoCross ", n, d, e)
			}
		}
	}
}

func TestDoCrossOfNoDiagonals(t *testing.T) {
	good := impl.Diagonal{Low: 1, High: 3}
	for _, bad := range diagonals(0, 1, 0, 5, 4, 5, 2, 0, 2, 2, -1, 2, 2, 6, 0, 12, math.MinInt, 2, 2, math.MaxInt) {
		for _, pair := range [][2]impl.Diagonal{{good, bad}, {bad, good}, {bad, bad}} {
			got, ok := impl.DoCross(6, pair[0], pair[1])
			want(t, []bool{got, ok}, []bool{false, false}, "DoCross ", 6, pair)
		}
	}
	for _, n := range []int{math.MinInt, -1, 0, 3, 13, math.MaxInt} {
		got, ok := impl.DoCross(n, impl.Diagonal{Low: 0, High: 2}, good)
		want(t, []bool{got, ok}, []bool{false, false}, "DoCross ", n)
	}
}

func TestIsTriangulation(t *testing.T) {
	for _, p := range somePolygons() {
		want(t, impl.IsTriangulation(p.n, p.ds), true, "IsTriangulation ", p)
		for n := p.n - 1; n <= p.n+1; n += 2 {
			want(t, impl.IsTriangulation(n, p.ds), false, "IsTriangulation ", n, p.ds)
		}
	}
	for _, p := range badPolygons() {
		want(t, impl.IsTriangulation(p.n, p.ds), false, "IsTriangulation ", p)
	}
	for _, p := range widePolygons() {
		for _, bad := range spoiled(p) {
			want(t, impl.IsTriangulation(bad.n, bad.ds), false, "IsTriangulation ", bad)
		}
	}
}

// TestIsTriangulationOfAllLists tries all lists of two pairs of numbers for the pentagon, and of choices of diagonals for the hexagon.
func TestIsTriangulationOfAllLists(t *testing.T) {
	five := fmt.Sprint(triangulationsOf(5))
	for code := range 7 * 7 * 7 * 7 {
		ds := diagonals(code%7-1, code/7%7-1, code/49%7-1, code/343-1)
		want(t, impl.IsTriangulation(5, ds), strings.Contains(five, fmt.Sprint(ds)), "IsTriangulation ", 5, ds)
	}
	six := fmt.Sprint(triangulationsOf(6))
	all := diagonalsOf(6)
	for code := range 9 * 9 * 9 {
		ds := []impl.Diagonal{all[code%9], all[code/9%9], all[code/81]}
		want(t, impl.IsTriangulation(6, ds), strings.Contains(six, fmt.Sprint(ds)), "IsTriangulation ", 6, ds)
	}
}

func TestQuiddityOf(t *testing.T) {
	for _, p := range somePolygons() {
		got, ok := impl.QuiddityOf(p.n, p.ds)
		wantTrue(t, ok, "QuiddityOf ", p)
		want(t, got, quiddityOf(p.n, p.ds), "QuiddityOf ", p)
		sum := 0
		for _, number := range got {
			sum += number
		}
		want(t, sum, 3*p.n-6, "sum of QuiddityOf ", p)
	}
	three, ok := impl.QuiddityOf(3, nil)
	wantTrue(t, ok, "QuiddityOf the triangle")
	want(t, three, []int{1, 1, 1}, "QuiddityOf the triangle")
	twelve, ok := impl.QuiddityOf(12, fan(12))
	wantTrue(t, ok, "QuiddityOf the fan of 12")
	want(t, twelve, []int{10, 1, 2, 2, 2, 2, 2, 2, 2, 2, 2, 1}, "QuiddityOf the fan of 12")
}

func TestQuidditiesTellTriangulations(t *testing.T) {
	for _, p := range somePolygons() {
		quiddity := quiddityOf(p.n, p.ds)
		got, ok := impl.TriangulationOf(quiddity)
		wantTrue(t, ok, "TriangulationOf ", quiddity)
		want(t, got, p.ds, "TriangulationOf ", quiddity)
		want(t, impl.IsQuiddity(quiddity), true, "IsQuiddity ", quiddity)
	}
	for n := 3; n <= 12; n++ {
		got, ok := impl.TriangulationOf(fanNumbers(n))
		wantTrue(t, ok, "TriangulationOf ", fanNumbers(n))
		want(t, got, fan(n), "TriangulationOf ", fanNumbers(n))
	}
}

func TestNoQuiddities(t *testing.T) {
	for _, list := range badQuiddities() {
		got, ok := impl.TriangulationOf(list)
		wantFailedList(t, got, ok, "TriangulationOf ", list)
		want(t, impl.IsQuiddity(list), false, "IsQuiddity ", list)
	}
}

// TestQuidditiesOfAllLists tries all lists of 3..6 numbers in -1..n.
func TestQuidditiesOfAllLists(t *testing.T) {
	for n := 3; n <= 6; n++ {
		told := map[string][]impl.Diagonal{}
		for _, ds := range triangulationsOf(n) {
			told[fmt.Sprint(quiddityOf(n, ds))] = ds
		}
		list := slices.Repeat([]int{-1}, n)
		for more := true; more; more = countOn(list, n) {
			ds, expected := told[fmt.Sprint(list)]
			got, ok := impl.TriangulationOf(list)
			if ok != expected || impl.IsQuiddity(list) != expected || !slices.Equal(got, ds) {
				t.Errorf("TriangulationOf %v: got %v, %v, want %v, %v", list, got, ok, ds, expected)
			}
		}
	}
}

// TestQuidditiesThatChange makes one number of a quiddity greater or less, or one greater and one less.
func TestQuidditiesThatChange(t *testing.T) {
	for _, p := range widePolygons() {
		for at := range p.n {
			for _, by := range []int{-1, 1} {
				list := quiddityOf(p.n, p.ds)
				list[at] += by
				want(t, impl.IsQuiddity(list), false, "IsQuiddity ", list)
			}
		}
	}
	told := map[string]bool{}
	for _, ds := range triangulationsOf(7) {
		told[fmt.Sprint(quiddityOf(7, ds))] = true
	}
	for _, ds := range triangulationsOf(7) {
		for code := range 7 * 7 {
			list := quiddityOf(7, ds)
			list[code%7]++
			list[code/7]--
			want(t, impl.IsQuiddity(list), told[fmt.Sprint(list)], "IsQuiddity ", list)
		}
	}
}

// countOn makes the next list of numbers in -1..highest, if there is one.
func countOn(list []int, highest int) bool {
	for i := range list {
		if list[i] < highest {
			list[i]++
			return true
		}
		list[i] = -1
	}
	return false
}

func TestTrianglesOf(t *testing.T) {
	for _, p := range somePolygons() {
		got, ok := impl.TrianglesOf(p.n, p.ds)
		wantTrue(t, ok, "TrianglesOf ", p)
		want(t, got, trianglesOf(p.n, p.ds), "TrianglesOf ", p)
		want(t, len(got), p.n-2, "number of TrianglesOf ", p)
	}
	three, _ := impl.TrianglesOf(3, nil)
	want(t, three, [][]int{{0, 1, 2}}, "TrianglesOf the triangle")
	six, _ := impl.TrianglesOf(6, diagonals(0, 2, 0, 4, 2, 4))
	want(t, six, [][]int{{0, 1, 2}, {0, 2, 4}, {0, 4, 5}, {2, 3, 4}}, "TrianglesOf a hexagon")
}

func TestEarsOf(t *testing.T) {
	for _, p := range somePolygons() {
		var expected []int
		for corner, number := range quiddityOf(p.n, p.ds) {
			if number == 1 {
				expected = append(expected, corner)
			}
		}
		got, ok := impl.EarsOf(p.n, p.ds)
		wantTrue(t, ok, "EarsOf ", p)
		want(t, got, expected, "EarsOf ", p)
	}
	three, _ := impl.EarsOf(3, nil)
	want(t, three, []int{0, 1, 2}, "EarsOf the triangle")
	five, _ := impl.EarsOf(5, fan(5))
	want(t, five, []int{1, 4}, "EarsOf the fan of 5")
	last, _ := impl.EarsOf(12, moved(fan(12), func(corner int) int { return (corner + 11) % 12 }))
	want(t, last, []int{0, 10}, "EarsOf the fan of 12 at 11")
}

func TestCutEar(t *testing.T) {
	for _, p := range somePolygons() {
		quiddity := quiddityOf(p.n, p.ds)
		for at := -2; at <= p.n+2; at++ {
			got, ok := impl.CutEar(quiddity, at)
			if p.n == 3 || at < 0 || at >= p.n || quiddity[at] != 1 {
				wantFailedList(t, got, ok, "CutEar ", quiddity, at)
				continue
			}
			left := withoutEar(p, at)
			wantTrue(t, ok, "CutEar ", quiddity, at)
			want(t, got, quiddityOf(left.n, left.ds), "CutEar ", quiddity, at)
			want(t, impl.IsQuiddity(got), true, "CutEar ", quiddity, at, " is a quiddity")
		}
		for _, at := range []int{math.MinInt, math.MaxInt, -p.n, p.n * 2} {
			got, ok := impl.CutEar(quiddity, at)
			wantFailedList(t, got, ok, "CutEar ", quiddity, at)
		}
	}
}

func TestCutEarAtTheEnds(t *testing.T) {
	first, ok := impl.CutEar([]int{1, 3, 1, 2, 2}, 0)
	wantTrue(t, ok, "CutEar at the first one")
	want(t, first, []int{2, 1, 2, 1}, "CutEar at the first one")
	last, ok := impl.CutEar([]int{3, 1, 2, 2, 1}, 4)
	wantTrue(t, ok, "CutEar at the last one")
	want(t, last, []int{2, 1, 2, 1}, "CutEar at the last one")
	inside, ok := impl.CutEar([]int{3, 1, 2, 2, 1}, 1)
	wantTrue(t, ok, "CutEar inside")
	want(t, inside, []int{2, 1, 2, 1}, "CutEar inside")
	three, ok := impl.CutEar([]int{1, 2, 1, 2}, 2)
	wantTrue(t, ok, "CutEar of a square")
	want(t, three, []int{1, 1, 1}, "CutEar of a square")
}

func TestCutEarOfNoQuiddity(t *testing.T) {
	for _, list := range badQuiddities() {
		for at := -1; at <= min(len(list), 20); at++ {
			got, ok := impl.CutEar(list, at)
			wantFailedList(t, got, ok, "CutEar ", list, at)
		}
	}
}

func TestGlueEar(t *testing.T) {
	for _, p := range somePolygons() {
		quiddity := quiddityOf(p.n, p.ds)
		for at := -2; at <= p.n+2; at++ {
			got, ok := impl.GlueEar(quiddity, at)
			if p.n == 12 || at < 1 || at > p.n {
				wantFailedList(t, got, ok, "GlueEar ", quiddity, at)
				continue
			}
			more := glued(p, at)
			wantTrue(t, ok, "GlueEar ", quiddity, at)
			want(t, got, quiddityOf(more.n, more.ds), "GlueEar ", quiddity, at)
			back, ok := impl.CutEar(got, at)
			wantTrue(t, ok, "CutEar ", got, at)
			want(t, back, quiddity, "CutEar behind GlueEar ", quiddity, at)
		}
		for _, at := range []int{math.MinInt, math.MaxInt, -p.n, p.n * 2} {
			got, ok := impl.GlueEar(quiddity, at)
			wantFailedList(t, got, ok, "GlueEar ", quiddity, at)
		}
	}
}

func TestGlueEarAtTheEnds(t *testing.T) {
	first, ok := impl.GlueEar([]int{1, 1, 1}, 1)
	wantTrue(t, ok, "GlueEar at 1")
	want(t, first, []int{2, 1, 2, 1}, "GlueEar at 1")
	last, ok := impl.GlueEar([]int{1, 1, 1}, 3)
	wantTrue(t, ok, "GlueEar between the last corner and corner 0")
	want(t, last, []int{2, 1, 2, 1}, "GlueEar between the last corner and corner 0")
	around, ok := impl.GlueEar([]int{1, 3, 1, 2, 2}, 5)
	wantTrue(t, ok, "GlueEar at 5")
	want(t, around, []int{2, 3, 1, 2, 3, 1}, "GlueEar at 5")
	most, ok := impl.GlueEar(fanNumbers(11), 11)
	wantTrue(t, ok, "GlueEar of 11")
	want(t, most, fanNumbers(12), "GlueEar of 11")
}

func TestGlueEarOfNoQuiddity(t *testing.T) {
	for _, list := range badQuiddities() {
		for at := 0; at <= min(len(list), 20); at++ {
			got, ok := impl.GlueEar(list, at)
			wantFailedList(t, got, ok, "GlueEar ", list, at)
		}
	}
}

func TestTurnPolygon(t *testing.T) {
	for _, p := range somePolygons() {
		for k := range p.n {
			got, ok := impl.TurnPolygon(p.n, p.ds, k)
			wantTrue(t, ok, "TurnPolygon ", p, k)
			want(t, got, moved(p.ds, func(corner int) int { return (corner + k) % p.n }), "TurnPolygon ", p, k)
			want(t, impl.IsTriangulation(p.n, got), true, "TurnPolygon ", p, k, " is a triangulation")
		}
		for _, k := range []int{math.MinInt, -p.n, -1, p.n, p.n + 1, math.MaxInt} {
			got, ok := impl.TurnPolygon(p.n, p.ds, k)
			wantFailedList(t, got, ok, "TurnPolygon ", p, k)
		}
	}
	three, ok := impl.TurnPolygon(3, nil, 2)
	wantTrue(t, ok, "TurnPolygon of the triangle")
	want(t, three, nil, "TurnPolygon of the triangle")
	square, _ := impl.TurnPolygon(4, diagonals(0, 2), 3)
	want(t, square, diagonals(1, 3), "TurnPolygon of the square")
}

func TestMirrorPolygon(t *testing.T) {
	for _, p := range somePolygons() {
		got, ok := impl.MirrorPolygon(p.n, p.ds)
		wantTrue(t, ok, "MirrorPolygon ", p)
		want(t, got, moved(p.ds, func(corner int) int { return p.n - 1 - corner }), "MirrorPolygon ", p)
		back, ok := impl.MirrorPolygon(p.n, got)
		wantTrue(t, ok, "MirrorPolygon twice ", p)
		want(t, back, p.ds, "MirrorPolygon twice ", p)
	}
	five, _ := impl.MirrorPolygon(5, fan(5))
	want(t, five, diagonals(1, 4, 2, 4), "MirrorPolygon of the fan of 5")
}

func TestFanOf(t *testing.T) {
	for n := 3; n <= 12; n++ {
		for at := range n {
			got, ok := impl.FanOf(n, at)
			wantTrue(t, ok, "FanOf ", n, at)
			want(t, got, moved(fan(n), func(corner int) int { return (corner + at) % n }), "FanOf ", n, at)
		}
		for _, at := range []int{math.MinInt, -1, n, n + 1, math.MaxInt} {
			got, ok := impl.FanOf(n, at)
			wantFailedList(t, got, ok, "FanOf ", n, at)
		}
	}
	for _, n := range []int{math.MinInt, -3, 0, 1, 2, 13, math.MaxInt} {
		got, ok := impl.FanOf(n, 0)
		wantFailedList(t, got, ok, "FanOf ", n)
	}
}

func TestZigzagOf(t *testing.T) {
	expected := [][]impl.Diagonal{
		nil,
		diagonals(1, 3),
		diagonals(1, 3, 1, 4),
		diagonals(1, 4, 1, 5, 2, 4),
		diagonals(1, 5, 1, 6, 2, 4, 2, 5),
		diagonals(1, 6, 1, 7, 2, 5, 2, 6, 3, 5),
		diagonals(1, 7, 1, 8, 2, 6, 2, 7, 3, 5, 3, 6),
		diagonals(1, 8, 1, 9, 2, 7, 2, 8, 3, 6, 3, 7, 4, 6),
		diagonals(1, 9, 1, 10, 2, 8, 2, 9, 3, 7, 3, 8, 4, 6, 4, 7),
		diagonals(1, 10, 1, 11, 2, 9, 2, 10, 3, 8, 3, 9, 4, 7, 4, 8, 5, 7),
	}
	for i, ds := range expected {
		got, ok := impl.ZigzagOf(i + 3)
		wantTrue(t, ok, "ZigzagOf ", i+3)
		want(t, got, ds, "ZigzagOf ", i+3)
		want(t, impl.IsTriangulation(i+3, got), true, "ZigzagOf ", i+3, " is a triangulation")
	}
	for _, n := range []int{math.MinInt, -3, 0, 1, 2, 13, math.MaxInt} {
		got, ok := impl.ZigzagOf(n)
		wantFailedList(t, got, ok, "ZigzagOf ", n)
	}
}

func TestTrianglesBeside(t *testing.T) {
	for _, p := range somePolygons() {
		triangles := trianglesOf(p.n, p.ds)
		expected := make([][]int, len(triangles))
		for _, d := range p.ds {
			var both []int
			for i, triangle := range triangles {
				if slices.Contains(triangle, d.Low) && slices.Contains(triangle, d.High) {
					both = append(both, i)
				}
			}
			expected[both[0]] = append(expected[both[0]], both[1])
			expected[both[1]] = append(expected[both[1]], both[0])
		}
		for i := range expected {
			slices.Sort(expected[i])
		}
		got, ok := impl.TrianglesBeside(p.n, p.ds)
		wantTrue(t, ok, "TrianglesBeside ", p)
		want(t, got, expected, "TrianglesBeside ", p)
	}
	three, _ := impl.TrianglesBeside(3, nil)
	want(t, three, [][]int{{}}, "TrianglesBeside of the triangle")
	six, _ := impl.TrianglesBeside(6, diagonals(0, 2, 0, 4, 2, 4))
	want(t, six, [][]int{{1}, {0, 2, 3}, {1}, {1}}, "TrianglesBeside of a hexagon")
}

func TestPeriodOfPolygon(t *testing.T) {
	for _, p := range somePolygons() {
		expected := 1
		for !slices.Equal(p.ds, moved(p.ds, func(corner int) int { return (corner + expected) % p.n })) {
			expected++
		}
		got, ok := impl.PeriodOfPolygon(p.n, p.ds)
		wantTrue(t, ok, "PeriodOfPolygon ", p)
		want(t, got, expected, "PeriodOfPolygon ", p)
	}
}

func TestPeriodsThatAreKnown(t *testing.T) {
	known := []struct {
		p      polygon
		period int
	}{
		{polygon{3, nil}, 1},
		{polygon{4, diagonals(0, 2)}, 2},
		{polygon{5, fan(5)}, 5},
		{polygon{6, diagonals(0, 2, 0, 4, 2, 4)}, 2},
		{polygon{6, diagonals(1, 4, 1, 5, 2, 4)}, 3},
		{polygon{12, fan(12)}, 12},
		{polygon{12, diagonals(0, 2, 0, 4, 0, 8, 2, 4, 4, 6, 4, 8, 6, 8, 8, 10, 0, 10)}, 4},
		{polygon{12, diagonals(1, 10, 1, 11, 2, 9, 2, 10, 3, 8, 3, 9, 4, 7, 4, 8, 5, 7)}, 6},
	}
	for _, k := range known {
		slices.SortFunc(k.p.ds, compare)
		got, ok := impl.PeriodOfPolygon(k.p.n, k.p.ds)
		wantTrue(t, ok, "PeriodOfPolygon ", k.p)
		want(t, got, k.period, "PeriodOfPolygon ", k.p)
	}
}

func TestPolygonsThatAreBad(t *testing.T) {
	for _, p := range badPolygons() {
		numbers, ok := impl.QuiddityOf(p.n, p.ds)
		wantFailedList(t, numbers, ok, "QuiddityOf ", p)
		triangles, ok := impl.TrianglesOf(p.n, p.ds)
		wantFailedList(t, triangles, ok, "TrianglesOf ", p)
		ears, ok := impl.EarsOf(p.n, p.ds)
		wantFailedList(t, ears, ok, "EarsOf ", p)
		turned, ok := impl.TurnPolygon(p.n, p.ds, 0)
		wantFailedList(t, turned, ok, "TurnPolygon ", p)
		mirrored, ok := impl.MirrorPolygon(p.n, p.ds)
		wantFailedList(t, mirrored, ok, "MirrorPolygon ", p)
		beside, ok := impl.TrianglesBeside(p.n, p.ds)
		wantFailedList(t, beside, ok, "TrianglesBeside ", p)
		period, ok := impl.PeriodOfPolygon(p.n, p.ds)
		if period != 0 || ok {
			t.Errorf("PeriodOfPolygon %v: got %v, %v, want a failure", p, period, ok)
		}
	}
}

func TestAllTriangulations(t *testing.T) {
	counts := []int{1, 2, 5, 14, 42, 132}
	for n := 3; n <= 8; n++ {
		got, ok := impl.AllTriangulations(n)
		wantTrue(t, ok, "AllTriangulations ", n)
		want(t, len(got), counts[n-3], "number of AllTriangulations ", n)
		want(t, got, triangulationsOf(n), "AllTriangulations ", n)
	}
	for _, n := range []int{math.MinInt, -3, 0, 1, 2, 9, 10, 12, 13, math.MaxInt} {
		got, ok := impl.AllTriangulations(n)
		wantFailedList(t, got, ok, "AllTriangulations ", n)
	}
}

// textLists are valid for texts, though most of them are no triangulations, and some not in order.
func textLists() [][]impl.Diagonal {
	lists := [][]impl.Diagonal{
		nil,
		diagonals(0, 1),
		diagonals(0, 11),
		diagonals(10, 11),
		diagonals(1, 3, 0, 2),
		diagonals(0, 2, 0, 2, 0, 2),
		diagonals(0, 2, 1, 3),
		slices.Repeat(diagonals(10, 11), 12),
	}
	for low := range 12 {
		for high := low + 1; high < 12; high++ {
			lists = append(lists, diagonals(low, high), diagonals(low, high, 0, 1), diagonals(3, 9, low, high))
		}
	}
	for _, p := range somePolygons() {
		lists = append(lists, p.ds)
	}
	return lists
}

func TestDiagonalsText(t *testing.T) {
	for _, ds := range textLists() {
		var words []string
		for _, d := range ds {
			words = append(words, strconv.Itoa(d.Low)+"-"+strconv.Itoa(d.High))
		}
		expected := strings.Join(words, ",")
		if len(ds) == 0 {
			expected = "."
		}
		got, ok := impl.DiagonalsText(ds)
		wantTrue(t, ok, "DiagonalsText ", ds)
		want(t, got, expected, "DiagonalsText ", ds)
		back, ok := impl.ParseDiagonals(got)
		wantTrue(t, ok, "ParseDiagonals ", got)
		want(t, back, ds, "ParseDiagonals ", got)
	}
}

func TestDiagonalsTextOfBadLists(t *testing.T) {
	lists := [][]impl.Diagonal{slices.Repeat(diagonals(0, 1), 13), fan(16), slices.Repeat(diagonals(3, 5), 5000)}
	for _, bad := range diagonals(-1, 2, 0, 12, 11, 12, 12, 13, 2, 2, 0, 0, 3, 1, 11, 0, math.MinInt, 3, 3, math.MaxInt, math.MaxInt, math.MinInt) {
		lists = append(lists, []impl.Diagonal{bad}, []impl.Diagonal{{Low: 0, High: 2}, bad}, []impl.Diagonal{bad, {Low: 0, High: 2}})
	}
	for _, ds := range lists {
		got, ok := impl.DiagonalsText(ds)
		if got != "" || ok {
			t.Errorf("DiagonalsText %v: got %q, %v, want a failure", ds, got, ok)
		}
	}
}

func TestParseDiagonalsOfBadTexts(t *testing.T) {
	texts := []string{
		"", " ", "..", ".,", ",.", ".,0-2", "0-2,.", ",", "-", "0", "0-", "-2", "0-2,", ",0-2", "0-2,,0-3",
		"0-2-4", "0--2", "--", "00-2", "0-02", "+0-2", "0-+2", "-0-2", "0-2 ", " 0-2", "0 -2", "0-2, 0-3", "0-2\n",
		"0-12", "12-13", "11-11", "3-3", "3-1", "0x1-2", "1_0-11", "0-1e1", "0-2;0-3", "0.2", "a-b", "\x000-2", "0-2\xff",
		"0-18446744073709551618", "18446744073709551616-2", "٠-٢", "0–2",
		strings.Repeat("0-1,", 12) + "0-1", strings.Repeat("0-1,", 12), strings.Repeat("0-1,", 50000) + "0-1",
	}
	for _, s := range texts {
		got, ok := impl.ParseDiagonals(s)
		wantFailedList(t, got, ok, "ParseDiagonals ", strconv.Quote(s[:min(len(s), 60)]))
	}
	got, ok := impl.ParseDiagonals(".")
	wantTrue(t, ok, "ParseDiagonals of none")
	want(t, len(got), 0, "ParseDiagonals of none")
}

var textShape = regexp.MustCompile(`^(0|[1-9][0-9]?)-(0|[1-9][0-9]?)$`)

// isText tells the texts by their shape, word by word.
func isText(s string) bool {
	if s == "." {
		return true
	}
	words := strings.Split(s, ",")
	for _, word := range words {
		parts := textShape.FindStringSubmatch(word)
		if parts == nil {
			return false
		}
		low, _ := strconv.Atoi(parts[1])
		high, _ := strconv.Atoi(parts[2])
		if low >= high || high > 11 {
			return false
		}
	}
	return len(words) <= 12
}

func TestParseDiagonalsOfChangedTexts(t *testing.T) {
	for _, s := range []string{".", "0-2", "10-11", "0-2,0-3", "0-10,2-4", strings.Repeat("0-1,", 11) + "0-1"} {
		for _, changed := range changedTexts(s) {
			checkParsed(t, changed)
		}
	}
}

func checkParsed(t *testing.T, s string) {
	t.Helper()
	got, ok := impl.ParseDiagonals(s)
	if !isText(s) {
		wantFailedList(t, got, ok, "ParseDiagonals ", strconv.Quote(s))
		return
	}
	wantTrue(t, ok, "ParseDiagonals ", strconv.Quote(s))
	back, ok := impl.DiagonalsText(got)
	wantTrue(t, ok, "DiagonalsText ", got)
	want(t, back, s, "DiagonalsText ", got)
}

func TestExamplesOfChapter1(t *testing.T) {
	squares, _ := impl.AllTriangulations(4)
	want(t, squares, [][]impl.Diagonal{diagonals(0, 2), diagonals(1, 3)}, "AllTriangulations 4")
	first, _ := impl.QuiddityOf(4, diagonals(0, 2))
	want(t, first, []int{2, 1, 2, 1}, "QuiddityOf 0-2")
	second, _ := impl.QuiddityOf(4, diagonals(1, 3))
	want(t, second, []int{1, 2, 1, 2}, "QuiddityOf 1-3")
	five, _ := impl.FanOf(5, 0)
	text, _ := impl.DiagonalsText(five)
	want(t, text, "0-2,0-3", "DiagonalsText of the fan of 5")
	zigzag, _ := impl.ZigzagOf(6)
	text, _ = impl.DiagonalsText(zigzag)
	want(t, text, "1-4,1-5,2-4", "DiagonalsText of the zigzag of 6")
}
