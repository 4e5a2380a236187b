package tests

import (
	"fmt"
	"math"
	"runtime"
	"slices"
	"testing"

	"loop.example/g01236/impl"
)

// The helpers of this file tell polygons in a way of their own, slower and plainer than the program's.

type polygon struct {
	n  int
	ds []impl.Diagonal
}

func (p polygon) String() string { return fmt.Sprint(p.n, " corners ", p.ds) }

// diagonals takes the numbers of the diagonals one after the other, whatever they are.
func diagonals(numbers ...int) []impl.Diagonal {
	var ds []impl.Diagonal
	for i := 0; i+1 < len(numbers); i += 2 {
		ds = append(ds, impl.Diagonal{Low: numbers[i], High: numbers[i+1]})
	}
	return ds
}

func line(a int, b int) impl.Diagonal {
	return impl.Diagonal{Low: min(a, b), High: max(a, b)}
}

func compare(d impl.Diagonal, e impl.Diagonal) int {
	if d.Low != e.Low {
		return d.Low - e.Low
	}
	return d.High - e.High
}

// areNext tells whether two corners are next to each other around.
func areNext(n int, a int, b int) bool {
	return (a+1)%n == b || (b+1)%n == a
}

func diagonalsOf(n int) []impl.Diagonal {
	var ds []impl.Diagonal
	for a := range n {
		for b := a + 1; b < n; b++ {
			if !areNext(n, a, b) {
				ds = append(ds, line(a, b))
			}
		}
	}
	return ds
}

// sideOf walks from the low corner of d up to the high one: 1 for the corners on this way, -1 for the others, 0 for both ends.
func sideOf(n int, d impl.Diagonal, corner int) int {
	if corner == d.Low || corner == d.High {
		return 0
	}
	for at := (d.Low + 1) % n; at != d.High; at = (at + 1) % n {
		if at == corner {
			return 1
		}
	}
	return -1
}

func onBothSides(n int, d impl.Diagonal, e impl.Diagonal) bool {
	return sideOf(n, d, e.Low)*sideOf(n, d, e.High) == -1
}

func anyCross(n int, ds []impl.Diagonal) bool {
	for i := range ds {
		for j := range i {
			if onBothSides(n, ds[i], ds[j]) {
				return true
			}
		}
	}
	return false
}

// triangulationsOf tries all choices of n - 3 diagonals, in order.
func triangulationsOf(n int) [][]impl.Diagonal {
	var found [][]impl.Diagonal
	all := diagonalsOf(n)
	var choose func(from int, chosen []impl.Diagonal)
	choose = func(from int, chosen []impl.Diagonal) {
		if len(chosen) == n-3 {
			if !anyCross(n, chosen) {
				found = append(found, slices.Clone(chosen))
			}
			return
		}
		for i := from; i < len(all); i++ {
			choose(i+1, append(slices.Clone(chosen), all[i]))
		}
	}
	choose(0, nil)
	return found
}

func areJoined(n int, ds []impl.Diagonal, a int, b int) bool {
	return areNext(n, a, b) || slices.Contains(ds, line(a, b))
}

func trianglesOf(n int, ds []impl.Diagonal) [][]int {
	var found [][]int
	for a := range n {
		for b := a + 1; b < n; b++ {
			for c := b + 1; c < n; c++ {
				if areJoined(n, ds, a, b) && areJoined(n, ds, b, c) && areJoined(n, ds, a, c) {
					found = append(found, []int{a, b, c})
				}
			}
		}
	}
	return found
}

func quiddityOf(n int, ds []impl.Diagonal) []int {
	numbers := make([]int, n)
	for _, triangle := range trianglesOf(n, ds) {
		for _, corner := range triangle {
			numbers[corner]++
		}
	}
	return numbers
}

// moved puts each corner where the rule says, and the diagonals in order again.
func moved(ds []impl.Diagonal, to func(corner int) int) []impl.Diagonal {
	var out []impl.Diagonal
	for _, d := range ds {
		out = append(out, line(to(d.Low), to(d.High)))
	}
	slices.SortFunc(out, compare)
	return out
}

// glued has a new corner with the number at, which one diagonal cuts off.
func glued(p polygon, at int) polygon {
	n := p.n + 1
	ds := moved(p.ds, func(corner int) int {
		if corner >= at {
			return corner + 1
		}
		return corner
	})
	ds = append(ds, line(at-1, (at+1)%n))
	slices.SortFunc(ds, compare)
	return polygon{n, ds}
}

// withoutEar is the polygon without the corner at, which is in one triangle only.
func withoutEar(p polygon, at int) polygon {
	cut := line((at+p.n-1)%p.n, (at+1)%p.n)
	var left []impl.Diagonal
	for _, d := range p.ds {
		if d != cut {
			left = append(left, d)
		}
	}
	return polygon{p.n - 1, moved(left, func(corner int) int {
		if corner > at {
			return corner - 1
		}
		return corner
	})}
}

// fan has all diagonals at the corner 0, also for more corners than a polygon may have.
func fan(n int) []impl.Diagonal {
	var ds []impl.Diagonal
	for b := 2; b <= n-2; b++ {
		ds = append(ds, line(0, b))
	}
	return ds
}

// fanNumbers is the quiddity of fan.
func fanNumbers(n int) []int {
	numbers := slices.Repeat([]int{2}, n)
	numbers[0], numbers[1], numbers[n-1] = n-2, 1, 1
	return numbers
}

// smallPolygons are all triangulations of 3..7 corners.
func smallPolygons() []polygon {
	var all []polygon
	for n := 3; n <= 7; n++ {
		for _, ds := range triangulationsOf(n) {
			all = append(all, polygon{n, ds})
		}
	}
	return all
}

// widePolygons are some triangulations of 8..12 corners: triangles to which ears are glued at ever other places.
func widePolygons() []polygon {
	var all []polygon
	for step := 1; step <= 12; step++ {
		p := polygon{3, nil}
		for at := 1; p.n < impl.MaxCorners; at += step {
			p = glued(p, at%p.n+1)
			if p.n >= 8 {
				all = append(all, p)
			}
		}
	}
	return all
}

func somePolygons() []polygon {
	return append(smallPolygons(), widePolygons()...)
}

// badPolygons are no triangulations, each for one reason.
func badPolygons() []polygon {
	return []polygon{
		{0, nil},
		{1, nil},
		{2, nil},
		{-5, nil},
		{math.MinInt, nil},
		{math.MaxInt, nil},
		{13, fan(13)},
		{100, fan(100)},
		{3, diagonals(0, 2)},
		{3, diagonals(0, 1)},
		{4, nil},
		{4, diagonals(0, 2, 1, 3)},
		{4, diagonals(0, 1)},
		{4, diagonals(0, 3)},
		{4, diagonals(2, 0)},
		{4, diagonals(2, 2)},
		{4, diagonals(-1, 2)},
		{4, diagonals(2, 4)},
		{4, diagonals(math.MinInt, math.MaxInt)},
		{5, diagonals(0, 2)},
		{5, diagonals(0, 2, 0, 3, 0, 4)},
		{5, diagonals(0, 3, 0, 2)},
		{5, diagonals(1, 3, 0, 3)},
		{5, diagonals(0, 2, 0, 2)},
		{5, diagonals(0, 2, 1, 3)},
		{5, diagonals(0, 3, 2, 4)},
		{5, diagonals(0, 2, 2, 5)},
		{5, diagonals(0, 2, 0, 4)},
		{5, diagonals(0, 2, 4, 2)},
		{6, diagonals(0, 2, 0, 3)},
		{6, diagonals(0, 2, 0, 4, 1, 3)},
		{6, diagonals(0, 3, 1, 4, 2, 5)},
		{6, diagonals(0, 2, 2, 4, 0, 4)},
		{6, diagonals(0, 2, 0, 2, 0, 3)},
		{12, fan(11)},
		{12, fan(13)},
	}
}

// spoiled makes of a triangulation what is nearly one: with a diagonal less, one twice, two not in order, one that crosses.
func spoiled(p polygon) []polygon {
	var all []polygon
	for i, d := range p.ds {
		all = append(all,
			polygon{p.n, slices.Delete(slices.Clone(p.ds), i, i+1)},
			polygon{p.n, slices.Insert(slices.Clone(p.ds), i, d)})
		if i > 0 {
			swapped, double := slices.Clone(p.ds), slices.Clone(p.ds)
			swapped[i-1], swapped[i] = swapped[i], swapped[i-1]
			double[i-1] = d
			all = append(all, polygon{p.n, swapped}, polygon{p.n, double})
		}
		for _, e := range diagonalsOf(p.n) {
			other := slices.Clone(p.ds)
			other[i] = e
			slices.SortFunc(other, compare)
			if anyCross(p.n, other) {
				all = append(all, polygon{p.n, other})
			}
		}
	}
	return all
}

// badQuiddities are no quiddities, most of them with the right sum.
func badQuiddities() [][]int {
	return [][]int{
		nil,
		{},
		{1},
		{0, 0},
		{1, 1},
		{0, 1, 2},
		{2, 1, 1},
		{1, 1, 0},
		{0, 0, 0},
		{1, 1, 2},
		{1, 1, 1, 1},
		{1, 1, 2, 2},
		{2, 2, 1, 1},
		{2, 1, 1, 2},
		{1, 2, 2, 1},
		{1, 2, 3, 2, 1},
		{1, 3, 1, 1},
		{1, 2, 1, 3},
		{0, 2, 2, 2},
		{1, 2, 1, 2, 0},
		{2, 2, 2, 2, 1},
		{1, 1, 2, 2, 3},
		{2, 2, 2, 2, 2, 2},
		{1, 1, 1, 3, 3, 3},
		{4, 1, 1, 4, 1, 1},
		{1, 5, 1, 2, 1, 2},
		{1, -1, 1, 5, 1, 5},
		{1, 2, 1, math.MaxInt},
		{math.MinInt, 1, math.MinInt, 6},
		{math.MaxInt, math.MaxInt, 8},
		slices.Repeat([]int{math.MinInt}, 12),
		slices.Repeat([]int{1}, 12),
		slices.Repeat([]int{2}, 12),
		fanNumbers(13),
		slices.Repeat([]int{1, 3}, 8)[:13],
		fanNumbers(1000),
	}
}

// changedTexts changes a text by one byte, put in, put in place of another one, or taken out.
func changedTexts(s string) []string {
	var texts []string
	for at := range len(s) {
		texts = append(texts, s[:at]+s[at+1:])
		for b := range 256 {
			texts = append(texts, s[:at]+string([]byte{byte(b)})+s[at:], s[:at]+string([]byte{byte(b)})+s[at+1:])
		}
	}
	return texts
}

func want[T any](t *testing.T, got T, expected T, what ...any) {
	t.Helper()
	if fmt.Sprint(got) != fmt.Sprint(expected) {
		t.Errorf("%v: got %v, want %v", fmt.Sprint(what...), got, expected)
	}
}

// wantTrue is for the last result of a call.
func wantTrue(t *testing.T, ok bool, what ...any) {
	t.Helper()
	if !ok {
		t.Errorf("%v: failed", fmt.Sprint(what...))
	}
}

func wantFailedList[T any](t *testing.T, got []T, ok bool, what ...any) {
	t.Helper()
	if ok || len(got) != 0 {
		t.Errorf("%v: got %v, %v, want a failure", fmt.Sprint(what...), got, ok)
	}
}

// wantNoGoroutines tells whether there are no more goroutines than there were before.
func wantNoGoroutines(t *testing.T, before int) {
	t.Helper()
	// A goroutine that has sent all it had may take a moment to be gone.
	for range 1000000 {
		if runtime.NumGoroutine() <= before {
			return
		}
		runtime.Gosched()
	}
	t.Errorf("%d goroutines are left behind", runtime.NumGoroutine()-before)
}
