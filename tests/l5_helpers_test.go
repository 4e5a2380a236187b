package tests

import (
	"math"
	"slices"
	"testing"

	"loop.example/g01236/impl"
)

// without is the list without a diagonal.
func without(ds []impl.Diagonal, d impl.Diagonal) []impl.Diagonal {
	return slices.DeleteFunc(slices.Clone(ds), func(e impl.Diagonal) bool { return e == d })
}

func with(ds []impl.Diagonal, d impl.Diagonal) []impl.Diagonal {
	longer := append(slices.Clone(ds), d)
	slices.SortFunc(longer, compare)
	return longer
}

// flipOf tries all diagonals in place of one: there is one other that crosses none of those that are left.
func flipOf(p polygon, d impl.Diagonal) (polygon, impl.Diagonal) {
	left := without(p.ds, d)
	for _, e := range diagonalsOf(p.n) {
		if e == d || slices.Contains(left, e) {
			continue
		}
		if flipped := with(left, e); !anyCross(p.n, flipped) {
			return polygon{p.n, flipped}, e
		}
	}
	return p, impl.Diagonal{}
}

func flipsOf(p polygon) []polygon {
	var all []polygon
	for _, d := range p.ds {
		flipped, _ := flipOf(p, d)
		all = append(all, flipped)
	}
	return all
}

// onlyInFirst are the diagonals of the first list that the second one does not have.
func onlyInFirst(first []impl.Diagonal, second []impl.Diagonal) []impl.Diagonal {
	return slices.DeleteFunc(slices.Clone(first), func(d impl.Diagonal) bool { return slices.Contains(second, d) })
}

func fanAt(n int, at int) polygon {
	return polygon{n, moved(fan(n), func(corner int) int { return (corner + at) % n })}
}

// A flipTable has all triangulations of n corners, in order, where each flip leads, and all distances.
type flipTable struct {
	n         int
	all       []polygon
	next      [][]int
	distances [][]int
}

// flipTableOf shortens distances by going through each triangulation, one after the other, until none gets shorter.
func flipTableOf(n int) flipTable {
	table := flipTable{n: n}
	places := map[string]int{}
	for place, ds := range triangulationsOf(n) {
		table.all = append(table.all, polygon{n, ds})
		places[polygon{n, ds}.String()] = place
	}
	for i, p := range table.all {
		var next []int
		row := slices.Repeat([]int{1000}, len(table.all))
		row[i] = 0
		for _, flipped := range flipsOf(p) {
			next = append(next, places[flipped.String()])
			row[places[flipped.String()]] = 1
		}
		table.next = append(table.next, next)
		table.distances = append(table.distances, row)
	}
	for by := range table.all {
		for i := range table.all {
			for j := range table.all {
				table.distances[i][j] = min(table.distances[i][j], table.distances[i][by]+table.distances[by][j])
			}
		}
	}
	return table
}

// firstList tries all lists of so many flips, in order, until one leads there.
func (table flipTable) firstList(from int, to int, flips int) ([]impl.Diagonal, bool) {
	if flips == 0 {
		return nil, from == to
	}
	for i, d := range table.all[from].ds {
		if rest, ok := table.firstList(table.next[from][i], to, flips-1); ok {
			return slices.Concat(diagonals(d.Low, d.High), rest), true
		}
	}
	return nil, false
}

// countsFrom counts the distances from a triangulation, up to the greatest one.
func (table flipTable) countsFrom(from int) []int {
	counts := make([]int, slices.Max(table.distances[from])+1)
	for _, distance := range table.distances[from] {
		counts[distance]++
	}
	return counts
}

// farthestFrom goes through all triangulations in order: only a greater distance takes the place of one.
func (table flipTable) farthestFrom(from int) (polygon, int) {
	farthest := 0
	for place, distance := range table.distances[from] {
		if distance > table.distances[from][farthest] {
			farthest = place
		}
	}
	return table.all[farthest], table.distances[from][farthest]
}

// startsOf are the places of all triangulations of up to 7 corners, and of some of 8, as these have very many pairs.
func (table flipTable) startsOf() []int {
	step := 1
	if table.n == 8 {
		step = 7
	}
	var starts []int
	for place := 0; place < len(table.all); place += step {
		starts = append(starts, place)
	}
	return starts
}

// A polygonPair has two triangulations, of one polygon unless it is told otherwise.
type polygonPair struct {
	a, b polygon
}

// somePairs are all pairs of triangulations of up to 6 corners, and some of up to 12 corners.
func somePairs() []polygonPair {
	var pairs []polygonPair
	for n := 3; n <= 6; n++ {
		for _, a := range triangulationsOf(n) {
			for _, b := range triangulationsOf(n) {
				pairs = append(pairs, polygonPair{polygon{n, a}, polygon{n, b}})
			}
		}
	}
	some := widePolygons()
	for n := 7; n <= 12; n++ {
		some = append(some, fanAt(n, 0), fanAt(n, n-1), fanAt(n, n/2))
	}
	for _, a := range some {
		for _, b := range some {
			if a.n == b.n {
				pairs = append(pairs, polygonPair{a, b})
			}
		}
		for _, b := range flipsOf(a) {
			pairs = append(pairs, polygonPair{a, b})
		}
	}
	return pairs
}

// badPairs have one triangulation, or none; those with two are of two polygons.
func badPairs() []polygonPair {
	var pairs []polygonPair
	for n := 3; n <= 12; n++ {
		good, less, more := polygon{n, fan(n)}, polygon{n, fan(n - 1)}, polygon{n, fan(n + 1)}
		for _, bad := range append(spoiled(good), less, more, polygon{n, fan(13)}) {
			if n > 3 || len(bad.ds) > 0 {
				pairs = append(pairs, polygonPair{good, bad}, polygonPair{bad, good}, polygonPair{bad, bad})
			}
		}
	}
	for _, bad := range badPolygons() {
		pairs = append(pairs, polygonPair{bad, bad})
		if bad.n >= 3 && bad.n <= 12 {
			pairs = append(pairs, polygonPair{bad, fanAt(bad.n, 0)}, polygonPair{fanAt(bad.n, 1), bad})
		}
	}
	return pairs
}

// noDiagonals are corners that no triangulation of n corners joins.
func noDiagonals(n int) []impl.Diagonal {
	return diagonals(0, 0, 0, 1, 0, n-1, n-2, n-1, 1, 1, 2, 0, n-1, 1, -1, 1, 0, n, 2, n, n, n+2, -2, -4, math.MinInt, math.MaxInt, math.MaxInt, math.MinInt, 0, math.MaxInt, math.MinInt, 2)
}

func wantFailedDiagonal(t *testing.T, got impl.Diagonal, ok bool, what ...any) {
	t.Helper()
	want(t, ok, false, what...)
	want(t, got, impl.Diagonal{}, what...)
}
