package tests

import (
	"fmt"
	"math"
	"slices"
	"sync"

	"loop.example/g01236/impl"
)

// The helpers of this file tell pieces by walking around them, and count cuts by the piece at one side.

// cutsOf are all cuts of n corners, n in 3..9, in lexicographic order.
var cutsOf = sync.OnceValue(func() map[int][][]impl.Diagonal {
	all := map[int][][]impl.Diagonal{}
	for n := 3; n <= 9; n++ {
		all[n] = uncrossedLists(n)
		slices.SortFunc(all[n], compareLists)
	}
	return all
})

func cutsWith(n int, count int) [][]impl.Diagonal {
	return slices.DeleteFunc(slices.Clone(cutsOf()[n]), func(ds []impl.Diagonal) bool { return len(ds) != count })
}

func smallCuts() []polygon {
	var all []polygon
	for n := 3; n <= 8; n++ {
		for _, ds := range cutsOf()[n] {
			all = append(all, polygon{n, ds})
		}
	}
	return all
}

// wideCuts are some cuts of 8..12 corners, those without diagonals and those with one among them.
func wideCuts() []polygon {
	var all []polygon
	for _, p := range widePolygons() {
		for _, ds := range partsOfPolygon(p) {
			all = append(all, polygon{p.n, ds})
		}
	}
	for n := 9; n <= 12; n++ {
		for _, d := range diagonalsOf(n) {
			all = append(all, polygon{n, []impl.Diagonal{d}})
		}
		all = append(all, polygon{n, []impl.Diagonal{}}, fanAt(n, 0), fanAt(n, n-1))
	}
	return all
}

func someCuts() []polygon {
	return append(smallCuts(), wideCuts()...)
}

// crossingDiagonals are those that cross a diagonal of a cut.
func crossingDiagonals(p polygon) []impl.Diagonal {
	return slices.DeleteFunc(diagonalsOf(p.n), func(d impl.Diagonal) bool {
		return !slices.ContainsFunc(p.ds, func(e impl.Diagonal) bool { return onBothSides(p.n, d, e) })
	})
}

// freeDiagonals are those that a cut has not and that cross none of it.
func freeDiagonals(p polygon) []impl.Diagonal {
	return onlyInFirst(onlyInFirst(diagonalsOf(p.n), crossingDiagonals(p)), p.ds)
}

// spoiledCuts makes of a cut what is nearly one: with a diagonal twice, two not in order, one that crosses at its place.
func spoiledCuts(p polygon) []polygon {
	var all []polygon
	for i, d := range p.ds {
		all = append(all, polygon{p.n, slices.Insert(slices.Clone(p.ds), i, d)}, polygon{p.n, append(slices.Clone(p.ds), d)})
		if i > 0 {
			swapped := slices.Clone(p.ds)
			swapped[i-1], swapped[i] = swapped[i], swapped[i-1]
			all = append(all, polygon{p.n, swapped})
		}
	}
	for _, d := range crossingDiagonals(p) {
		all = append(all, polygon{p.n, with(p.ds, d)})
	}
	for _, d := range noDiagonals(p.n) {
		all = append(all, polygon{p.n, with(p.ds, d)})
	}
	return all
}

// noCuts are no cuts, each with its number of corners.
func noCuts() []polygon {
	bad := noLists()
	for n := 3; n <= 6; n++ {
		for _, ds := range cutsOf()[n] {
			bad = append(bad, spoiledCuts(polygon{n, ds})...)
		}
	}
	for i, p := range wideCuts() {
		if i%50 == 0 {
			bad = append(bad, spoiledCuts(p)...)
		}
	}
	return bad
}

// notAddable are the numbers of diagonals that no cut of n corners has.
func notAddable(n int) []int {
	return []int{math.MinInt, math.MinInt + n, -n, -2, -1, n - 2, n - 1, n, 2 * n, 1000, math.MaxInt - 1, math.MaxInt}
}

// noSizes are numbers that no piece may have.
func noSizes() []int {
	return []int{math.MinInt, math.MinInt + 2, -1000, -4, -3, -2, -1, 0, 1, 2}
}

// walkAround goes along the piece that is behind the way up from one corner to another one: from each corner to the last one
// that is joined to it and that is not behind the first one.
func walkAround(p polygon, from int, to int) []int {
	piece := []int{from, to}
	for at := to; at != from; {
		next := at
		for way := (at + 1) % p.n; ; way = (way + 1) % p.n {
			if areJoined(p.n, p.ds, at, way) && (way != from || len(piece) > 2) {
				next = way
			}
			if way == from {
				break
			}
		}
		at = next
		piece = append(piece, at)
	}
	piece = piece[:len(piece)-1]
	slices.Sort(piece)
	return piece
}

// piecesOf walks around the pieces from all their sides.
func piecesOf(p polygon) [][]int {
	var pieces [][]int
	found := map[string]bool{}
	add := func(from int, to int) {
		piece := walkAround(p, from, to)
		if key := fmt.Sprint(piece); !found[key] {
			found[key] = true
			pieces = append(pieces, piece)
		}
	}
	for at := range p.n {
		add(at, (at+1)%p.n)
	}
	for _, d := range p.ds {
		add(d.Low, d.High)
		add(d.High, d.Low)
	}
	slices.SortFunc(pieces, slices.Compare)
	return pieces
}

func sizesOf(p polygon) []int {
	var sizes []int
	for _, piece := range piecesOf(p) {
		sizes = append(sizes, len(piece))
	}
	slices.Sort(sizes)
	return sizes
}

func isEqualFor(p polygon, size int) bool {
	return !slices.ContainsFunc(sizesOf(p), func(other int) bool { return other != size })
}

// addProduct adds the product of two lists of numbers to a third one: the places of the factors are added, and one number of
// diagonals more.
func addProduct(counts []int, first []int, second []int, more int) {
	for i, a := range first {
		for j, b := range second {
			if a*b != 0 {
				counts[i+j+more] += a * b
			}
		}
	}
}

// countsByPieces tells how many cuts have 0, 1, .. n - 3 diagonals. The piece at the side of the corners 0 and n - 1 goes from
// one to the other by at least two steps, each along a side, or along a diagonal that has a cut of its own behind it.
func countsByPieces(n int) []int {
	cuts := make([]int, n)
	for step := 1; step <= n-2; step++ {
		addStep(cuts, step, waysOn(n-1-step))
	}
	return cuts[:n-2]
}

func addStep(counts []int, step int, rest []int) {
	if step == 1 {
		addProduct(counts, []int{1}, rest, 0)
	} else {
		addProduct(counts, countsByPieces(step+1), rest, 1)
	}
}

// waysOn are the ways to go so far on, by any number of steps.
func waysOn(far int) []int {
	if far == 0 {
		return []int{1}
	}
	ways := make([]int, far+1)
	for step := 1; step <= far; step++ {
		addStep(ways, step, waysOn(far-step))
	}
	return ways
}

// equalByPieces counts cuts that are equal for a size in the same way: one piece has size - 1 steps.
func equalByPieces(n int, size int) int {
	if n == 2 {
		return 1
	}
	return equalSteps(n-1, size-1, size)
}

func equalSteps(far int, steps int, size int) int {
	if steps == 0 {
		if far == 0 {
			return 1
		}
		return 0
	}
	count := 0
	for step := 1; step <= far-(steps-1); step++ {
		count += equalByPieces(step+1, size) * equalSteps(far-step, steps-1, size)
	}
	return count
}

// sizeLists are all lists of sizes whose pieces have at most so many corners together.
func sizeLists(corners int) [][]int {
	var lists [][]int
	for size := 3; size <= corners; size++ {
		lists = append(lists, []int{size})
		for _, rest := range sizeLists(corners - (size - 2)) {
			lists = append(lists, append([]int{size}, rest...))
		}
	}
	return lists
}

// noSizeLists are lists of sizes that no cut has: too few, too many, too small, too great.
func noSizeLists() [][]int {
	lists := [][]int{nil, {}, {13}, {12, 3}, {3, 12}, {7, 8}, {4, 4, 4, 4, 4, 3}, {3, 3, 3, 3, 3, 3, 3, 3, 3, 4}, {4, 3, 3, 3, 3, 3, 3, 3, 3, 3}}
	for count := 11; count <= 14; count++ {
		lists = append(lists, slices.Repeat([]int{3}, count))
	}
	for _, size := range noSizes() {
		lists = append(lists, []int{size}, []int{size, 3}, []int{3, size}, []int{4, size, 4}, []int{3, 3, 3, 3, 3, 3, 3, 3, 3, size}, []int{12, size})
	}
	for _, size := range []int{1000, math.MaxInt32, math.MaxInt / 2, math.MaxInt/2 + 2, math.MaxInt - 1, math.MaxInt} {
		lists = append(lists, []int{size}, []int{3, size}, []int{size, 3}, []int{6, size}, []int{4, 4, size, 3}, []int{size, size}, []int{size, size, 4, 6}, slices.Repeat([]int{size}, 4), slices.Repeat([]int{size}, 10))
	}
	// Added without looking at each size, these wrap around to 5 corners.
	half := math.MaxInt/2 + 1
	return append(lists, []int{half + 2, half + 2, half + 2, half + 2, 5}, []int{5, half + 2, half + 2, half + 2, half + 2})
}
