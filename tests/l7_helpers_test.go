package tests

import (
	"math"
	"slices"
	"sync"

	"loop.example/g01236/impl"
)

// The helpers of this file count by listing all triangulations, and put them into groups by trying all moves.

// gluedPolygons has, for each number of corners, all triangulations: ears are glued to all those of one corner less, at all
// places. There are at least two ears, so that one of them is not at the corner 0, where none is glued.
var gluedPolygons = sync.OnceValue(func() map[int][]polygon {
	all := map[int][]polygon{3: {{3, nil}}}
	for n := 4; n <= impl.MaxCorners; n++ {
		found := map[string]bool{}
		for _, p := range all[n-1] {
			for at := 1; at < n; at++ {
				more := glued(p, at)
				if !found[more.String()] {
					found[more.String()] = true
					all[n] = append(all[n], more)
				}
			}
		}
	}
	return all
})

// countHaving counts the triangulations that have all diagonals of a list.
func countHaving(n int, ds []impl.Diagonal) int {
	count := 0
	for _, p := range gluedPolygons()[n] {
		if len(onlyInFirst(ds, p.ds)) == 0 {
			count++
		}
	}
	return count
}

// uncrossedLists are all lists of diagonals, in order, of which none crosses another one.
func uncrossedLists(n int) [][]impl.Diagonal {
	lists := [][]impl.Diagonal{nil}
	for _, d := range diagonalsOf(n) {
		for _, ds := range lists {
			if longer := append(slices.Clone(ds), d); !anyCross(n, longer) {
				lists = append(lists, longer)
			}
		}
	}
	return lists
}

// partsOfPolygon are some of the diagonals of a triangulation: all, none, those ahead of each place and behind it, and each
// second and each third one.
func partsOfPolygon(p polygon) [][]impl.Diagonal {
	var parts [][]impl.Diagonal
	for at := range len(p.ds) + 1 {
		parts = append(parts, p.ds[:at], p.ds[at:])
	}
	for _, step := range []int{2, 3} {
		for from := range step {
			var part []impl.Diagonal
			for at := from; at < len(p.ds); at += step {
				part = append(part, p.ds[at])
			}
			parts = append(parts, part)
		}
	}
	return parts
}

// noLists are no lists that triangulations may have, each with its number of corners.
func noLists() []polygon {
	var bad []polygon
	for n := 4; n <= 12; n++ {
		for _, d := range noDiagonals(n) {
			bad = append(bad, polygon{n, []impl.Diagonal{d}})
		}
		for _, other := range diagonalsOf(n) {
			bad = append(bad, polygon{n, []impl.Diagonal{other, other}}, polygon{n, append(fan(n), other)})
			for _, d := range diagonalsOf(n) {
				if onBothSides(n, d, other) || compare(d, other) > 0 {
					bad = append(bad, polygon{n, []impl.Diagonal{d, other}})
				}
			}
		}
		backwards := fan(n)
		slices.Reverse(backwards)
		if n > 4 {
			bad = append(bad, polygon{n, backwards})
		}
		bad = append(bad, polygon{n, append(fan(n), line(0, n-1))}, polygon{n, slices.Repeat(diagonals(0, 2), n)}, polygon{n, diagonalsOf(n + 1)})
	}
	for _, n := range noCorners() {
		bad = append(bad, polygon{n, nil}, polygon{n, diagonals(0, 2)})
	}
	return append(bad, polygon{3, diagonals(0, 2)}, polygon{3, diagonals(0, 1)}, polygon{13, fan(13)})
}

// noCorners are numbers that no polygon has.
func noCorners() []int {
	return []int{math.MinInt, -12, -4, -3, -1, 0, 1, 2, 13, 14, 1000, math.MaxInt}
}

// notListed are numbers that no polygon has whose triangulations are listed.
func notListed() []int {
	return append(noCorners(), 9, 10, 11, 12)
}

// compareLists goes by the first diagonals that differ; a list that is the beginning of another one comes before it.
func compareLists(ds []impl.Diagonal, others []impl.Diagonal) int {
	for i := range min(len(ds), len(others)) {
		if ds[i] != others[i] {
			return compare(ds[i], others[i])
		}
	}
	return len(ds) - len(others)
}

// turnedOnes are what turning makes of a triangulation, itself among them.
func turnedOnes(p polygon) []polygon {
	var all []polygon
	for k := range p.n {
		all = append(all, polygon{p.n, moved(p.ds, func(corner int) int { return (corner + k) % p.n })})
	}
	return all
}

func classOf(p polygon) []polygon {
	return append(turnedOnes(p), turnedOnes(mirrored(p))...)
}

func firstOf(all []polygon) polygon {
	first := all[0]
	for _, p := range all {
		if compareLists(p.ds, first.ds) < 0 {
			first = p
		}
	}
	return first
}

func hasPolygon(all []polygon, p polygon) bool {
	return slices.ContainsFunc(all, func(other polygon) bool { return slices.Equal(other.ds, p.ds) })
}

// groupsOf puts all triangulations of n corners into groups of those that moves make of each other; in each group, and of the
// groups, the first one comes first.
func groupsOf(n int, moves func(p polygon) []polygon) [][]polygon {
	var groups [][]polygon
	for _, ds := range triangulationsOf(n) {
		p := polygon{n, ds}
		at := slices.IndexFunc(groups, func(group []polygon) bool { return hasPolygon(moves(group[0]), p) })
		if at < 0 {
			groups = append(groups, []polygon{p})
		} else {
			groups[at] = append(groups[at], p)
		}
	}
	return groups
}

// classPolygons are all triangulations of up to 8 corners, and some of up to 12 corners.
func classPolygons() []polygon {
	all := somePolygons()
	for _, ds := range triangulationsOf(8) {
		all = append(all, polygon{8, ds})
	}
	for n := 9; n <= 12; n++ {
		for at := 0; at < len(gluedPolygons()[n]); at += 97 {
			all = append(all, gluedPolygons()[n][at])
		}
		all = append(all, fanAt(n, 0), fanAt(n, n-1))
	}
	return all
}

// quidditiesOf tells all quiddities by triangles, in order.
func quidditiesOf(n int) [][]int {
	var all [][]int
	for _, ds := range triangulationsOf(n) {
		all = append(all, quiddityOf(n, ds))
	}
	slices.SortFunc(all, func(list []int, other []int) int {
		for i := range list {
			if list[i] != other[i] {
				return list[i] - other[i]
			}
		}
		return 0
	})
	return all
}
