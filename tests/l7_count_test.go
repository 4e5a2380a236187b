package tests

import (
	"math"
	"slices"
	"testing"

	"loop.example/g01236/impl"
)

func TestLimitOfChapter7(t *testing.T) {
	want(t, impl.MaxListedCorners, 8, "MaxListedCorners")
}

func TestCountTriangulations(t *testing.T) {
	known := []int{1, 2, 5, 14, 42, 132, 429, 1430, 4862, 16796}
	for n := 3; n <= 12; n++ {
		got, ok := impl.CountTriangulations(n)
		wantTrue(t, ok, "CountTriangulations ", n)
		want(t, got, known[n-3], "CountTriangulations ", n)
		want(t, got, len(gluedPolygons()[n]), "CountTriangulations ", n, " as many as are listed")
	}
}

func TestCountByEars(t *testing.T) {
	for n := 3; n <= 12; n++ {
		expected := make([]int, n+1)
		for _, p := range gluedPolygons()[n] {
			ears := 0
			for _, number := range quiddityOf(n, p.ds) {
				if number == 1 {
					ears++
				}
			}
			expected[ears]++
		}
		got, ok := impl.CountByEars(n)
		wantTrue(t, ok, "CountByEars ", n)
		want(t, got, expected, "CountByEars ", n)
		count, _ := impl.CountTriangulations(n)
		want(t, sum(got), count, "CountByEars together ", n)
	}
}

func TestCountByEarsThatAreKnown(t *testing.T) {
	known := [][]int{
		{0, 0, 0, 1},
		{0, 0, 2, 0, 0},
		{0, 0, 5, 0, 0, 0},
		{0, 0, 12, 2, 0, 0, 0},
		{0, 0, 28, 14, 0, 0, 0, 0},
		{0, 0, 64, 64, 4, 0, 0, 0, 0},
	}
	for i, counts := range known {
		got, ok := impl.CountByEars(i + 3)
		wantTrue(t, ok, "CountByEars ", i+3)
		want(t, got, counts, "CountByEars ", i+3)
	}
	most, _ := impl.CountByEars(12)
	want(t, most, []int{0, 0, 1536, 7168, 6720, 1344, 28, 0, 0, 0, 0, 0, 0}, "CountByEars ", 12)
}

func TestCountByCorner(t *testing.T) {
	for n := 3; n <= 12; n++ {
		for _, corner := range []int{0, n - 1} {
			expected := make([]int, n-1)
			for _, p := range gluedPolygons()[n] {
				expected[quiddityOf(n, p.ds)[corner]]++
			}
			got, ok := impl.CountByCorner(n)
			wantTrue(t, ok, "CountByCorner ", n)
			want(t, got, expected, "CountByCorner ", n, " counted at ", corner)
		}
		got, _ := impl.CountByCorner(n)
		count, _ := impl.CountTriangulations(n)
		want(t, sum(got), count, "CountByCorner together ", n)
	}
}

func TestCountByCornerThatAreKnown(t *testing.T) {
	known := [][]int{
		{0, 1},
		{0, 1, 1},
		{0, 2, 2, 1},
		{0, 5, 5, 3, 1},
		{0, 14, 14, 9, 4, 1},
		{0, 42, 42, 28, 14, 5, 1},
	}
	for i, counts := range known {
		got, ok := impl.CountByCorner(i + 3)
		wantTrue(t, ok, "CountByCorner ", i+3)
		want(t, got, counts, "CountByCorner ", i+3)
	}
	most, _ := impl.CountByCorner(12)
	want(t, most, []int{0, 4862, 4862, 3432, 2002, 1001, 429, 154, 44, 9, 1}, "CountByCorner ", 12)
}

func TestNoCountsOfNoPolygons(t *testing.T) {
	for _, n := range noCorners() {
		count, ok := impl.CountTriangulations(n)
		wantFailedNumber(t, count, ok, "CountTriangulations ", n)
		counts, ok := impl.CountByEars(n)
		wantFailedList(t, counts, ok, "CountByEars ", n)
		counts, ok = impl.CountByCorner(n)
		wantFailedList(t, counts, ok, "CountByCorner ", n)
	}
}

func TestCountWithAllLists(t *testing.T) {
	for n := 3; n <= 8; n++ {
		for _, ds := range uncrossedLists(n) {
			got, ok := impl.CountWith(n, ds)
			wantTrue(t, ok, "CountWith ", n, ds)
			want(t, got, countHaving(n, ds), "CountWith ", n, ds)
		}
	}
}

func TestCountWithPartsOfTriangulations(t *testing.T) {
	var some []polygon
	for n := 9; n <= 12; n++ {
		some = append(some, fanAt(n, 0), fanAt(n, n/2))
	}
	for _, p := range append(some, widePolygons()...) {
		for _, ds := range partsOfPolygon(p) {
			got, ok := impl.CountWith(p.n, ds)
			wantTrue(t, ok, "CountWith ", p.n, ds)
			want(t, got, countHaving(p.n, ds), "CountWith ", p.n, ds)
		}
	}
}

func TestCountWithThatAreKnown(t *testing.T) {
	known := []struct {
		p     polygon
		count int
	}{
		{polygon{3, nil}, 1},
		{polygon{4, nil}, 2},
		{polygon{4, diagonals(0, 2)}, 1},
		{polygon{4, diagonals(1, 3)}, 1},
		{polygon{5, nil}, 5},
		{polygon{5, diagonals(2, 4)}, 2},
		{polygon{6, diagonals(0, 3)}, 4},
		{polygon{6, diagonals(1, 3)}, 5},
		{polygon{6, diagonals(0, 2, 0, 4)}, 2},
		{polygon{12, nil}, 16796},
		{polygon{12, diagonals(0, 2)}, 4862},
		{polygon{12, diagonals(1, 11)}, 4862},
		{polygon{12, diagonals(9, 11)}, 4862},
		{polygon{12, diagonals(0, 6)}, 1764},
		{polygon{12, diagonals(5, 11)}, 1764},
		{polygon{12, diagonals(0, 2, 2, 4, 4, 6, 6, 8, 8, 10)}, 42},
		{polygon{12, diagonals(0, 2, 0, 10, 2, 4, 4, 6, 6, 8, 8, 10)}, 14},
		{polygon{12, diagonals(0, 3, 3, 6, 6, 9)}, 112},
		{polygon{12, diagonals(1, 10, 2, 9, 3, 8, 4, 7)}, 32},
		{polygon{12, fan(12)}, 1},
	}
	for _, k := range known {
		got, ok := impl.CountWith(k.p.n, k.p.ds)
		wantTrue(t, ok, "CountWith ", k.p)
		want(t, got, k.count, "CountWith ", k.p)
	}
}

func TestCountWithoutDiagonalsAndWithAll(t *testing.T) {
	for n := 3; n <= 12; n++ {
		all, _ := impl.CountTriangulations(n)
		for _, none := range [][]impl.Diagonal{nil, {}} {
			got, ok := impl.CountWith(n, none)
			wantTrue(t, ok, "CountWith no diagonal ", n)
			want(t, got, all, "CountWith no diagonal ", n)
		}
	}
	for _, p := range somePolygons() {
		got, ok := impl.CountWith(p.n, p.ds)
		wantTrue(t, ok, "CountWith ", p)
		want(t, got, 1, "CountWith ", p)
	}
}

func TestCountWithNoLists(t *testing.T) {
	for _, p := range noLists() {
		got, ok := impl.CountWith(p.n, p.ds)
		wantFailedNumber(t, got, ok, "CountWith ", p)
	}
}

func TestRanksOfTriangulations(t *testing.T) {
	for n := 3; n <= 8; n++ {
		for rank, ds := range triangulationsOf(n) {
			got, ok := impl.RankOfTriangulation(n, ds)
			wantTrue(t, ok, "RankOfTriangulation ", n, ds)
			want(t, got, rank, "RankOfTriangulation ", n, ds)
			back, ok := impl.TriangulationOfRank(n, rank)
			wantTrue(t, ok, "TriangulationOfRank ", n, rank)
			want(t, back, ds, "TriangulationOfRank ", n, rank)
		}
	}
}

func TestRanksThatAreKnown(t *testing.T) {
	known := []struct {
		p    polygon
		rank int
	}{
		{polygon{3, nil}, 0},
		{polygon{4, diagonals(0, 2)}, 0},
		{polygon{4, diagonals(1, 3)}, 1},
		{polygon{5, diagonals(0, 2, 0, 3)}, 0},
		{polygon{5, diagonals(0, 2, 2, 4)}, 1},
		{polygon{5, diagonals(0, 3, 1, 3)}, 2},
		{polygon{5, diagonals(1, 3, 1, 4)}, 3},
		{polygon{5, diagonals(1, 4, 2, 4)}, 4},
		{polygon{6, diagonals(1, 5, 2, 5, 3, 5)}, 13},
		{polygon{7, diagonals(1, 6, 2, 6, 3, 6, 4, 6)}, 41},
		{fanAt(8, 0), 0},
		{fanAt(8, 7), 131},
	}
	for _, k := range known {
		got, ok := impl.RankOfTriangulation(k.p.n, k.p.ds)
		wantTrue(t, ok, "RankOfTriangulation ", k.p)
		want(t, got, k.rank, "RankOfTriangulation ", k.p)
		back, ok := impl.TriangulationOfRank(k.p.n, k.rank)
		wantTrue(t, ok, "TriangulationOfRank ", k.p.n, k.rank)
		want(t, back, k.p.ds, "TriangulationOfRank ", k.p.n, k.rank)
	}
}

func TestNoTriangulationsOfOtherRanks(t *testing.T) {
	for n := 3; n <= 8; n++ {
		count, _ := impl.CountTriangulations(n)
		for _, rank := range []int{math.MinInt, -count, -2, -1, count, count + 1, 2 * count, 1000, math.MaxInt} {
			got, ok := impl.TriangulationOfRank(n, rank)
			wantFailedList(t, got, ok, "TriangulationOfRank ", n, rank)
		}
	}
	for _, n := range notListed() {
		for _, rank := range []int{math.MinInt, -1, 0, 1, 5, math.MaxInt} {
			got, ok := impl.TriangulationOfRank(n, rank)
			wantFailedList(t, got, ok, "TriangulationOfRank ", n, rank)
		}
	}
}

func TestNoRanksOfNoListedTriangulations(t *testing.T) {
	bad := badPolygons()
	for _, p := range smallPolygons() {
		bad = append(bad, spoiled(p)...)
	}
	for _, p := range widePolygons() {
		bad = append(bad, spoiled(p)...)
		if p.n > 8 {
			bad = append(bad, p)
		}
	}
	for _, p := range bad {
		got, ok := impl.RankOfTriangulation(p.n, p.ds)
		wantFailedNumber(t, got, ok, "RankOfTriangulation ", p)
	}
}

func TestLeastTurnedAndLeastOfClass(t *testing.T) {
	for _, p := range classPolygons() {
		turned, ok := impl.LeastTurned(p.n, p.ds)
		wantTrue(t, ok, "LeastTurned ", p)
		want(t, turned, firstOf(turnedOnes(p)).ds, "LeastTurned ", p)
		least, ok := impl.LeastOfClass(p.n, p.ds)
		wantTrue(t, ok, "LeastOfClass ", p)
		want(t, least, firstOf(classOf(p)).ds, "LeastOfClass ", p)
		want(t, compareLists(least, turned) <= 0, true, "LeastOfClass comes not behind LeastTurned ", p)
	}
}

func TestOneLeastForAllOfAClass(t *testing.T) {
	for _, p := range widePolygons() {
		turned, _ := impl.LeastTurned(p.n, p.ds)
		for _, other := range turnedOnes(p) {
			got, _ := impl.LeastTurned(p.n, other.ds)
			want(t, got, turned, "LeastTurned ", other)
		}
		least, _ := impl.LeastOfClass(p.n, p.ds)
		for _, other := range classOf(p) {
			got, _ := impl.LeastOfClass(p.n, other.ds)
			want(t, got, least, "LeastOfClass ", other)
		}
	}
}

func TestLeastOnesThatAreKnown(t *testing.T) {
	known := []struct {
		p             polygon
		turned, least []impl.Diagonal
	}{
		{polygon{3, nil}, nil, nil},
		{polygon{4, diagonals(1, 3)}, diagonals(0, 2), diagonals(0, 2)},
		{polygon{5, diagonals(1, 4, 2, 4)}, diagonals(0, 2, 0, 3), diagonals(0, 2, 0, 3)},
		{polygon{6, diagonals(1, 3, 1, 5, 3, 5)}, diagonals(0, 2, 0, 4, 2, 4), diagonals(0, 2, 0, 4, 2, 4)},
		// Both zigzags of the hexagon are of one class, but turning makes none of the other one.
		{polygon{6, diagonals(1, 4, 1, 5, 2, 4)}, diagonals(0, 2, 2, 5, 3, 5), diagonals(0, 2, 0, 3, 3, 5)},
		{polygon{6, diagonals(0, 4, 1, 3, 1, 4)}, diagonals(0, 2, 0, 3, 3, 5), diagonals(0, 2, 0, 3, 3, 5)},
		{fanAt(12, 11), fan(12), fan(12)},
	}
	for _, k := range known {
		turned, ok := impl.LeastTurned(k.p.n, k.p.ds)
		wantTrue(t, ok, "LeastTurned ", k.p)
		want(t, turned, k.turned, "LeastTurned ", k.p)
		least, ok := impl.LeastOfClass(k.p.n, k.p.ds)
		wantTrue(t, ok, "LeastOfClass ", k.p)
		want(t, least, k.least, "LeastOfClass ", k.p)
	}
}

func TestNoClassesOfNoTriangulations(t *testing.T) {
	bad := badPolygons()
	for _, p := range somePolygons() {
		bad = append(bad, spoiled(p)...)
	}
	for _, p := range bad {
		turned, ok := impl.LeastTurned(p.n, p.ds)
		wantFailedList(t, turned, ok, "LeastTurned ", p)
		least, ok := impl.LeastOfClass(p.n, p.ds)
		wantFailedList(t, least, ok, "LeastOfClass ", p)
		own, ok := impl.IsOwnMirror(p.n, p.ds)
		wantFailedBool(t, own, ok, "IsOwnMirror ", p)
	}
}

func TestCountTurnedAndCountClasses(t *testing.T) {
	knownTurned := []int{1, 1, 1, 4, 6, 19}
	knownClasses := []int{1, 1, 1, 3, 4, 12}
	for n := 3; n <= 8; n++ {
		turned, ok := impl.CountTurned(n)
		wantTrue(t, ok, "CountTurned ", n)
		want(t, turned, knownTurned[n-3], "CountTurned ", n)
		want(t, turned, len(groupsOf(n, turnedOnes)), "CountTurned ", n, " as many as groups")
		classes, ok := impl.CountClasses(n)
		wantTrue(t, ok, "CountClasses ", n)
		want(t, classes, knownClasses[n-3], "CountClasses ", n)
		want(t, classes, len(groupsOf(n, classOf)), "CountClasses ", n, " as many as groups")
	}
}

func TestAllClasses(t *testing.T) {
	for n := 3; n <= 8; n++ {
		var expected [][]impl.Diagonal
		members := 0
		for _, group := range groupsOf(n, classOf) {
			expected = append(expected, group[0].ds)
			members += len(group)
		}
		got, ok := impl.AllClasses(n)
		wantTrue(t, ok, "AllClasses ", n)
		want(t, got, expected, "AllClasses ", n)
		want(t, slices.IsSortedFunc(got, compareLists), true, "AllClasses ", n, " in order")
		count, _ := impl.CountTriangulations(n)
		want(t, members, count, "members of all classes ", n)
	}
	six, _ := impl.AllClasses(6)
	want(t, six, [][]impl.Diagonal{fan(6), diagonals(0, 2, 0, 3, 3, 5), diagonals(0, 2, 0, 4, 2, 4)}, "AllClasses ", 6)
}

func TestNothingIsListedOfOtherNumbersOfCorners(t *testing.T) {
	for _, n := range notListed() {
		turned, ok := impl.CountTurned(n)
		wantFailedNumber(t, turned, ok, "CountTurned ", n)
		classes, ok := impl.CountClasses(n)
		wantFailedNumber(t, classes, ok, "CountClasses ", n)
		all, ok := impl.AllClasses(n)
		wantFailedList(t, all, ok, "AllClasses ", n)
		quiddities, ok := impl.AllQuiddities(n)
		wantFailedList(t, quiddities, ok, "AllQuiddities ", n)
		for _, k := range []int{math.MinInt, -1, 0, 1, 2, n / 2, n - 1, n, math.MaxInt} {
			symmetric, ok := impl.CountSymmetric(n, k)
			wantFailedNumber(t, symmetric, ok, "CountSymmetric ", n, k)
		}
	}
}

// TestClassWithOneMember is about the triangle, the only one that all moves leave as it is.
func TestClassWithOneMember(t *testing.T) {
	for n := 3; n <= 8; n++ {
		for _, group := range groupsOf(n, classOf) {
			want(t, len(group) == 1, n == 3, "one member ", group[0])
		}
	}
	all, ok := impl.AllClasses(3)
	wantTrue(t, ok, "AllClasses of the triangle")
	want(t, len(all), 1, "how many AllClasses of the triangle")
	want(t, len(all[0]), 0, "AllClasses of the triangle")
	for what, call := range map[string]func(int, []impl.Diagonal) ([]impl.Diagonal, bool){"LeastTurned": impl.LeastTurned, "LeastOfClass": impl.LeastOfClass} {
		for _, none := range [][]impl.Diagonal{nil, {}} {
			least, ok := call(3, none)
			wantTrue(t, ok, what, " of the triangle")
			want(t, len(least), 0, what, " of the triangle")
		}
	}
	for _, k := range []int{1, 2} {
		symmetric, ok := impl.CountSymmetric(3, k)
		wantTrue(t, ok, "CountSymmetric of the triangle")
		want(t, symmetric, 1, "CountSymmetric of the triangle")
	}
}

func TestCountSymmetric(t *testing.T) {
	for n := 3; n <= 8; n++ {
		for k := 1; k < n; k++ {
			expected := 0
			for _, ds := range triangulationsOf(n) {
				if slices.Equal(turnedOnes(polygon{n, ds})[k].ds, ds) {
					expected++
				}
			}
			got, ok := impl.CountSymmetric(n, k)
			wantTrue(t, ok, "CountSymmetric ", n, k)
			want(t, got, expected, "CountSymmetric ", n, k)
			back, _ := impl.CountSymmetric(n, n-k)
			want(t, got, back, "CountSymmetric by k and by n - k ", n, k)
		}
	}
}

func TestCountSymmetricThatAreKnown(t *testing.T) {
	known := [][]int{
		{1, 1},
		{0, 2, 0},
		{0, 0, 0, 0},
		{0, 2, 6, 2, 0},
		{0, 0, 0, 0, 0, 0},
		{0, 0, 0, 20, 0, 0, 0},
	}
	for i, counts := range known {
		for k, count := range counts {
			got, ok := impl.CountSymmetric(i+3, k+1)
			wantTrue(t, ok, "CountSymmetric ", i+3, k+1)
			want(t, got, count, "CountSymmetric ", i+3, k+1)
		}
	}
}

func TestCountSymmetricOfOtherTurns(t *testing.T) {
	for n := 3; n <= 8; n++ {
		for _, k := range []int{math.MinInt, -n, -2, -1, 0, n, n + 1, 2 * n, 1000, math.MaxInt} {
			got, ok := impl.CountSymmetric(n, k)
			wantFailedNumber(t, got, ok, "CountSymmetric ", n, k)
		}
	}
}

// TestClassesAreCountedBySymmetricTriangulations counts, for each move, the triangulations that it leaves as they are: together
// so many as there are classes, for each move.
func TestClassesAreCountedBySymmetricTriangulations(t *testing.T) {
	for n := 3; n <= 8; n++ {
		left, _ := impl.CountTriangulations(n)
		for k := 1; k < n; k++ {
			symmetric, _ := impl.CountSymmetric(n, k)
			left += symmetric
		}
		turned, _ := impl.CountTurned(n)
		want(t, n*turned, left, "CountTurned ", n)
		all, _ := impl.AllTriangulations(n)
		for _, ds := range all {
			mirror, _ := impl.MirrorPolygon(n, ds)
			for k := range n {
				if back, _ := impl.TurnPolygon(n, mirror, k); slices.Equal(back, ds) {
					left++
				}
			}
		}
		classes, _ := impl.CountClasses(n)
		want(t, 2*n*classes, left, "CountClasses ", n)
	}
}

func TestIsOwnMirror(t *testing.T) {
	for _, p := range classPolygons() {
		got, ok := impl.IsOwnMirror(p.n, p.ds)
		wantTrue(t, ok, "IsOwnMirror ", p)
		want(t, got, hasPolygon(turnedOnes(p), mirrored(p)), "IsOwnMirror ", p)
	}
}

func TestIsOwnMirrorThatAreKnown(t *testing.T) {
	known := []struct {
		p   polygon
		own bool
	}{
		{polygon{3, nil}, true},
		{polygon{4, diagonals(0, 2)}, true},
		{polygon{4, diagonals(1, 3)}, true},
		{polygon{5, diagonals(0, 3, 1, 3)}, true},
		{polygon{6, diagonals(0, 2, 0, 4, 2, 4)}, true},
		{polygon{6, diagonals(0, 2, 0, 3, 0, 4)}, true},
		{polygon{6, diagonals(1, 4, 1, 5, 2, 4)}, false},
		{polygon{6, diagonals(0, 4, 1, 3, 1, 4)}, false},
		{fanAt(12, 0), true},
		{fanAt(12, 5), true},
		{polygon{12, with(without(fan(12), line(0, 3)), line(2, 4))}, false},
		{polygon{12, with(without(fan(12), line(0, 6)), line(5, 7))}, true},
	}
	for _, k := range known {
		got, ok := impl.IsOwnMirror(k.p.n, k.p.ds)
		wantTrue(t, ok, "IsOwnMirror ", k.p)
		want(t, got, k.own, "IsOwnMirror ", k.p)
	}
}

// TestOwnMirrorsMakeOneClass counts classes: those of its own mirror are one of turned ones, all others are two of them.
func TestOwnMirrorsMakeOneClass(t *testing.T) {
	for n := 3; n <= 8; n++ {
		turned := 0
		all, _ := impl.AllClasses(n)
		for _, ds := range all {
			turned += 2
			if own, _ := impl.IsOwnMirror(n, ds); own {
				turned--
			}
		}
		expected, _ := impl.CountTurned(n)
		want(t, turned, expected, "turned ones of all classes ", n)
	}
}

func TestAllQuidditiesAndTheirRanks(t *testing.T) {
	for n := 3; n <= 8; n++ {
		expected := quidditiesOf(n)
		got, ok := impl.AllQuiddities(n)
		wantTrue(t, ok, "AllQuiddities ", n)
		want(t, got, expected, "AllQuiddities ", n)
		for rank, quiddity := range expected {
			got, ok := impl.RankOfQuiddity(quiddity)
			wantTrue(t, ok, "RankOfQuiddity ", quiddity)
			want(t, got, rank, "RankOfQuiddity ", quiddity)
		}
	}
}

func TestQuidditiesThatAreKnown(t *testing.T) {
	five, ok := impl.AllQuiddities(5)
	wantTrue(t, ok, "AllQuiddities ", 5)
	want(t, five, [][]int{{1, 2, 2, 1, 3}, {1, 3, 1, 2, 2}, {2, 1, 3, 1, 2}, {2, 2, 1, 3, 1}, {3, 1, 2, 2, 1}}, "AllQuiddities ", 5)
	known := []struct {
		quiddity []int
		rank     int
	}{
		{[]int{1, 1, 1}, 0},
		{[]int{1, 2, 1, 2}, 0},
		{[]int{2, 1, 2, 1}, 1},
		{[]int{1, 2, 2, 2, 1, 4}, 0},
		{[]int{4, 1, 2, 2, 2, 1}, 13},
		{[]int{1, 2, 2, 2, 2, 2, 1, 6}, 0},
		{[]int{6, 1, 2, 2, 2, 2, 2, 1}, 131},
	}
	for _, k := range known {
		got, ok := impl.RankOfQuiddity(k.quiddity)
		wantTrue(t, ok, "RankOfQuiddity ", k.quiddity)
		want(t, got, k.rank, "RankOfQuiddity ", k.quiddity)
	}
}

func TestNoRanksOfNoListedQuiddities(t *testing.T) {
	bad := badQuiddities()
	for n := 9; n <= 12; n++ {
		bad = append(bad, fanNumbers(n), slices.Repeat([]int{1, 2}, 6)[:n])
	}
	for _, p := range widePolygons() {
		if p.n > 8 {
			bad = append(bad, quiddityOf(p.n, p.ds))
		}
	}
	for _, quiddity := range quidditiesOf(7) {
		for at := range quiddity {
			for _, number := range []int{math.MinInt, -1, 0, quiddity[at] - 1, quiddity[at] + 1, math.MaxInt} {
				list := slices.Clone(quiddity)
				list[at] = number
				bad = append(bad, list)
			}
		}
		bad = append(bad, quiddity[:6], append(slices.Clone(quiddity), 1))
	}
	for _, list := range bad {
		got, ok := impl.RankOfQuiddity(list)
		wantFailedNumber(t, got, ok, "RankOfQuiddity ", list)
	}
}

func TestExamplesOfChapter7(t *testing.T) {
	ears, _ := impl.CountByEars(6)
	want(t, ears, []int{0, 0, 12, 2, 0, 0, 0}, "CountByEars 6")
	corner, _ := impl.CountByCorner(6)
	want(t, corner, []int{0, 5, 5, 3, 1}, "CountByCorner 6")
	half, _ := impl.CountSymmetric(6, 3)
	want(t, half, 6, "CountSymmetric 6 3")
	third, _ := impl.CountSymmetric(6, 2)
	want(t, third, 2, "CountSymmetric 6 2")
	four, _ := impl.AllQuiddities(4)
	want(t, four, [][]int{{1, 2, 1, 2}, {2, 1, 2, 1}}, "AllQuiddities 4")
}
