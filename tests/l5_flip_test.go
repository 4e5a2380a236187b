package tests

import (
	"math"
	"runtime"
	"slices"
	"testing"

	"loop.example/g01236/impl"
)

func TestLimitOfChapter5(t *testing.T) {
	want(t, impl.MaxFlipped, 8, "MaxFlipped")
}

func TestFlipDiagonalAndOtherDiagonal(t *testing.T) {
	for _, p := range somePolygons() {
		for _, d := range p.ds {
			flipped, other := flipOf(p, d)
			got, ok := impl.FlipDiagonal(p.n, p.ds, d)
			wantTrue(t, ok, "FlipDiagonal ", p, d)
			want(t, got, flipped.ds, "FlipDiagonal ", p, d)
			e, ok := impl.OtherDiagonal(p.n, p.ds, d)
			wantTrue(t, ok, "OtherDiagonal ", p, d)
			want(t, e, other, "OtherDiagonal ", p, d)
		}
	}
}

func TestFlipsAreUndoneByTheDiagonalThatComesIn(t *testing.T) {
	for _, p := range somePolygons() {
		for _, d := range p.ds {
			other, _ := impl.OtherDiagonal(p.n, p.ds, d)
			flipped, _ := impl.FlipDiagonal(p.n, p.ds, d)
			want(t, impl.IsTriangulation(p.n, flipped), true, "flipped ", p, d)
			back, ok := impl.OtherDiagonal(p.n, flipped, other)
			wantTrue(t, ok, "OtherDiagonal back ", p, d)
			want(t, back, d, "OtherDiagonal back ", p, d)
			again, ok := impl.FlipDiagonal(p.n, flipped, other)
			wantTrue(t, ok, "FlipDiagonal back ", p, d)
			want(t, again, p.ds, "FlipDiagonal back ", p, d)
		}
	}
}

func TestFlipsThatAreKnown(t *testing.T) {
	known := []struct {
		p       polygon
		d       impl.Diagonal
		flipped []impl.Diagonal
		other   impl.Diagonal
	}{
		{polygon{4, diagonals(0, 2)}, line(0, 2), diagonals(1, 3), line(1, 3)},
		{polygon{4, diagonals(1, 3)}, line(1, 3), diagonals(0, 2), line(0, 2)},
		{polygon{5, diagonals(0, 2, 0, 3)}, line(0, 2), diagonals(0, 3, 1, 3), line(1, 3)},
		{polygon{5, diagonals(0, 2, 0, 3)}, line(0, 3), diagonals(0, 2, 2, 4), line(2, 4)},
		{polygon{5, diagonals(1, 3, 1, 4)}, line(1, 4), diagonals(0, 3, 1, 3), line(0, 3)},
		{polygon{6, diagonals(0, 2, 0, 4, 2, 4)}, line(2, 4), diagonals(0, 2, 0, 3, 0, 4), line(0, 3)},
		{polygon{6, diagonals(1, 4, 1, 5, 2, 4)}, line(1, 4), diagonals(1, 5, 2, 4, 2, 5), line(2, 5)},
		{polygon{12, fan(12)}, line(0, 2), with(without(fan(12), line(0, 2)), line(1, 3)), line(1, 3)},
		{polygon{12, fan(12)}, line(0, 10), with(without(fan(12), line(0, 10)), line(9, 11)), line(9, 11)},
		{polygon{12, diagonals(0, 2, 0, 4, 0, 6, 0, 8, 0, 10, 2, 4, 4, 6, 6, 8, 8, 10)}, line(0, 6), diagonals(0, 2, 0, 4, 0, 8, 0, 10, 2, 4, 4, 6, 4, 8, 6, 8, 8, 10), line(4, 8)},
	}
	for _, k := range known {
		got, ok := impl.FlipDiagonal(k.p.n, k.p.ds, k.d)
		wantTrue(t, ok, "FlipDiagonal ", k.p, k.d)
		want(t, got, k.flipped, "FlipDiagonal ", k.p, k.d)
		other, ok := impl.OtherDiagonal(k.p.n, k.p.ds, k.d)
		wantTrue(t, ok, "OtherDiagonal ", k.p, k.d)
		want(t, other, k.other, "OtherDiagonal ", k.p, k.d)
	}
}

// wantNoFlip is for the functions that take one diagonal of a triangulation.
func wantNoFlip(t *testing.T, p polygon, d impl.Diagonal) {
	t.Helper()
	flipped, ok := impl.FlipDiagonal(p.n, p.ds, d)
	wantFailedList(t, flipped, ok, "FlipDiagonal ", p, d)
	other, ok := impl.OtherDiagonal(p.n, p.ds, d)
	wantFailedDiagonal(t, other, ok, "OtherDiagonal ", p, d)
	change, ok := impl.QuiddityChange(p.n, p.ds, d)
	wantFailedList(t, change, ok, "QuiddityChange ", p, d)
	played, ok := impl.PlayFlips(p.n, p.ds, []impl.Diagonal{d})
	wantFailedList(t, played, ok, "PlayFlips ", p, d)
}

func TestNoFlipOfDiagonalsThatAreNotThere(t *testing.T) {
	for _, p := range somePolygons() {
		for _, d := range onlyInFirst(diagonalsOf(p.n), p.ds) {
			wantNoFlip(t, p, d)
		}
		for _, d := range noDiagonals(p.n) {
			wantNoFlip(t, p, d)
		}
		for _, d := range p.ds {
			wantNoFlip(t, p, impl.Diagonal{Low: d.High, High: d.Low})
		}
	}
}

func TestNoFlipOfNoTriangulations(t *testing.T) {
	bad := badPolygons()
	for _, p := range somePolygons() {
		bad = append(bad, spoiled(p)...)
	}
	for _, p := range bad {
		all, ok := impl.AllFlips(p.n, p.ds)
		wantFailedList(t, all, ok, "AllFlips ", p)
		for _, d := range p.ds {
			wantNoFlip(t, p, d)
		}
		wantNoFlip(t, p, line(0, 2))
		played, ok := impl.PlayFlips(p.n, p.ds, nil)
		wantFailedList(t, played, ok, "PlayFlips of no flips ", p)
		for _, at := range []int{0, 1, p.n - 1} {
			flips, ok := impl.FlipsToFan(p.n, p.ds, at)
			wantFailedList(t, flips, ok, "FlipsToFan ", p, at)
		}
	}
}

func TestTriangleHasNoFlips(t *testing.T) {
	triangle := polygon{3, nil}
	for _, d := range append(diagonals(0, 2, 1, 3, 0, 1, 1, 2), noDiagonals(3)...) {
		wantNoFlip(t, triangle, d)
	}
	all, ok := impl.AllFlips(3, nil)
	wantTrue(t, ok, "AllFlips")
	want(t, all, [][]impl.Diagonal{}, "AllFlips")
	d, ok := impl.AreFlipApart(3, nil, nil)
	wantFailedDiagonal(t, d, ok, "AreFlipApart")
	crossings, ok := impl.CrossingsBetween(3, nil, nil)
	wantTrue(t, ok, "CrossingsBetween")
	want(t, crossings, 0, "CrossingsBetween")
	distance, ok := impl.FlipDistance(3, nil, nil)
	wantTrue(t, ok, "FlipDistance")
	want(t, distance, 0, "FlipDistance")
	counts, ok := impl.CountByFlips(3, nil)
	wantTrue(t, ok, "CountByFlips")
	want(t, counts, []int{1}, "CountByFlips")
	farthest, distance, ok := impl.FarthestByFlips(3, nil)
	wantTrue(t, ok, "FarthestByFlips")
	want(t, farthest, []impl.Diagonal{}, "FarthestByFlips")
	want(t, distance, 0, "FarthestByFlips")
	for what, call := range map[string]func() ([]impl.Diagonal, bool){
		"CommonDiagonals": func() ([]impl.Diagonal, bool) { return impl.CommonDiagonals(3, nil, nil) },
		"FirstFlips":      func() ([]impl.Diagonal, bool) { return impl.FirstFlips(3, nil, nil) },
		"FlipsToFan":      func() ([]impl.Diagonal, bool) { return impl.FlipsToFan(3, nil, 2) },
		"PlayFlips":       func() ([]impl.Diagonal, bool) { return impl.PlayFlips(3, nil, nil) },
	} {
		got, ok := call()
		wantTrue(t, ok, what)
		want(t, got, []impl.Diagonal{}, what)
	}
}

func TestAllFlips(t *testing.T) {
	for _, p := range somePolygons() {
		got, ok := impl.AllFlips(p.n, p.ds)
		wantTrue(t, ok, "AllFlips ", p)
		want(t, len(got), p.n-3, "how many AllFlips ", p)
		for i, flipped := range flipsOf(p) {
			want(t, got[i], flipped.ds, "AllFlips ", p, i)
		}
	}
	got, ok := impl.AllFlips(5, diagonals(0, 2, 0, 3))
	wantTrue(t, ok, "AllFlips")
	want(t, got, [][]impl.Diagonal{diagonals(0, 3, 1, 3), diagonals(0, 2, 2, 4)}, "AllFlips")
}

func TestAreFlipApart(t *testing.T) {
	for _, pair := range somePairs() {
		var expected impl.Diagonal
		isThere := false
		for i, flipped := range flipsOf(pair.a) {
			if slices.Equal(flipped.ds, pair.b.ds) {
				expected, isThere = pair.a.ds[i], true
			}
		}
		got, ok := impl.AreFlipApart(pair.a.n, pair.a.ds, pair.b.ds)
		want(t, ok, isThere, "AreFlipApart ", pair)
		want(t, got, expected, "AreFlipApart ", pair)
	}
}

func TestAreFlipApartThatAreKnown(t *testing.T) {
	known := []struct {
		a, b polygon
		d    impl.Diagonal
	}{
		{polygon{4, diagonals(0, 2)}, polygon{4, diagonals(1, 3)}, line(0, 2)},
		{polygon{4, diagonals(1, 3)}, polygon{4, diagonals(0, 2)}, line(1, 3)},
		{polygon{4, diagonals(0, 2)}, polygon{4, diagonals(0, 2)}, impl.Diagonal{}},
		{polygon{5, diagonals(0, 2, 0, 3)}, polygon{5, diagonals(0, 3, 1, 3)}, line(0, 2)},
		{polygon{5, diagonals(0, 3, 1, 3)}, polygon{5, diagonals(0, 2, 0, 3)}, line(1, 3)},
		{polygon{5, diagonals(0, 2, 0, 3)}, polygon{5, diagonals(1, 3, 1, 4)}, impl.Diagonal{}},
		{polygon{12, fan(12)}, polygon{12, with(without(fan(12), line(0, 7)), line(6, 8))}, line(0, 7)},
		{polygon{12, fan(12)}, polygon{12, fan(12)}, impl.Diagonal{}},
		{polygon{12, fan(12)}, fanAt(12, 1), impl.Diagonal{}},
	}
	for _, k := range known {
		got, ok := impl.AreFlipApart(k.a.n, k.a.ds, k.b.ds)
		want(t, ok, k.d != impl.Diagonal{}, "AreFlipApart ", k.a, k.b)
		want(t, got, k.d, "AreFlipApart ", k.a, k.b)
	}
}

func TestCommonDiagonals(t *testing.T) {
	for _, pair := range somePairs() {
		var expected []impl.Diagonal
		for _, d := range diagonalsOf(pair.a.n) {
			if slices.Contains(pair.a.ds, d) && slices.Contains(pair.b.ds, d) {
				expected = append(expected, d)
			}
		}
		got, ok := impl.CommonDiagonals(pair.a.n, pair.a.ds, pair.b.ds)
		wantTrue(t, ok, "CommonDiagonals ", pair)
		want(t, got, expected, "CommonDiagonals ", pair)
	}
}

func TestCommonDiagonalsThatAreKnown(t *testing.T) {
	known := []struct {
		a, b   polygon
		common []impl.Diagonal
	}{
		{polygon{4, diagonals(0, 2)}, polygon{4, diagonals(1, 3)}, nil},
		{polygon{5, diagonals(0, 2, 0, 3)}, polygon{5, diagonals(1, 3, 1, 4)}, nil},
		{polygon{5, diagonals(0, 2, 0, 3)}, polygon{5, diagonals(0, 3, 1, 3)}, diagonals(0, 3)},
		{polygon{6, diagonals(0, 2, 0, 3, 0, 4)}, polygon{6, diagonals(0, 2, 0, 4, 2, 4)}, diagonals(0, 2, 0, 4)},
		{polygon{12, fan(12)}, polygon{12, fan(12)}, fan(12)},
		{polygon{12, fan(12)}, fanAt(12, 1), nil},
		{polygon{12, fan(12)}, fanAt(12, 6), diagonals(0, 6)},
	}
	for _, k := range known {
		got, ok := impl.CommonDiagonals(k.a.n, k.a.ds, k.b.ds)
		wantTrue(t, ok, "CommonDiagonals ", k.a, k.b)
		want(t, got, k.common, "CommonDiagonals ", k.a, k.b)
	}
}

func TestCrossingsBetween(t *testing.T) {
	for _, pair := range somePairs() {
		expected := 0
		for _, d := range pair.a.ds {
			for _, e := range pair.b.ds {
				if onBothSides(pair.a.n, d, e) {
					expected++
				}
			}
		}
		got, ok := impl.CrossingsBetween(pair.a.n, pair.a.ds, pair.b.ds)
		wantTrue(t, ok, "CrossingsBetween ", pair)
		want(t, got, expected, "CrossingsBetween ", pair)
	}
}

func TestCrossingsBetweenThatAreKnown(t *testing.T) {
	known := []struct {
		a, b      polygon
		crossings int
	}{
		{polygon{4, diagonals(0, 2)}, polygon{4, diagonals(0, 2)}, 0},
		{polygon{4, diagonals(0, 2)}, polygon{4, diagonals(1, 3)}, 1},
		{polygon{5, diagonals(0, 2, 0, 3)}, polygon{5, diagonals(1, 3, 1, 4)}, 3},
		{polygon{5, diagonals(0, 2, 0, 3)}, polygon{5, diagonals(0, 3, 1, 3)}, 1},
		{polygon{12, fan(12)}, polygon{12, fan(12)}, 0},
		{polygon{12, fan(12)}, fanAt(12, 1), 45},
	}
	for _, k := range known {
		got, ok := impl.CrossingsBetween(k.a.n, k.a.ds, k.b.ds)
		wantTrue(t, ok, "CrossingsBetween ", k.a, k.b)
		want(t, got, k.crossings, "CrossingsBetween ", k.a, k.b)
	}
}

func TestFlipDistance(t *testing.T) {
	for n := 3; n <= 8; n++ {
		table := flipTableOf(n)
		for _, i := range table.startsOf() {
			for j, b := range table.all {
				a, expected := table.all[i], table.distances[i][j]
				got, ok := impl.FlipDistance(n, a.ds, b.ds)
				wantTrue(t, ok, "FlipDistance ", a, b)
				want(t, got, expected, "FlipDistance ", a, b)
				crossings, _ := impl.CrossingsBetween(n, a.ds, b.ds)
				want(t, crossings >= got, true, "as many CrossingsBetween as FlipDistance ", a, b)
			}
		}
	}
}

func TestFlipDistanceBack(t *testing.T) {
	table := flipTableOf(8)
	for _, i := range []int{0, 1, 65, 130, 131} {
		for j, a := range table.all {
			got, ok := impl.FlipDistance(8, a.ds, table.all[i].ds)
			wantTrue(t, ok, "FlipDistance ", a, table.all[i])
			want(t, got, table.distances[i][j], "FlipDistance ", a, table.all[i])
		}
	}
}

func TestFlipDistanceThatAreKnown(t *testing.T) {
	known := []struct {
		a, b     polygon
		distance int
	}{
		{polygon{4, diagonals(0, 2)}, polygon{4, diagonals(0, 2)}, 0},
		{polygon{4, diagonals(0, 2)}, polygon{4, diagonals(1, 3)}, 1},
		{polygon{5, diagonals(0, 2, 0, 3)}, polygon{5, diagonals(1, 3, 1, 4)}, 2},
		{polygon{6, diagonals(0, 2, 0, 3, 0, 4)}, polygon{6, diagonals(0, 3, 1, 3, 3, 5)}, 2},
		{fanAt(8, 0), fanAt(8, 0), 0},
		{fanAt(8, 0), fanAt(8, 1), 5},
		{fanAt(8, 0), fanAt(8, 4), 4},
	}
	for _, k := range known {
		got, ok := impl.FlipDistance(k.a.n, k.a.ds, k.b.ds)
		wantTrue(t, ok, "FlipDistance ", k.a, k.b)
		want(t, got, k.distance, "FlipDistance ", k.a, k.b)
	}
}

func TestFirstFlips(t *testing.T) {
	for n := 3; n <= 8; n++ {
		table := flipTableOf(n)
		for _, i := range table.startsOf() {
			for j, b := range table.all {
				a := table.all[i]
				expected, _ := table.firstList(i, j, table.distances[i][j])
				got, ok := impl.FirstFlips(n, a.ds, b.ds)
				wantTrue(t, ok, "FirstFlips ", a, b)
				want(t, got, expected, "FirstFlips ", a, b)
				played, ok := impl.PlayFlips(n, a.ds, got)
				wantTrue(t, ok, "PlayFlips of FirstFlips ", a, b)
				want(t, played, b.ds, "PlayFlips of FirstFlips ", a, b)
			}
		}
	}
}

func TestFirstFlipsThatAreKnown(t *testing.T) {
	known := []struct {
		a, b  polygon
		flips []impl.Diagonal
	}{
		{polygon{4, diagonals(0, 2)}, polygon{4, diagonals(0, 2)}, nil},
		{polygon{4, diagonals(0, 2)}, polygon{4, diagonals(1, 3)}, diagonals(0, 2)},
		{polygon{5, diagonals(0, 2, 0, 3)}, polygon{5, diagonals(1, 3, 1, 4)}, diagonals(0, 2, 0, 3)},
		{polygon{5, diagonals(1, 3, 1, 4)}, polygon{5, diagonals(0, 2, 0, 3)}, diagonals(1, 4, 1, 3)},
		// Two flips that may change places: of both shortest lists the first one is returned.
		{polygon{6, diagonals(0, 2, 0, 3, 0, 4)}, polygon{6, diagonals(0, 3, 1, 3, 3, 5)}, diagonals(0, 2, 0, 4)},
		{polygon{6, diagonals(0, 3, 1, 3, 3, 5)}, polygon{6, diagonals(0, 2, 0, 3, 0, 4)}, diagonals(1, 3, 3, 5)},
		{fanAt(8, 0), fanAt(8, 1), diagonals(0, 2, 0, 3, 0, 4, 0, 5, 0, 6)},
	}
	for _, k := range known {
		got, ok := impl.FirstFlips(k.a.n, k.a.ds, k.b.ds)
		wantTrue(t, ok, "FirstFlips ", k.a, k.b)
		want(t, got, k.flips, "FirstFlips ", k.a, k.b)
	}
}

func TestCountByFlips(t *testing.T) {
	for n := 3; n <= 8; n++ {
		table := flipTableOf(n)
		for i, p := range table.all {
			got, ok := impl.CountByFlips(n, p.ds)
			wantTrue(t, ok, "CountByFlips ", p)
			want(t, got, table.countsFrom(i), "CountByFlips ", p)
			want(t, sum(got), len(table.all), "CountByFlips together ", p)
		}
	}
}

func TestCountByFlipsThatAreKnown(t *testing.T) {
	known := []struct {
		p      polygon
		counts []int
	}{
		{polygon{3, nil}, []int{1}},
		{polygon{4, diagonals(0, 2)}, []int{1, 1}},
		{polygon{4, diagonals(1, 3)}, []int{1, 1}},
		{polygon{5, diagonals(1, 4, 2, 4)}, []int{1, 2, 2}},
	}
	for _, k := range known {
		got, ok := impl.CountByFlips(k.p.n, k.p.ds)
		wantTrue(t, ok, "CountByFlips ", k.p)
		want(t, got, k.counts, "CountByFlips ", k.p)
	}
}

func TestFarthestByFlips(t *testing.T) {
	for n := 3; n <= 8; n++ {
		table := flipTableOf(n)
		for i, p := range table.all {
			farthest, distance := table.farthestFrom(i)
			got, flips, ok := impl.FarthestByFlips(n, p.ds)
			wantTrue(t, ok, "FarthestByFlips ", p)
			want(t, got, farthest.ds, "FarthestByFlips ", p)
			want(t, flips, distance, "distance of FarthestByFlips ", p)
		}
	}
}

func TestFarthestByFlipsThatAreKnown(t *testing.T) {
	known := []struct {
		p        polygon
		farthest []impl.Diagonal
		distance int
	}{
		{polygon{4, diagonals(0, 2)}, diagonals(1, 3), 1},
		{polygon{4, diagonals(1, 3)}, diagonals(0, 2), 1},
		// Two are as far: those with 1-3, 1-4 and with 1-4, 2-4.
		{polygon{5, diagonals(0, 2, 0, 3)}, diagonals(1, 3, 1, 4), 2},
		{polygon{5, diagonals(1, 4, 2, 4)}, diagonals(0, 2, 0, 3), 2},
	}
	for _, k := range known {
		got, distance, ok := impl.FarthestByFlips(k.p.n, k.p.ds)
		wantTrue(t, ok, "FarthestByFlips ", k.p)
		want(t, got, k.farthest, "FarthestByFlips ", k.p)
		want(t, distance, k.distance, "FarthestByFlips ", k.p)
	}
}

func TestWidestDistance(t *testing.T) {
	for n, expected := range map[int]int{3: 0, 4: 1, 5: 2, 6: 4, 7: 5, 8: 7} {
		got, ok := impl.WidestDistance(n)
		wantTrue(t, ok, "WidestDistance ", n)
		want(t, got, expected, "WidestDistance ", n)
	}
	for _, n := range []int{math.MinInt, -8, -1, 0, 1, 2, 9, 10, 11, 12, 13, 1000, math.MaxInt} {
		got, ok := impl.WidestDistance(n)
		wantFailedNumber(t, got, ok, "WidestDistance ", n)
	}
}

// wantNoDistance is for the functions that look for distances.
func wantNoDistance(t *testing.T, n int, a []impl.Diagonal, b []impl.Diagonal) {
	t.Helper()
	distance, ok := impl.FlipDistance(n, a, b)
	wantFailedNumber(t, distance, ok, "FlipDistance ", n, a, b)
	flips, ok := impl.FirstFlips(n, a, b)
	wantFailedList(t, flips, ok, "FirstFlips ", n, a, b)
}

func wantNoDistances(t *testing.T, n int, ds []impl.Diagonal) {
	t.Helper()
	counts, ok := impl.CountByFlips(n, ds)
	wantFailedList(t, counts, ok, "CountByFlips ", n, ds)
	farthest, distance, ok := impl.FarthestByFlips(n, ds)
	wantFailedList(t, farthest, ok, "FarthestByFlips ", n, ds)
	want(t, distance, 0, "distance of FarthestByFlips ", n, ds)
}

func TestNoDistancesOfMoreThanMaxFlippedCorners(t *testing.T) {
	for n := 9; n <= 12; n++ {
		near, _ := flipOf(fanAt(n, 0), line(0, 2))
		wantNoDistance(t, n, fan(n), fan(n))
		wantNoDistance(t, n, fan(n), near.ds)
		wantNoDistance(t, n, fan(n), fanAt(n, 1).ds)
		wantNoDistances(t, n, fan(n))
	}
}

func TestNoPairsOfOtherThanTwoTriangulations(t *testing.T) {
	for _, pair := range badPairs() {
		n, a, b := pair.a.n, pair.a.ds, pair.b.ds
		d, ok := impl.AreFlipApart(n, a, b)
		wantFailedDiagonal(t, d, ok, "AreFlipApart ", pair)
		common, ok := impl.CommonDiagonals(n, a, b)
		wantFailedList(t, common, ok, "CommonDiagonals ", pair)
		crossings, ok := impl.CrossingsBetween(n, a, b)
		wantFailedNumber(t, crossings, ok, "CrossingsBetween ", pair)
		wantNoDistance(t, n, a, b)
	}
}

func TestNoDistancesOfNoTriangulations(t *testing.T) {
	bad := badPolygons()
	for _, p := range smallPolygons() {
		bad = append(bad, spoiled(p)...)
	}
	for _, p := range bad {
		wantNoDistances(t, p.n, p.ds)
	}
}

func TestFlipsToFan(t *testing.T) {
	for _, p := range somePolygons() {
		for at := range p.n {
			var expected []impl.Diagonal
			now := p
			for again := true; again; {
				again = false
				for _, d := range now.ds {
					if flipped, other := flipOf(now, d); other.Low == at || other.High == at {
						expected = append(expected, d)
						now, again = flipped, true
						break
					}
				}
			}
			got, ok := impl.FlipsToFan(p.n, p.ds, at)
			wantTrue(t, ok, "FlipsToFan ", p, at)
			want(t, got, expected, "FlipsToFan ", p, at)
		}
	}
}

func TestFlipsToFanLeadThere(t *testing.T) {
	for _, p := range somePolygons() {
		for at := range p.n {
			target := fanAt(p.n, at)
			flips, _ := impl.FlipsToFan(p.n, p.ds, at)
			want(t, len(flips), len(onlyInFirst(target.ds, p.ds)), "how many FlipsToFan ", p, at)
			played, ok := impl.PlayFlips(p.n, p.ds, flips)
			wantTrue(t, ok, "PlayFlips of FlipsToFan ", p, at)
			want(t, played, target.ds, "PlayFlips of FlipsToFan ", p, at)
		}
	}
}

func TestFlipsToFanThatAreKnown(t *testing.T) {
	known := []struct {
		p     polygon
		at    int
		flips []impl.Diagonal
	}{
		{polygon{4, diagonals(0, 2)}, 0, nil},
		{polygon{4, diagonals(0, 2)}, 1, diagonals(0, 2)},
		{polygon{4, diagonals(0, 2)}, 2, nil},
		{polygon{4, diagonals(0, 2)}, 3, diagonals(0, 2)},
		{polygon{5, diagonals(1, 3, 1, 4)}, 0, diagonals(1, 4, 1, 3)},
		{polygon{5, diagonals(1, 3, 1, 4)}, 1, nil},
		{polygon{5, diagonals(1, 3, 1, 4)}, 2, diagonals(1, 3, 1, 4)},
		{polygon{5, diagonals(1, 3, 1, 4)}, 3, diagonals(1, 4)},
		{polygon{12, fan(12)}, 0, nil},
		{polygon{12, fan(12)}, 1, fan(12)},
		{polygon{12, fan(12)}, 11, diagonals(0, 10, 0, 9, 0, 8, 0, 7, 0, 6, 0, 5, 0, 4, 0, 3, 0, 2)},
		{polygon{12, fan(12)}, 10, diagonals(0, 9, 0, 8, 0, 7, 0, 6, 0, 5, 0, 4, 0, 3, 0, 2)},
	}
	for _, k := range known {
		got, ok := impl.FlipsToFan(k.p.n, k.p.ds, k.at)
		wantTrue(t, ok, "FlipsToFan ", k.p, k.at)
		want(t, got, k.flips, "FlipsToFan ", k.p, k.at)
	}
}

func TestFlipsToFanOfNoCorners(t *testing.T) {
	for n := 3; n <= 12; n++ {
		for _, at := range []int{math.MinInt, -n, -2, -1, n, n + 1, 2 * n, 1000, math.MaxInt} {
			got, ok := impl.FlipsToFan(n, fan(n), at)
			wantFailedList(t, got, ok, "FlipsToFan ", n, at)
		}
	}
}

// walkFrom flips diagonals that are ever so far on in the list, and returns them and where they lead.
func walkFrom(p polygon, flips int, step int) ([]impl.Diagonal, polygon) {
	var walked []impl.Diagonal
	for i := range flips {
		d := p.ds[i*step%len(p.ds)]
		walked = append(walked, d)
		p, _ = flipOf(p, d)
	}
	return walked, p
}

func TestPlayFlips(t *testing.T) {
	for _, p := range somePolygons() {
		for _, flips := range []int{0, 1, 2, 5, 39, 40} {
			if p.n == 3 && flips > 0 {
				continue
			}
			for step := range 4 {
				walked, end := walkFrom(p, flips, step)
				got, ok := impl.PlayFlips(p.n, p.ds, walked)
				wantTrue(t, ok, "PlayFlips ", p, walked)
				want(t, got, end.ds, "PlayFlips ", p, walked)
			}
		}
	}
}

func TestPlayFlipsOfMoreThan40Flips(t *testing.T) {
	for _, p := range somePolygons() {
		if p.n == 3 {
			continue
		}
		for _, flips := range []int{41, 42, 80} {
			walked, _ := walkFrom(p, flips, 1)
			got, ok := impl.PlayFlips(p.n, p.ds, walked)
			wantFailedList(t, got, ok, "PlayFlips ", p, walked)
		}
	}
}

func TestPlayFlipsOfFlipsThatAreNotThereThen(t *testing.T) {
	for _, p := range somePolygons() {
		for _, d := range p.ds {
			flipped, other := flipOf(p, d)
			for _, flips := range [][]impl.Diagonal{{d, d}, {other}, {d, other, other}, {d, other, d, d}, append(slices.Repeat([]impl.Diagonal{d, other}, 19), d, d)} {
				got, ok := impl.PlayFlips(p.n, p.ds, flips)
				wantFailedList(t, got, ok, "PlayFlips ", p, flips)
			}
			got, ok := impl.PlayFlips(p.n, p.ds, []impl.Diagonal{d, other, d})
			wantTrue(t, ok, "PlayFlips ", p, d, other, d)
			want(t, got, flipped.ds, "PlayFlips ", p, d, other, d)
		}
	}
}

func TestPlayFlipsThatAreKnown(t *testing.T) {
	there, back := line(0, 2), line(1, 3)
	known := []struct {
		p     polygon
		flips []impl.Diagonal
		end   []impl.Diagonal
	}{
		{polygon{4, diagonals(0, 2)}, nil, diagonals(0, 2)},
		{polygon{4, diagonals(0, 2)}, diagonals(0, 2), diagonals(1, 3)},
		{polygon{4, diagonals(0, 2)}, slices.Repeat([]impl.Diagonal{there, back}, 20), diagonals(0, 2)},
		{polygon{4, diagonals(0, 2)}, append(slices.Repeat([]impl.Diagonal{there, back}, 20), there), nil},
		{polygon{5, diagonals(0, 2, 0, 3)}, diagonals(0, 2, 0, 3), diagonals(1, 3, 1, 4)},
		{polygon{5, diagonals(0, 2, 0, 3)}, diagonals(0, 3, 0, 2), diagonals(1, 4, 2, 4)},
		{polygon{5, diagonals(0, 2, 0, 3)}, diagonals(0, 2, 0, 2), nil},
		{polygon{12, fan(12)}, nil, fan(12)},
		{polygon{12, fan(12)}, fan(12), fanAt(12, 1).ds},
	}
	for _, k := range known {
		got, ok := impl.PlayFlips(k.p.n, k.p.ds, k.flips)
		want(t, ok, k.end != nil, "PlayFlips ", k.p, k.flips)
		want(t, got, k.end, "PlayFlips ", k.p, k.flips)
	}
}

func TestQuiddityChange(t *testing.T) {
	for _, p := range somePolygons() {
		for _, d := range p.ds {
			flipped, _ := flipOf(p, d)
			expected := quiddityOf(p.n, flipped.ds)
			for at, number := range quiddityOf(p.n, p.ds) {
				expected[at] -= number
			}
			got, ok := impl.QuiddityChange(p.n, p.ds, d)
			wantTrue(t, ok, "QuiddityChange ", p, d)
			want(t, got, expected, "QuiddityChange ", p, d)
		}
	}
	got, ok := impl.QuiddityChange(5, diagonals(0, 2, 0, 3), line(0, 2))
	wantTrue(t, ok, "QuiddityChange")
	want(t, got, []int{-1, 1, -1, 1, 0}, "QuiddityChange")
}

func TestNoGoroutineIsLeftBehind(t *testing.T) {
	before := runtime.NumGoroutine()
	for range 200 {
		impl.FlipDistance(6, fan(6), fanAt(6, 1).ds)
		impl.FlipDistance(6, fan(6), fan(6))
		impl.FirstFlips(6, fan(6), fanAt(6, 3).ds)
		impl.CountByFlips(6, fan(6))
		impl.FarthestByFlips(6, fan(6))
		impl.WidestDistance(6)
	}
	wantNoGoroutines(t, before)
}
