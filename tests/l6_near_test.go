package tests

import (
	"fmt"
	"math"
	"math/big"
	"slices"
	"strings"
	"testing"

	"loop.example/g01236/impl"
)

func TestLimitOfChapter6(t *testing.T) {
	want(t, impl.MaxDen, 40, "MaxDen")
}

func TestIsFraction(t *testing.T) {
	for num := -3; num <= 30; num++ {
		for den := -3; den <= 30; den++ {
			f := fraction(num, den)
			want(t, impl.IsFraction(f), num >= 0 && den >= 0 && isInLowest(num, den), "IsFraction ", f)
		}
	}
	for _, f := range wideFractions() {
		want(t, impl.IsFraction(f), true, "IsFraction ", f)
	}
	for _, f := range noFractions() {
		want(t, impl.IsFraction(f), false, "IsFraction ", f)
	}
}

func TestIsFractionThatAreKnown(t *testing.T) {
	known := []struct {
		num, den int
		is       bool
	}{
		{0, 1, true},
		{1, 0, true},
		{0, 0, false},
		{0, 2, false},
		{2, 0, false},
		{1, 1, true},
		{2, 2, false},
		{-1, 1, false},
		{1, -1, false},
		{-1, 0, false},
		{0, -1, false},
		{-1, -1, false},
		{6, 35, true},
		{15, 35, false},
		{1000000, 1, true},
		{1, 1000000, true},
		{1000001, 1, false},
		{1, 1000001, false},
		{1000000, 999999, true},
		{999999, 1000000, true},
		{1000000, 1000001, false},
		{1000001, 1000000, false},
		{1000000, 0, false},
		{0, 1000000, false},
		{1000000, 1000000, false},
		{1000000, 15625, false},
		{math.MaxInt, 1, false},
		{1, math.MaxInt, false},
		{math.MinInt, 1, false},
		{1, math.MinInt, false},
		{math.MinInt, math.MinInt, false},
	}
	for _, k := range known {
		want(t, impl.IsFraction(fraction(k.num, k.den)), k.is, "IsFraction ", k.num, "/", k.den)
	}
}

func TestCrossOfAndAreNear(t *testing.T) {
	fractions := append(allFractions(8), wideFractions()...)
	for _, f := range fractions {
		for _, g := range fractions {
			got, ok := impl.CrossOf(f, g)
			wantTrue(t, ok, "CrossOf ", f, g)
			want(t, got, crossOf(f, g), "CrossOf ", f, g)
			want(t, got > 0, compareFractions(f, g) < 0, "CrossOf is greater than 0 ", f, g)
			want(t, got == 0, f == g, "CrossOf is 0 ", f, g)
			near, ok := impl.AreNear(f, g)
			wantTrue(t, ok, "AreNear ", f, g)
			want(t, near, got == 1 || got == -1, "AreNear ", f, g)
		}
	}
}

func TestCrossOfAndAreNearThatAreKnown(t *testing.T) {
	known := []struct {
		f, g  impl.Fraction
		cross int
		near  bool
	}{
		{fraction(0, 1), fraction(1, 0), 1, true},
		{fraction(1, 0), fraction(0, 1), -1, true},
		{fraction(0, 1), fraction(0, 1), 0, false},
		{fraction(1, 0), fraction(1, 0), 0, false},
		{fraction(1, 1), fraction(1, 1), 0, false},
		{fraction(2, 5), fraction(2, 5), 0, false},
		{fraction(1, 3), fraction(1, 2), 1, true},
		{fraction(1, 2), fraction(1, 3), -1, true},
		{fraction(1, 3), fraction(2, 3), 3, false},
		{fraction(1, 2), fraction(2, 1), 3, false},
		{fraction(2, 5), fraction(1, 3), -1, true},
		{fraction(2, 5), fraction(1, 2), 1, true},
		{fraction(0, 1), fraction(2, 5), 2, false},
		{fraction(2, 5), fraction(0, 1), -2, false},
		{fraction(2, 5), fraction(1, 0), 5, false},
		{fraction(1000000, 1), fraction(1, 0), 1, true},
		{fraction(0, 1), fraction(1, 1000000), 1, true},
		{fraction(999999, 1000000), fraction(1000000, 999999), 1999999, false},
		{fraction(1, 1000000), fraction(1000000, 1), 999999999999, false},
		{fraction(1000000, 1), fraction(1, 1000000), -999999999999, false},
	}
	for _, k := range known {
		cross, ok := impl.CrossOf(k.f, k.g)
		wantTrue(t, ok, "CrossOf ", k.f, k.g)
		want(t, cross, k.cross, "CrossOf ", k.f, k.g)
		near, ok := impl.AreNear(k.f, k.g)
		wantTrue(t, ok, "AreNear ", k.f, k.g)
		want(t, near, k.near, "AreNear ", k.f, k.g)
	}
}

func TestMediantOf(t *testing.T) {
	fractions := append(allFractions(8), wideFractions()...)
	for _, f := range fractions {
		for _, g := range fractions {
			got, ok := impl.MediantOf(f, g)
			whole := fraction(f.Num+g.Num, f.Den+g.Den)
			if !isNear(f, g) || max(whole.Num, whole.Den) > 1000000 {
				wantFailedFraction(t, got, ok, "MediantOf ", f, g)
				continue
			}
			wantTrue(t, ok, "MediantOf ", f, g)
			want(t, got, whole, "MediantOf ", f, g)
			want(t, impl.IsFraction(got), true, "IsFraction of MediantOf ", f, g)
		}
	}
}

func TestMediantOfThatAreKnown(t *testing.T) {
	known := []struct {
		f, g, mediant impl.Fraction
	}{
		{fraction(0, 1), fraction(1, 0), fraction(1, 1)},
		{fraction(1, 0), fraction(0, 1), fraction(1, 1)},
		{fraction(1, 3), fraction(1, 2), fraction(2, 5)},
		{fraction(1, 2), fraction(1, 3), fraction(2, 5)},
		{fraction(999999, 1), fraction(1, 0), fraction(1000000, 1)},
		{fraction(1000000, 1), fraction(1, 0), fraction(0, 0)},
		{fraction(1, 0), fraction(1000000, 1), fraction(0, 0)},
		{fraction(0, 1), fraction(1, 999999), fraction(1, 1000000)},
		{fraction(0, 1), fraction(1, 1000000), fraction(0, 0)},
		{fraction(999998, 999999), fraction(1, 1), fraction(999999, 1000000)},
		{fraction(999999, 1000000), fraction(1, 1), fraction(0, 0)},
		{fraction(1000000, 999999), fraction(1, 1), fraction(0, 0)},
		{fraction(999999, 1000000), fraction(999998, 999999), fraction(0, 0)},
		{fraction(499999, 500000), fraction(499998, 499999), fraction(999997, 999999)},
		{fraction(1, 2), fraction(1, 2), fraction(0, 0)},
		{fraction(0, 1), fraction(0, 1), fraction(0, 0)},
		{fraction(1, 0), fraction(1, 0), fraction(0, 0)},
		{fraction(1, 3), fraction(2, 3), fraction(0, 0)},
		{fraction(0, 1), fraction(2, 1), fraction(0, 0)},
	}
	for _, k := range known {
		got, ok := impl.MediantOf(k.f, k.g)
		want(t, ok, k.mediant != impl.Fraction{}, "MediantOf ", k.f, k.g)
		want(t, got, k.mediant, "MediantOf ", k.f, k.g)
	}
}

func TestParentsOfSmallFractions(t *testing.T) {
	for _, f := range allFractions(20) {
		less, greater, ok := impl.ParentsOf(f)
		if f.Num == 0 || f.Den == 0 {
			wantFailedFraction(t, less, ok, "ParentsOf ", f)
			wantFailedFraction(t, greater, ok, "ParentsOf ", f)
			continue
		}
		expectedLess, expectedGreater, found := parentsByTrying(f)
		want(t, found, 1, "pairs whose mediant is ", f)
		wantTrue(t, ok, "ParentsOf ", f)
		want(t, []impl.Fraction{less, greater}, []impl.Fraction{expectedLess, expectedGreater}, "ParentsOf ", f)
	}
}

// TestParentsAreNear holds parents against what the document says of them: there is just one such pair.
func TestParentsAreNear(t *testing.T) {
	for _, f := range append(allFractions(60), wideFractions()...) {
		if f.Num == 0 || f.Den == 0 {
			continue
		}
		less, greater, ok := impl.ParentsOf(f)
		wantTrue(t, ok, "ParentsOf ", f)
		want(t, []bool{impl.IsFraction(less), impl.IsFraction(greater)}, []bool{true, true}, "ParentsOf ", f)
		want(t, []int{crossOf(less, greater), crossOf(less, f), crossOf(f, greater)}, []int{1, 1, 1}, "crosses of ParentsOf ", f)
		near, ok := impl.AreNear(less, greater)
		want(t, near && ok, true, "AreNear of ParentsOf ", f)
		mediant, ok := impl.MediantOf(less, greater)
		wantTrue(t, ok, "MediantOf of ParentsOf ", f)
		want(t, mediant, f, "MediantOf of ParentsOf ", f)
	}
}

func TestParentsOfThatAreKnown(t *testing.T) {
	known := []struct {
		f, less, greater impl.Fraction
	}{
		{fraction(1, 1), fraction(0, 1), fraction(1, 0)},
		{fraction(2, 1), fraction(1, 1), fraction(1, 0)},
		{fraction(1, 2), fraction(0, 1), fraction(1, 1)},
		{fraction(2, 5), fraction(1, 3), fraction(1, 2)},
		{fraction(3, 5), fraction(1, 2), fraction(2, 3)},
		{fraction(5, 2), fraction(2, 1), fraction(3, 1)},
		{fraction(1000000, 1), fraction(999999, 1), fraction(1, 0)},
		{fraction(1, 1000000), fraction(0, 1), fraction(1, 999999)},
		{fraction(999999, 1000000), fraction(999998, 999999), fraction(1, 1)},
		{fraction(1000000, 999999), fraction(1, 1), fraction(999999, 999998)},
		{fraction(832040, 514229), fraction(317811, 196418), fraction(514229, 317811)},
		{fraction(355, 113), fraction(333, 106), fraction(22, 7)},
		{fraction(0, 1), fraction(0, 0), fraction(0, 0)},
		{fraction(1, 0), fraction(0, 0), fraction(0, 0)},
	}
	for _, k := range known {
		less, greater, ok := impl.ParentsOf(k.f)
		want(t, ok, k.less != impl.Fraction{}, "ParentsOf ", k.f)
		want(t, []impl.Fraction{less, greater}, []impl.Fraction{k.less, k.greater}, "ParentsOf ", k.f)
	}
}

func TestPathOfFraction(t *testing.T) {
	tooLong := 0
	for _, f := range append(allFractions(120), wideFractions()...) {
		got, ok := impl.PathOfFraction(f)
		if f.Num == 0 || f.Den == 0 {
			wantFailedText(t, got, ok, "PathOfFraction ", f)
			continue
		}
		path := pathOf(f)
		if len(path) > 100 {
			wantFailedText(t, got, ok, "PathOfFraction ", f)
			tooLong++
			continue
		}
		wantTrue(t, ok, "PathOfFraction ", f)
		want(t, got, path, "PathOfFraction ", f)
		back, ok := impl.FractionOfPath(path)
		wantTrue(t, ok, "FractionOfPath ", path)
		want(t, back, f, "FractionOfPath ", path)
	}
	want(t, tooLong > 10, true, "paths of more than 100 letters")
}

// TestPathsGoOnToMediants follows the document: l leads to the mediant with the less parent, r to that with the greater one.
func TestPathsGoOnToMediants(t *testing.T) {
	for _, f := range allFractions(40) {
		if f.Num == 0 || f.Den == 0 {
			continue
		}
		path, _ := impl.PathOfFraction(f)
		less, greater, _ := impl.ParentsOf(f)
		l, _ := impl.MediantOf(f, less)
		r, _ := impl.MediantOf(f, greater)
		for letter, next := range map[string]impl.Fraction{"l": l, "r": r} {
			got, ok := impl.PathOfFraction(next)
			wantTrue(t, ok, "PathOfFraction ", next)
			want(t, got, path+letter, "PathOfFraction ", next)
		}
	}
}

func TestFractionOfPath(t *testing.T) {
	most := big.NewInt(1000000)
	tooGreat := 0
	for _, path := range slices.Concat(allWords(11), longWords(20), longWords(28), longWords(29), longWords(30), longWords(50), longWords(91), longWords(99), longWords(100)) {
		got, ok := impl.FractionOfPath(path)
		num, den := endOfPath(path)
		if num.Cmp(most) > 0 || den.Cmp(most) > 0 {
			wantFailedFraction(t, got, ok, "FractionOfPath ", path)
			tooGreat++
			continue
		}
		wantTrue(t, ok, "FractionOfPath ", path)
		want(t, []*big.Int{big.NewInt(int64(got.Num)), big.NewInt(int64(got.Den))}, []*big.Int{num, den}, "FractionOfPath ", path)
		back, ok := impl.PathOfFraction(got)
		wantTrue(t, ok, "PathOfFraction of ", path)
		want(t, back, path, "PathOfFraction of ", path)
	}
	want(t, tooGreat > 10, true, "paths to numbers greater than 10^6")
	for _, path := range noPaths() {
		got, ok := impl.FractionOfPath(path)
		wantFailedFraction(t, got, ok, "FractionOfPath ", path)
	}
}

func TestPathsThatAreKnown(t *testing.T) {
	known := []struct {
		f    impl.Fraction
		path string
	}{
		{fraction(1, 1), ""},
		{fraction(1, 2), "l"},
		{fraction(2, 1), "r"},
		{fraction(1, 3), "ll"},
		{fraction(2, 3), "lr"},
		{fraction(3, 2), "rl"},
		{fraction(3, 1), "rr"},
		{fraction(2, 5), "llr"},
		{fraction(101, 1), strings.Repeat("r", 100)},
		{fraction(1, 101), strings.Repeat("l", 100)},
		{fraction(100, 101), "l" + strings.Repeat("r", 99)},
		{fraction(101, 100), "r" + strings.Repeat("l", 99)},
		{fraction(832040, 514229), strings.Repeat("rl", 14)},
		{fraction(514229, 832040), strings.Repeat("lr", 14)},
	}
	for _, k := range known {
		path, ok := impl.PathOfFraction(k.f)
		wantTrue(t, ok, "PathOfFraction ", k.f)
		want(t, path, k.path, "PathOfFraction ", k.f)
		f, ok := impl.FractionOfPath(k.path)
		wantTrue(t, ok, "FractionOfPath ", k.path)
		want(t, f, k.f, "FractionOfPath ", k.path)
	}
}

func TestPathsThatAreTooLong(t *testing.T) {
	for _, f := range []impl.Fraction{fraction(102, 1), fraction(1, 102), fraction(101, 102), fraction(102, 101), fraction(103, 1), fraction(203, 2), fraction(1000000, 1), fraction(1, 1000000), fraction(999999, 1000000), fraction(1000000, 999999)} {
		path, ok := impl.PathOfFraction(f)
		wantFailedText(t, path, ok, "PathOfFraction ", f)
	}
	for _, path := range []string{strings.Repeat("r", 101), strings.Repeat("l", 101), "l" + strings.Repeat("r", 100), "r" + strings.Repeat("l", 100)} {
		f, ok := impl.FractionOfPath(path)
		wantFailedFraction(t, f, ok, "FractionOfPath ", path)
	}
}

// TestPathsAtTheLimitOfFractions has paths to a Num or a Den of 10^6, behind which there is no fraction, and to one of one more.
func TestPathsAtTheLimitOfFractions(t *testing.T) {
	found := 0
	for other := 100000; other <= 999999; other += 3989 {
		for _, f := range []impl.Fraction{fraction(1000000, other), fraction(other, 1000000)} {
			if !isInLowest(f.Num, f.Den) || len(pathOf(f)) >= 100 {
				continue
			}
			found++
			got, ok := impl.FractionOfPath(pathOf(f))
			wantTrue(t, ok, "FractionOfPath of ", f)
			want(t, got, f, "FractionOfPath of ", f)
			for _, letter := range []string{"l", "r"} {
				behind, ok := impl.FractionOfPath(pathOf(f) + letter)
				wantFailedFraction(t, behind, ok, "FractionOfPath behind ", f, letter)
			}
		}
		for _, f := range []impl.Fraction{fraction(1000001, other), fraction(other, 1000001)} {
			if isInLowest(f.Num, f.Den) && len(pathOf(f)) <= 100 {
				got, ok := impl.FractionOfPath(pathOf(f))
				wantFailedFraction(t, got, ok, "FractionOfPath of ", f)
			}
		}
	}
	want(t, found > 50, true, "fractions with a number of 10^6")
}

// TestPathsThatWrapAround has 100 letters that lead to numbers of more than 64 bits.
func TestPathsThatWrapAround(t *testing.T) {
	for _, path := range []string{strings.Repeat("lr", 50), strings.Repeat("rl", 50), strings.Repeat("rrll", 25)} {
		num, _ := endOfPath(path)
		want(t, num.BitLen() > 63, true, "Num at the end of ", path)
		f, ok := impl.FractionOfPath(path)
		wantFailedFraction(t, f, ok, "FractionOfPath ", path)
	}
}

func TestFareyList(t *testing.T) {
	for n := 1; n <= 40; n++ {
		expected := fareyOf(n)
		list, ok := impl.FareyList(n)
		wantTrue(t, ok, "FareyList ", n)
		want(t, list, expected, "FareyList ", n)
		for i := range list[1:] {
			near, ok := impl.AreNear(list[i], list[i+1])
			want(t, near && ok, true, "AreNear of neighbours in FareyList ", n)
		}
		count, ok := impl.CountFarey(n)
		wantTrue(t, ok, "CountFarey ", n)
		want(t, count, len(expected), "CountFarey ", n)
	}
	for _, n := range []int{math.MinInt, -40, -1, 0, 41, 42, 1000000, math.MaxInt} {
		list, ok := impl.FareyList(n)
		wantFailedList(t, list, ok, "FareyList ", n)
		count, ok := impl.CountFarey(n)
		wantFailedNumber(t, count, ok, "CountFarey ", n)
	}
}

// TestFareyListHasAllFractions goes by the Dens: which fractions there are is told without mediants.
func TestFareyListHasAllFractions(t *testing.T) {
	for n := 1; n <= 40; n++ {
		count := 1
		for k := 1; k <= n; k++ {
			for num := 1; num <= k; num++ {
				if commonDivisor(num, k) == 1 {
					count++
				}
			}
		}
		got, ok := impl.CountFarey(n)
		wantTrue(t, ok, "CountFarey ", n)
		want(t, got, count, "CountFarey ", n)
		list, _ := impl.FareyList(n)
		for _, f := range allFractions(n) {
			want(t, slices.Contains(list, f), f.Num <= f.Den, "FareyList has ", f, n)
		}
		want(t, slices.IsSortedFunc(list, compareFractions), true, "order of FareyList ", n)
	}
}

func TestFareyListsThatAreKnown(t *testing.T) {
	known := map[int][]impl.Fraction{
		1: {fraction(0, 1), fraction(1, 1)},
		2: {fraction(0, 1), fraction(1, 2), fraction(1, 1)},
		3: {fraction(0, 1), fraction(1, 3), fraction(1, 2), fraction(2, 3), fraction(1, 1)},
		5: {fraction(0, 1), fraction(1, 5), fraction(1, 4), fraction(1, 3), fraction(2, 5), fraction(1, 2), fraction(3, 5), fraction(2, 3), fraction(3, 4), fraction(4, 5), fraction(1, 1)},
	}
	for n, expected := range known {
		list, ok := impl.FareyList(n)
		wantTrue(t, ok, "FareyList ", n)
		want(t, list, expected, "FareyList ", n)
	}
	for n, expected := range map[int]int{1: 2, 2: 3, 3: 5, 4: 7, 5: 11, 10: 33, 40: 491} {
		count, ok := impl.CountFarey(n)
		wantTrue(t, ok, "CountFarey ", n)
		want(t, count, expected, "CountFarey ", n)
	}
}

func TestNextFarey(t *testing.T) {
	fractions := append(allFractions(45), wideFractions()...)
	for n := 1; n <= 40; n++ {
		list := fareyOf(n)
		for i, f := range list[:len(list)-1] {
			got, ok := impl.NextFarey(f, n)
			wantTrue(t, ok, "NextFarey ", f, n)
			want(t, got, list[i+1], "NextFarey ", f, n)
		}
		for _, f := range append(fractions, noFractions()...) {
			if f == fraction(1, 1) || !slices.Contains(list, f) {
				got, ok := impl.NextFarey(f, n)
				wantFailedFraction(t, got, ok, "NextFarey ", f, n)
			}
		}
	}
	for _, n := range []int{math.MinInt, -1, 0, 41, math.MaxInt} {
		for _, f := range allFractions(3) {
			got, ok := impl.NextFarey(f, n)
			wantFailedFraction(t, got, ok, "NextFarey ", f, n)
		}
	}
}

func TestNextFareyThatAreKnown(t *testing.T) {
	known := []struct {
		f    impl.Fraction
		n    int
		next impl.Fraction
	}{
		{fraction(0, 1), 1, fraction(1, 1)},
		{fraction(1, 1), 1, fraction(0, 0)},
		{fraction(1, 2), 1, fraction(0, 0)},
		{fraction(0, 1), 40, fraction(1, 40)},
		{fraction(1, 40), 40, fraction(1, 39)},
		{fraction(1, 40), 39, fraction(0, 0)},
		{fraction(39, 40), 40, fraction(1, 1)},
		{fraction(1, 1), 40, fraction(0, 0)},
		{fraction(2, 5), 5, fraction(1, 2)},
		{fraction(2, 5), 7, fraction(3, 7)},
		{fraction(1, 3), 3, fraction(1, 2)},
		{fraction(2, 4), 4, fraction(0, 0)},
		{fraction(2, 1), 3, fraction(0, 0)},
		{fraction(1, 0), 3, fraction(0, 0)},
		{fraction(0, 0), 3, fraction(0, 0)},
	}
	for _, k := range known {
		got, ok := impl.NextFarey(k.f, k.n)
		want(t, ok, k.next != impl.Fraction{}, "NextFarey ", k.f, k.n)
		want(t, got, k.next, "NextFarey ", k.f, k.n)
	}
}

func TestFractionsOf(t *testing.T) {
	for _, p := range somePolygons() {
		quiddity := quiddityOf(p.n, p.ds)
		list, ok := impl.FractionsOf(quiddity)
		wantTrue(t, ok, "FractionsOf ", quiddity)
		want(t, list, fractionsOf(p), "FractionsOf ", quiddity)
		want(t, impl.IsFractionPolygon(list), true, "IsFractionPolygon of FractionsOf ", quiddity)
		for i := 1; i < p.n; i++ {
			num, _ := impl.EntryOf(quiddity, 1, i)
			den, _ := impl.EntryOf(quiddity, 0, i)
			want(t, list[i-1], fraction(num, den), "entries of FractionsOf ", quiddity, i)
		}
		want(t, list[p.n-1], fraction(1, 0), "last one of FractionsOf ", quiddity)
	}
	for _, quiddity := range badQuiddities() {
		list, ok := impl.FractionsOf(quiddity)
		wantFailedList(t, list, ok, "FractionsOf ", quiddity)
	}
}

func TestIsFractionPolygon(t *testing.T) {
	for _, list := range someFractionPolygons() {
		want(t, isPolygonOfFractions(list), true, "polygon of fractions ", list)
		want(t, impl.IsFractionPolygon(list), true, "IsFractionPolygon ", list)
		for _, spoiled := range spoiledPolygons(list) {
			want(t, impl.IsFractionPolygon(spoiled), isPolygonOfFractions(spoiled), "IsFractionPolygon ", spoiled)
		}
	}
	for _, list := range noFractionPolygons() {
		want(t, isPolygonOfFractions(list), false, "polygon of fractions ", list)
		want(t, impl.IsFractionPolygon(list), false, "IsFractionPolygon ", list)
	}
}

// listsFrom are all lists of so many of the given fractions.
func listsFrom(fractions []impl.Fraction, count int) [][]impl.Fraction {
	lists := [][]impl.Fraction{nil}
	for range count {
		var longer [][]impl.Fraction
		for _, list := range lists {
			for _, f := range fractions {
				longer = append(longer, append(slices.Clone(list), f))
			}
		}
		lists = longer
	}
	return lists
}

func TestIsFractionPolygonOfAllLists(t *testing.T) {
	bad := []impl.Fraction{{}, fraction(2, 2), fraction(-1, 0), fraction(0, -1), fraction(2, 0), fraction(1, -1)}
	lists := slices.Concat(listsFrom(allFractions(3), 1), listsFrom(allFractions(3), 2), listsFrom(append(allFractions(3), bad...), 3), listsFrom(append(allFractions(2), bad...), 4))
	for _, inner := range listsFrom(allFractions(3), 4) {
		lists = append(lists, slices.Concat([]impl.Fraction{fraction(0, 1)}, inner, []impl.Fraction{fraction(1, 0)}))
	}
	found := 0
	for _, list := range lists {
		is := isPolygonOfFractions(list)
		want(t, impl.IsFractionPolygon(list), is, "IsFractionPolygon ", list)
		if is {
			found++
		}
	}
	want(t, found > 5, true, "polygons of fractions among all lists")
}

// TestPolygonsOfFractionsTellQuiddities has all polygons of fractions of up to 8 of them: as many as quiddities, each one with
// another quiddity.
func TestPolygonsOfFractionsTellQuiddities(t *testing.T) {
	counts := []int{0, 0, 0, 1, 2, 5, 14, 42, 132}
	for n := 3; n <= 8; n++ {
		found := map[string]bool{}
		for _, list := range polygonsByMediants(n) {
			want(t, impl.IsFractionPolygon(list), true, "IsFractionPolygon ", list)
			quiddity, ok := impl.QuiddityOfFractions(list)
			wantTrue(t, ok, "QuiddityOfFractions ", list)
			want(t, quiddity, multiplesOf(list), "QuiddityOfFractions ", list)
			want(t, impl.IsQuiddity(quiddity), true, "IsQuiddity of QuiddityOfFractions ", list)
			found[fmt.Sprint(quiddity)] = true
			again, ok := impl.FractionsOf(quiddity)
			wantTrue(t, ok, "FractionsOf ", quiddity)
			want(t, again, list, "FractionsOf ", quiddity)
		}
		want(t, len(found), counts[n], "quiddities told by polygons of ", n)
	}
}

func TestQuiddityOfFractionsAndNearPairs(t *testing.T) {
	for _, p := range somePolygons() {
		list := fractionsOf(p)
		quiddity, ok := impl.QuiddityOfFractions(list)
		wantTrue(t, ok, "QuiddityOfFractions ", list)
		want(t, quiddity, quiddityOf(p.n, p.ds), "QuiddityOfFractions ", list)
		want(t, quiddity, multiplesOf(list), "QuiddityOfFractions ", list)
		pairs, ok := impl.NearPairs(list)
		wantTrue(t, ok, "NearPairs ", list)
		want(t, pairs, p.ds, "NearPairs ", list)
		want(t, pairs, nearPairsOf(list), "NearPairs ", list)
		ds, ok := impl.TriangulationOf(quiddity)
		wantTrue(t, ok, "TriangulationOf ", quiddity)
		want(t, pairs, ds, "NearPairs ", list)
	}
}

func TestChapter6OfNoPolygons(t *testing.T) {
	lists := noFractionPolygons()
	for _, list := range someFractionPolygons() {
		lists = append(lists, slices.DeleteFunc(spoiledPolygons(list), isPolygonOfFractions)...)
	}
	for _, list := range lists {
		quiddity, ok := impl.QuiddityOfFractions(list)
		wantFailedList(t, quiddity, ok, "QuiddityOfFractions ", list)
		pairs, ok := impl.NearPairs(list)
		wantFailedList(t, pairs, ok, "NearPairs ", list)
	}
}

// TestPolygonsOfFractionsThatAreKnown has polygons of three and of MaxCorners fractions.
func TestPolygonsOfFractionsThatAreKnown(t *testing.T) {
	byDens := []impl.Fraction{fraction(0, 1)}
	byNums := []impl.Fraction{fraction(0, 1)}
	for k := 1; k <= 10; k++ {
		byDens = append(byDens, fraction(1, 11-k))
		byNums = append(byNums, fraction(k, 1))
	}
	byDens, byNums = append(byDens, fraction(1, 0)), append(byNums, fraction(1, 0))
	known := []struct {
		list     []impl.Fraction
		quiddity []int
		pairs    []impl.Diagonal
	}{
		{[]impl.Fraction{fraction(0, 1), fraction(1, 1), fraction(1, 0)}, []int{1, 1, 1}, nil},
		{[]impl.Fraction{fraction(0, 1), fraction(1, 2), fraction(1, 1), fraction(1, 0)}, []int{1, 2, 1, 2}, diagonals(1, 3)},
		{[]impl.Fraction{fraction(0, 1), fraction(1, 1), fraction(2, 1), fraction(1, 0)}, []int{2, 1, 2, 1}, diagonals(0, 2)},
		{[]impl.Fraction{fraction(0, 1), fraction(1, 3), fraction(1, 2), fraction(1, 1), fraction(1, 0)}, []int{1, 3, 1, 2, 2}, diagonals(1, 3, 1, 4)},
		{[]impl.Fraction{fraction(0, 1), fraction(1, 2), fraction(1, 1), fraction(2, 1), fraction(1, 0)}, []int{2, 2, 1, 3, 1}, diagonals(0, 3, 1, 3)},
		{byDens, []int{1, 10, 1, 2, 2, 2, 2, 2, 2, 2, 2, 2}, diagonals(1, 3, 1, 4, 1, 5, 1, 6, 1, 7, 1, 8, 1, 9, 1, 10, 1, 11)},
		{byNums, []int{10, 1, 2, 2, 2, 2, 2, 2, 2, 2, 2, 1}, diagonals(0, 2, 0, 3, 0, 4, 0, 5, 0, 6, 0, 7, 0, 8, 0, 9, 0, 10)},
	}
	for _, k := range known {
		want(t, impl.IsFractionPolygon(k.list), true, "IsFractionPolygon ", k.list)
		quiddity, ok := impl.QuiddityOfFractions(k.list)
		wantTrue(t, ok, "QuiddityOfFractions ", k.list)
		want(t, quiddity, k.quiddity, "QuiddityOfFractions ", k.list)
		list, ok := impl.FractionsOf(k.quiddity)
		wantTrue(t, ok, "FractionsOf ", k.quiddity)
		want(t, list, k.list, "FractionsOf ", k.quiddity)
		pairs, ok := impl.NearPairs(k.list)
		wantTrue(t, ok, "NearPairs ", k.list)
		want(t, pairs, k.pairs, "NearPairs ", k.list)
	}
}

// TestNearPairsHasNoNeighbours: fractions next to each other, the first and the last one among them, are near, but no pair.
func TestNearPairsHasNoNeighbours(t *testing.T) {
	for _, list := range someFractionPolygons() {
		pairs, ok := impl.NearPairs(list)
		wantTrue(t, ok, "NearPairs ", list)
		n := len(list)
		for corner := range n {
			near, ok := impl.AreNear(list[corner], list[(corner+1)%n])
			want(t, near && ok, true, "AreNear of neighbours in ", list, corner)
			side := line(corner, (corner+1)%n)
			want(t, slices.Contains(pairs, side), false, "NearPairs has neighbours in ", list, side)
		}
		want(t, impl.IsTriangulation(n, pairs), true, "IsTriangulation of NearPairs ", list)
	}
}

func TestFractionText(t *testing.T) {
	for _, f := range append(allFractions(20), wideFractions()...) {
		got, ok := impl.FractionText(f)
		wantTrue(t, ok, "FractionText ", f)
		want(t, got, fmt.Sprintf("%d/%d", f.Num, f.Den), "FractionText ", f)
	}
	known := map[string]impl.Fraction{
		"0/1":       fraction(0, 1),
		"1/0":       fraction(1, 0),
		"2/5":       fraction(2, 5),
		"1000000/1": fraction(1000000, 1),
		"1/1000000": fraction(1, 1000000),
	}
	for text, f := range known {
		got, ok := impl.FractionText(f)
		wantTrue(t, ok, "FractionText ", f)
		want(t, got, text, "FractionText ", f)
	}
}

func TestChapter6OfNoFractions(t *testing.T) {
	for _, bad := range noFractions() {
		less, greater, ok := impl.ParentsOf(bad)
		wantFailedFraction(t, less, ok, "ParentsOf ", bad)
		wantFailedFraction(t, greater, ok, "ParentsOf ", bad)
		text, ok := impl.PathOfFraction(bad)
		wantFailedText(t, text, ok, "PathOfFraction ", bad)
		text, ok = impl.FractionText(bad)
		wantFailedText(t, text, ok, "FractionText ", bad)
		for _, other := range append(someFractions(), bad, impl.Fraction{}) {
			wantNoPair(t, bad, other)
			wantNoPair(t, other, bad)
		}
	}
}

// wantNoPair is for the functions that take two fractions.
func wantNoPair(t *testing.T, f impl.Fraction, g impl.Fraction) {
	t.Helper()
	cross, ok := impl.CrossOf(f, g)
	wantFailedNumber(t, cross, ok, "CrossOf ", f, g)
	near, ok := impl.AreNear(f, g)
	wantFailedBool(t, near, ok, "AreNear ", f, g)
	mediant, ok := impl.MediantOf(f, g)
	wantFailedFraction(t, mediant, ok, "MediantOf ", f, g)
}

func TestExamplesOfChapter6(t *testing.T) {
	less, greater, _ := impl.ParentsOf(fraction(2, 5))
	want(t, []impl.Fraction{less, greater}, []impl.Fraction{fraction(1, 3), fraction(1, 2)}, "ParentsOf 2 / 5")
	path, _ := impl.PathOfFraction(fraction(2, 5))
	want(t, path, "llr", "PathOfFraction 2 / 5")
	list, _ := impl.FareyList(3)
	want(t, list, []impl.Fraction{fraction(0, 1), fraction(1, 3), fraction(1, 2), fraction(2, 3), fraction(1, 1)}, "FareyList 3")
	quiddity := []int{1, 3, 1, 2, 2}
	fractions, _ := impl.FractionsOf(quiddity)
	want(t, fractions, []impl.Fraction{fraction(0, 1), fraction(1, 3), fraction(1, 2), fraction(1, 1), fraction(1, 0)}, "FractionsOf ", quiddity)
	diagonal, _ := impl.DiagonalOfFrieze(quiddity, 0)
	for i, den := range diagonal {
		want(t, fractions[i].Den, den, "Den of FractionsOf ", quiddity, i)
	}
}
