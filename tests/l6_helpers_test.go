package tests

import (
	"math"
	"math/big"
	"slices"
	"strings"
	"testing"

	"loop.example/g01236/impl"
)

// The helpers of this file order fractions by their values, tell paths by subtracting, Farey lists by inserting mediants, and
// polygons of fractions by triangles.

func fraction(num int, den int) impl.Fraction {
	return impl.Fraction{Num: num, Den: den}
}

// isInLowest tells whether numbers of at least 0 have no common divisor greater than 1.
func isInLowest(num int, den int) bool {
	if num == 0 || den == 0 {
		return num+den == 1
	}
	return commonDivisor(num, den) == 1
}

// allFractions are those with numbers of at most so much, 0 / 1 and 1 / 0 among them.
func allFractions(most int) []impl.Fraction {
	var all []impl.Fraction
	for num := 0; num <= most; num++ {
		for den := 0; den <= most; den++ {
			if isInLowest(num, den) {
				all = append(all, fraction(num, den))
			}
		}
	}
	return all
}

// wideFractions have numbers up to 10^6, and long and short paths.
func wideFractions() []impl.Fraction {
	all := []impl.Fraction{
		fraction(1, 99), fraction(1, 100), fraction(1, 101), fraction(1, 102), fraction(1, 103),
		fraction(99, 1), fraction(100, 1), fraction(101, 1), fraction(102, 1), fraction(103, 1),
		fraction(100, 101), fraction(101, 102), fraction(102, 103), fraction(102, 101), fraction(201, 101), fraction(203, 102),
		fraction(832040, 514229), fraction(514229, 832040), fraction(514229, 317811), fraction(196418, 832040),
		fraction(999999, 1), fraction(1, 999999), fraction(999998, 999999), fraction(500001, 499999), fraction(355, 113), fraction(3, 1000000),
	}
	all = slices.DeleteFunc(all, func(f impl.Fraction) bool { return !isInLowest(f.Num, f.Den) })
	for step := 1; step <= 1000000; step = step*3 + 1 {
		for _, top := range []int{1000000, 999999, 999983} {
			if isInLowest(top, step) {
				all = append(all, fraction(top, step), fraction(step, top))
			}
		}
	}
	return append(all, someFractions()...)
}

// compareFractions goes by the values, 1 / 0 being the greatest one.
func compareFractions(f impl.Fraction, g impl.Fraction) int {
	switch {
	case f.Den == 0 && g.Den == 0:
		return 0
	case f.Den == 0:
		return 1
	case g.Den == 0:
		return -1
	}
	return big.NewRat(int64(f.Num), int64(f.Den)).Cmp(big.NewRat(int64(g.Num), int64(g.Den)))
}

// crossOf follows the document; its arguments have numbers of a size of at most 10^6.
func crossOf(f impl.Fraction, g impl.Fraction) int {
	return g.Num*f.Den - f.Num*g.Den
}

func isNear(f impl.Fraction, g impl.Fraction) bool {
	return crossOf(f, g)*crossOf(f, g) == 1
}

// parentsByTrying takes all pairs of fractions that are together f: it tells how many are near, and the last one of these.
func parentsByTrying(f impl.Fraction) (impl.Fraction, impl.Fraction, int) {
	var less, greater impl.Fraction
	found := 0
	for num := 0; num <= f.Num; num++ {
		for den := 0; den <= f.Den; den++ {
			one, other := fraction(num, den), fraction(f.Num-num, f.Den-den)
			if isInLowest(num, den) && isInLowest(other.Num, other.Den) && isNear(one, other) && compareFractions(one, other) < 0 {
				less, greater = one, other
				found++
			}
		}
	}
	return less, greater, found
}

// pathOf takes the less number from the greater one until both are 1: each l takes from the Den, each r from the Num.
func pathOf(f impl.Fraction) string {
	var path strings.Builder
	for f != fraction(1, 1) {
		if f.Num < f.Den {
			path.WriteByte('l')
			f.Den -= f.Num
		} else {
			path.WriteByte('r')
			f.Num -= f.Den
		}
	}
	return path.String()
}

// endOfPath adds from the last letter to the first one, with numbers of any size.
func endOfPath(path string) (*big.Int, *big.Int) {
	num, den := big.NewInt(1), big.NewInt(1)
	for at := len(path) - 1; at >= 0; at-- {
		if path[at] == 'l' {
			den.Add(den, num)
		} else {
			num.Add(num, den)
		}
	}
	return num, den
}

// noPaths have another letter than l and r, or more letters than 100.
func noPaths() []string {
	paths := slices.Concat(longWords(101), longWords(102), longWords(1000))
	for _, letter := range []string{"L", "R", "k", "m", "q", "s", " ", "1", "/", "I", "\x00", "\n", "\xff", "\xec", "\xf2", "é", "l\u0301", "ｌ"} {
		paths = append(paths, letter, "l"+letter, letter+"r", "lr"+letter+"rl", strings.Repeat(letter, 100), strings.Repeat("l", 99)+letter, letter+strings.Repeat("r", 99))
	}
	return paths
}

// fareyBetween inserts mediants between two fractions for as long as their Den is at most n.
func fareyBetween(f impl.Fraction, g impl.Fraction, n int) []impl.Fraction {
	if f.Den+g.Den > n {
		return nil
	}
	middle := fraction(f.Num+g.Num, f.Den+g.Den)
	return slices.Concat(fareyBetween(f, middle, n), []impl.Fraction{middle}, fareyBetween(middle, g, n))
}

func fareyOf(n int) []impl.Fraction {
	first, last := fraction(0, 1), fraction(1, 1)
	return slices.Concat([]impl.Fraction{first}, fareyBetween(first, last, n), []impl.Fraction{last})
}

// fractionsOf has the entries of 1 and of 0, told by triangles, from the corner 1 around to the corner 0.
func fractionsOf(p polygon) []impl.Fraction {
	nums, dens := entriesFrom(p, 1), entriesFrom(p, 0)
	var list []impl.Fraction
	for i := 1; i <= p.n; i++ {
		list = append(list, fraction(nums[i%p.n], dens[i%p.n]))
	}
	return list
}

// polygonsByMediants are all lists of n fractions that inserting mediants makes of 0 / 1 and 1 / 0, each of them once.
func polygonsByMediants(n int) [][]impl.Fraction {
	lists := [][]impl.Fraction{{fraction(0, 1), fraction(1, 0)}}
	for size := 3; size <= n; size++ {
		var longer [][]impl.Fraction
		for _, list := range lists {
			for at := 1; at < len(list); at++ {
				middle := fraction(list[at-1].Num+list[at].Num, list[at-1].Den+list[at].Den)
				longer = append(longer, slices.Insert(slices.Clone(list), at, middle))
			}
		}
		slices.SortFunc(longer, func(a []impl.Fraction, b []impl.Fraction) int { return slices.CompareFunc(a, b, compareFractions) })
		lists = slices.CompactFunc(longer, slices.Equal[[]impl.Fraction])
	}
	return lists
}

// someFractionPolygons are those of all triangulations of 3..7 corners, and of some of up to 12 corners.
func someFractionPolygons() [][]impl.Fraction {
	var lists [][]impl.Fraction
	for _, p := range somePolygons() {
		lists = append(lists, fractionsOf(p))
	}
	return lists
}

// isPolygonOfFractions follows the document.
func isPolygonOfFractions(list []impl.Fraction) bool {
	n := len(list)
	if n < 3 || n > 12 || list[0] != fraction(0, 1) || list[n-1] != fraction(1, 0) {
		return false
	}
	for i, f := range list {
		if min(f.Num, f.Den) < 0 || max(f.Num, f.Den) > 1000000 || !isInLowest(f.Num, f.Den) {
			return false
		}
		if i > 0 && (compareFractions(list[i-1], f) >= 0 || !isNear(list[i-1], f)) {
			return false
		}
	}
	return true
}

// noFractionPolygons are lists that are none, each for one reason.
func noFractionPolygons() [][]impl.Fraction {
	zero, one, top := fraction(0, 1), fraction(1, 1), fraction(1, 0)
	thirteen := fractionsOf(polygon{13, fan(13)})
	lists := [][]impl.Fraction{
		nil,
		{},
		{zero},
		{one},
		{zero, top},
		thirteen,
		thirteen[:12],
		thirteen[1:],
		fractionsOf(polygon{40, fan(40)}),
		{zero, one},
		{zero, fraction(1, 2), one},
		{one, fraction(2, 1), top},
		{fraction(1, 2), one, top},
		{top, one, zero},
		{zero, top, one},
		{one, zero, top},
		{zero, zero, top},
		{zero, top, top},
		{zero, one, one, top},
		{zero, one, fraction(1, 2), top},
		{zero, fraction(2, 1), one, top},
		{zero, one, zero, top},
		{zero, top, zero, top},
		{zero, one, fraction(2, 1), one, top},
		{zero, one, fraction(2, 1), one, zero, one, fraction(2, 1), top},
		{zero, fraction(1, 2), top},
		{zero, fraction(2, 1), top},
		{zero, fraction(1, 2), fraction(2, 1), top},
		{zero, fraction(1, 3), fraction(2, 3), one, top},
		{zero, fraction(1, 1000000), top},
		{zero, fraction(1000000, 1), top},
		{fraction(0, 2), one, top},
		{fraction(0, 0), one, top},
		{zero, fraction(0, 0), top},
		{zero, fraction(2, 2), top},
		{zero, fraction(2, 4), one, top},
		{zero, one, fraction(2, 0)},
		{zero, one, fraction(0, 0)},
		{zero, one, fraction(-1, 0)},
		{fraction(-1, 0), zero, one},
		{fraction(-1, 0), zero, one, top},
		{fraction(0, -1), one, top},
		{zero, fraction(-1, -1), top},
		{zero, fraction(-1, 1), top},
		// Without bounds the products would wrap around to neighbours that are near.
		{zero, fraction(1, 3), fraction(6148914691236517206, 1), top},
		{zero, fraction(1, 1<<32+1), fraction(1-1<<32, 1), top},
		{zero, fraction(math.MinInt, math.MinInt), top},
		{zero, fraction(math.MaxInt, math.MaxInt), top},
	}
	return lists
}

// spoiledPolygons make of a polygon of fractions what is nearly one, if it has at least 4 fractions.
func spoiledPolygons(list []impl.Fraction) [][]impl.Fraction {
	var lists [][]impl.Fraction
	for i, f := range list {
		double := slices.Insert(slices.Clone(list), i, f)
		wide, negative, changed := slices.Clone(list), slices.Clone(list), slices.Clone(list)
		wide[i] = fraction(2*f.Num, 2*f.Den)
		negative[i] = fraction(-f.Num, -f.Den)
		changed[i] = fraction(f.Den+1, f.Num)
		lists = append(lists, double, wide, negative, changed, slices.Concat(list[i+1:], list[:i+1])[:len(list)-1])
		if i > 0 {
			swapped, missing := slices.Clone(list), slices.Clone(list)
			swapped[i-1], swapped[i] = swapped[i], swapped[i-1]
			missing[i-1] = fraction(0, 0)
			lists = append(lists, swapped, missing, slices.Concat(list[i:], list[:i]))
		}
	}
	return lists
}

// multiplesOf tells the quiddity by dividing: -1 / 0 stands ahead of the first fraction, and 0 / -1 behind the last one.
func multiplesOf(list []impl.Fraction) []int {
	n := len(list)
	row := slices.Concat([]impl.Fraction{fraction(-1, 0)}, list, []impl.Fraction{fraction(0, -1)})
	quiddity := slices.Repeat([]int{-1}, n)
	for i := 1; i <= n; i++ {
		for times := range 100 {
			if row[i-1].Num+row[i+1].Num == times*row[i].Num && row[i-1].Den+row[i+1].Den == times*row[i].Den {
				quiddity[i%n] = times
			}
		}
	}
	return quiddity
}

// nearPairsOf tries all pairs of corners that are not next to each other; the corner of a fraction is its index and 1 together.
func nearPairsOf(list []impl.Fraction) []impl.Diagonal {
	var pairs []impl.Diagonal
	for i, f := range list {
		for j := range i {
			d := line((i+1)%len(list), (j+1)%len(list))
			if isNear(f, list[j]) && !areNext(len(list), d.Low, d.High) {
				pairs = append(pairs, d)
			}
		}
	}
	slices.SortFunc(pairs, compare)
	return pairs
}

func wantFailedFraction(t *testing.T, got impl.Fraction, ok bool, what ...any) {
	t.Helper()
	want(t, ok, false, what...)
	want(t, got, impl.Fraction{}, what...)
}
