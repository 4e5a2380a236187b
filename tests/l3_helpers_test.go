package tests

import (
	"math"
	"math/big"
	"slices"
)

// The helpers of this file tell continuants by trying all sets of pairs, and fractions by dividing, without continuants.

// setsOfPairs has the sets of pairs of neighbours among n terms, no two with a term in common, in order.
func setsOfPairs(n int) [][]int {
	var sets [][]int
	for code := range 1 << max(n-1, 0) {
		var set []int
		for at := range n - 1 {
			if code>>at&1 == 1 {
				set = append(set, at)
			}
		}
		if code&(code>>1) == 0 {
			sets = append(sets, set)
		}
	}
	slices.SortFunc(sets, slices.Compare)
	return sets
}

// leftProduct multiplies the terms that are in no pair of a set.
func leftProduct(list []int, set []int) int {
	whole := 1
	for at, term := range list {
		if !slices.Contains(set, at) && !slices.Contains(set, at-1) {
			whole *= term
		}
	}
	return whole
}

func partsOf(list []int) []int {
	var parts []int
	for _, set := range setsOfPairs(len(list)) {
		part := leftProduct(list, set)
		if len(set)%2 == 1 {
			part = -part
		}
		parts = append(parts, part)
	}
	return parts
}

func sum(list []int) int {
	whole := 0
	for _, number := range list {
		whole += number
	}
	return whole
}

func continuantOf(list []int) int {
	return sum(partsOf(list))
}

func plusContinuantOf(list []int) int {
	whole := 0
	for _, set := range setsOfPairs(len(list)) {
		whole += leftProduct(list, set)
	}
	return whole
}

// areTerms holds each number against all terms.
func areTerms(list []int) bool {
	for _, number := range list {
		found := false
		for term := -30; term <= 30; term++ {
			found = found || term == number
		}
		if !found {
			return false
		}
	}
	return len(list) <= 10
}

// fractionOf divides from the last term on, the sign standing before each 1 that is divided. It tells whether no division is by 0.
func fractionOf(list []int, sign int64) (*big.Rat, bool) {
	value := big.NewRat(int64(list[len(list)-1]), 1)
	for at := len(list) - 2; at >= 0; at-- {
		if value.Sign() == 0 {
			return nil, false
		}
		value = new(big.Rat).Quo(big.NewRat(sign, 1), value)
		value.Add(value, big.NewRat(int64(list[at]), 1))
	}
	return value, true
}

// manyTerms is more than a list of terms may have.
const manyTerms = 14

// wholeBelow is the greatest whole number that is not greater than a value.
func wholeBelow(value *big.Rat) int64 {
	return new(big.Int).Div(value.Num(), value.Denom()).Int64()
}

// minusList is the list with a minus fraction, the first number at least 1, all others at least 2; it is not told to its end if
// it has many terms.
func minusList(value *big.Rat) []int {
	var list []int
	for len(list) < manyTerms {
		number := -wholeBelow(new(big.Rat).Neg(value))
		list = append(list, int(number))
		rest := new(big.Rat).Sub(big.NewRat(number, 1), value)
		if rest.Sign() == 0 {
			break
		}
		value = rest.Inv(rest)
	}
	return list
}

// plusList is the list with a plus fraction of at least 1, the last number at least 2 unless it is 1 alone.
func plusList(value *big.Rat) []int {
	var list []int
	for len(list) < manyTerms {
		number := wholeBelow(value)
		list = append(list, int(number))
		rest := new(big.Rat).Sub(value, big.NewRat(number, 1))
		if rest.Sign() == 0 {
			break
		}
		value = rest.Inv(rest)
	}
	return list
}

// withOne puts a 1 before the place at, the terms beside it greater by 1.
func withOne(list []int, at int) []int {
	var out []int
	for i, term := range list {
		if i == at-1 {
			out = append(out, term+1, 1)
		} else if i == at {
			out = append(out, term+1)
		} else {
			out = append(out, term)
		}
	}
	return out
}

// withoutOne leaves out the place at, the terms beside it less by 1.
func withoutOne(list []int, at int) []int {
	var out []int
	for i, term := range list {
		if i == at-1 || i == at+1 {
			out = append(out, term-1)
		} else if i != at {
			out = append(out, term)
		}
	}
	return out
}

// reduced takes ones out, the first one first, and tells whether all lists on the way are terms.
func reduced(list []int) ([]int, bool) {
	for at := 1; at < len(list)-1; at++ {
		if list[at] == 1 {
			shorter := withoutOne(list, at)
			if !areTerms(shorter) {
				return nil, false
			}
			return reduced(shorter)
		}
	}
	return list, true
}

// allLists are all lists of so many numbers in low..high, 0 numbers among them.
func allLists(most int, low int, high int) [][]int {
	lists := [][]int{nil}
	for from := 0; len(lists[from]) < most; from++ {
		for number := low; number <= high; number++ {
			lists = append(lists, append(slices.Clone(lists[from]), number))
		}
	}
	return lists
}

// mixedTerms are lists of 1..10 terms of -size..size that follow no short rule.
func mixedTerms(size int) [][]int {
	var lists [][]int
	z := 1
	for n := 1; n <= 10; n++ {
		for range 12 {
			list := make([]int, n)
			for at := range list {
				z = (z*187 + 3301) % 10007
				list[at] = z%(2*size+1) - size
			}
			lists = append(lists, list)
		}
	}
	return lists
}

// equalTerms are lists of 1..10 terms, all the same ones or two in turn, of any size.
func equalTerms() [][]int {
	var lists [][]int
	for n := 1; n <= 10; n++ {
		for _, term := range []int{-30, -29, -2, -1, 0, 1, 2, 3, 29, 30} {
			lists = append(lists, slices.Repeat([]int{term}, n))
			lists = append(lists, slices.Repeat([]int{term, -term}, n)[:n])
			lists = append(lists, slices.Repeat([]int{1, term}, n)[:n])
		}
	}
	return lists
}

func someTerms() [][]int {
	return slices.Concat(allLists(4, -2, 3), mixedTerms(3), mixedTerms(30), equalTerms())
}

// somePlusTerms are lists of at least one term, all at least 1.
func somePlusTerms() [][]int {
	lists := slices.Concat(allLists(4, 1, 5), mixedTerms(3), mixedTerms(30), equalTerms())
	for _, list := range lists {
		for at, term := range list {
			if term < 1 {
				list[at] = 1 - term%30
			}
		}
	}
	return slices.DeleteFunc(lists, func(list []int) bool { return len(list) == 0 })
}

// noTerms are lists that are no terms, as one number or the length is beyond a limit.
func noTerms() [][]int {
	lists := [][]int{make([]int, 11), slices.Repeat([]int{1}, 11), slices.Repeat([]int{2}, 11), slices.Repeat([]int{30}, 12), slices.Repeat([]int{1, 2}, 2500)}
	for _, number := range []int{math.MinInt, math.MinInt + 1, math.MinInt32, -1000, -31, 31, 1000, math.MaxInt32, math.MaxInt - 1, math.MaxInt} {
		for n := 1; n <= 10; n++ {
			for at := range n {
				list := slices.Repeat([]int{1}, n)
				list[at] = number
				lists = append(lists, list)
			}
		}
	}
	return lists
}

// widePlaces are places before and behind all those that a list has.
func widePlaces(list []int) []int {
	places := []int{math.MinInt, math.MinInt + 1, -1000, 1000, math.MaxInt - 1, math.MaxInt}
	for at := -2; at <= len(list)+2; at++ {
		places = append(places, at)
	}
	return places
}
