package tests

import (
	"math"
	"math/big"
	"slices"
	"testing"

	"loop.example/g01236/impl"
)

func TestLimitsOfChapter3(t *testing.T) {
	want(t, impl.MaxTerms, 10, "MaxTerms")
	want(t, impl.MaxTerm, 30, "MaxTerm")
}

func TestIsTermList(t *testing.T) {
	for n := 0; n <= 14; n++ {
		for _, number := range []int{-30, -29, -1, 0, 1, 29, 30} {
			list := slices.Repeat([]int{number}, n)
			want(t, impl.IsTermList(list), n <= 10, "IsTermList ", list)
		}
	}
	for number := -100; number <= 100; number++ {
		want(t, impl.IsTermList([]int{number}), number >= -30 && number <= 30, "IsTermList ", number)
		want(t, impl.IsTermList([]int{1, 2, number}), number >= -30 && number <= 30, "IsTermList 1, 2 and ", number)
	}
	want(t, impl.IsTermList(nil), true, "IsTermList of nil")
	for _, list := range someTerms() {
		want(t, impl.IsTermList(list), true, "IsTermList ", list)
	}
	for _, list := range noTerms() {
		want(t, impl.IsTermList(list), false, "IsTermList ", list)
	}
}

func TestContinuantOf(t *testing.T) {
	for _, list := range someTerms() {
		got, ok := impl.ContinuantOf(list)
		wantTrue(t, ok, "ContinuantOf ", list)
		want(t, got, continuantOf(list), "ContinuantOf ", list)
	}
}

func TestPlusContinuantOf(t *testing.T) {
	for _, list := range someTerms() {
		got, ok := impl.PlusContinuantOf(list)
		wantTrue(t, ok, "PlusContinuantOf ", list)
		want(t, got, plusContinuantOf(list), "PlusContinuantOf ", list)
	}
}

func TestContinuantsThatAreKnown(t *testing.T) {
	known := []struct {
		list        []int
		minus, plus int
	}{
		{nil, 1, 1},
		{[]int{}, 1, 1},
		{[]int{0}, 0, 0},
		{[]int{-7}, -7, -7},
		{[]int{30}, 30, 30},
		{[]int{2, 3}, 5, 7},
		{[]int{0, 0}, -1, 1},
		{[]int{2, 3, 4}, 18, 30},
		{[]int{-2, 3, -4}, 30, 18},
		{[]int{1, 1, 1}, -1, 3},
		{slices.Repeat([]int{2}, 10), 11, 5741},
		{slices.Repeat([]int{1}, 10), -1, 89},
		{slices.Repeat([]int{0}, 10), -1, 1},
		{slices.Repeat([]int{3}, 10), 17711, 141481},
		{slices.Repeat([]int{30}, 10), 584605483663499, 596415340363501},
		{slices.Repeat([]int{-30}, 10), 584605483663499, 596415340363501},
		{slices.Repeat([]int{30, -30}, 5), -596415340363501, -584605483663499},
	}
	for _, k := range known {
		minus, ok := impl.ContinuantOf(k.list)
		wantTrue(t, ok, "ContinuantOf ", k.list)
		want(t, minus, k.minus, "ContinuantOf ", k.list)
		plus, ok := impl.PlusContinuantOf(k.list)
		wantTrue(t, ok, "PlusContinuantOf ", k.list)
		want(t, plus, k.plus, "PlusContinuantOf ", k.list)
	}
}

// TestContinuantsAreAsTold holds each continuant against those of all but the last term and all but the last two.
func TestContinuantsAreAsTold(t *testing.T) {
	for _, list := range someTerms() {
		last := len(list) - 1
		if last < 1 {
			continue
		}
		minus, _ := impl.ContinuantOf(list)
		one, _ := impl.ContinuantOf(list[:last])
		two, _ := impl.ContinuantOf(list[:last-1])
		want(t, minus, one*list[last]-two, "ContinuantOf ", list)
		plus, _ := impl.PlusContinuantOf(list)
		one, _ = impl.PlusContinuantOf(list[:last])
		two, _ = impl.PlusContinuantOf(list[:last-1])
		want(t, plus, one*list[last]+two, "PlusContinuantOf ", list)
	}
}

func TestTermsOf(t *testing.T) {
	for _, list := range someTerms() {
		got, ok := impl.TermsOf(list)
		wantTrue(t, ok, "TermsOf ", list)
		want(t, got, partsOf(list), "TermsOf ", list)
		whole, _ := impl.ContinuantOf(list)
		want(t, sum(got), whole, "sum of TermsOf ", list)
		count, _ := impl.CountTerms(len(list))
		want(t, len(got), count, "number of TermsOf ", list)
	}
}

func TestTermsOfThatAreKnown(t *testing.T) {
	known := []struct{ list, parts []int }{
		{nil, []int{1}},
		{[]int{}, []int{1}},
		{[]int{0}, []int{0}},
		{[]int{-5}, []int{-5}},
		{[]int{2, 3}, []int{6, -1}},
		{[]int{2, 3, 4}, []int{24, -4, -2}},
		{[]int{2, 3, 5, 7}, []int{210, -35, 1, -14, -6}},
		{[]int{0, 3, 5, 0}, []int{0, 0, 1, 0, 0}},
		{[]int{2, 3, 5, 7, 11}, []int{2310, -385, 11, 5, -154, 2, -66, -30}},
	}
	for _, k := range known {
		got, ok := impl.TermsOf(k.list)
		wantTrue(t, ok, "TermsOf ", k.list)
		want(t, got, k.parts, "TermsOf ", k.list)
	}
}

func TestCountTerms(t *testing.T) {
	for n, expected := range []int{1, 1, 2, 3, 5, 8, 13, 21, 34, 55, 89} {
		got, ok := impl.CountTerms(n)
		wantTrue(t, ok, "CountTerms ", n)
		want(t, got, expected, "CountTerms ", n)
	}
	for _, n := range []int{math.MinInt, -1000, -2, -1, 11, 12, 90, math.MaxInt} {
		got, ok := impl.CountTerms(n)
		wantFailedNumber(t, got, ok, "CountTerms ", n)
	}
}

// wantFraction tells a fraction, or that there is none, for a function that returns one of a list.
func wantFraction(t *testing.T, fraction func([]int) (int, int, bool), list []int, expected *big.Rat, what string) {
	t.Helper()
	num, den, ok := fraction(list)
	if expected == nil {
		wantFailedNumber(t, num, ok, what, " ", list)
		wantFailedNumber(t, den, ok, what, " ", list)
		return
	}
	wantTrue(t, ok, what, " ", list)
	want(t, big.NewInt(int64(num)), expected.Num(), "numerator of ", what, " ", list)
	want(t, big.NewInt(int64(den)), expected.Denom(), "denominator of ", what, " ", list)
}

func TestFractionOfMinus(t *testing.T) {
	for _, list := range someTerms() {
		if len(list) == 0 {
			continue
		}
		expected, exists := fractionOf(list, -1)
		if !exists {
			expected = nil
		}
		wantFraction(t, impl.FractionOfMinus, list, expected, "FractionOfMinus")
	}
}

func TestFractionOfMinusThatAreKnown(t *testing.T) {
	known := []struct {
		list     []int
		num, den int
	}{
		{[]int{0}, 0, 1},
		{[]int{-30}, -30, 1},
		{[]int{2, 3, 4}, 18, 11},
		{[]int{1, 1}, 0, 1},
		{[]int{2, -3}, 7, 3},
		{[]int{-2, 3}, -7, 3},
		{[]int{2, 0, 3}, 5, 1},
		{[]int{0, 0, 5}, 5, 1},
		{[]int{1, 1, 1, 2}, 2, 1},
		{slices.Repeat([]int{2}, 10), 11, 10},
		{slices.Repeat([]int{30}, 10), 584605483663499, 19508549760150},
		{slices.Repeat([]int{-30}, 10), -584605483663499, 19508549760150},
	}
	for _, k := range known {
		num, den, ok := impl.FractionOfMinus(k.list)
		wantTrue(t, ok, "FractionOfMinus ", k.list)
		want(t, []int{num, den}, []int{k.num, k.den}, "FractionOfMinus ", k.list)
	}
	for _, list := range [][]int{nil, {}, {2, 0}, {0, 0}, {5, 1, 1}, {1, 1, 1}, {2, 3, 0}, {3, 1, 2, 0}, {2, 3, 1, 1}, {2, 1, 2, 1}, {4, 2, 1, 2}, slices.Repeat([]int{1}, 10), make([]int, 10), make([]int, 9)} {
		wantFraction(t, impl.FractionOfMinus, list, nil, "FractionOfMinus")
	}
}

func TestFractionOfPlus(t *testing.T) {
	for _, list := range somePlusTerms() {
		expected, _ := fractionOf(list, 1)
		wantFraction(t, impl.FractionOfPlus, list, expected, "FractionOfPlus")
	}
	for _, list := range someTerms() {
		if len(list) == 0 || slices.Min(list) < 1 {
			wantFraction(t, impl.FractionOfPlus, list, nil, "FractionOfPlus")
		}
	}
	for _, bad := range []int{-30, -1, 0} {
		for n := 1; n <= 10; n++ {
			for at := range n {
				list := slices.Repeat([]int{2}, n)
				list[at] = bad
				wantFraction(t, impl.FractionOfPlus, list, nil, "FractionOfPlus")
			}
		}
	}
}

func TestFractionOfPlusThatAreKnown(t *testing.T) {
	known := []struct {
		list     []int
		num, den int
	}{
		{[]int{1}, 1, 1},
		{[]int{30}, 30, 1},
		{[]int{1, 1}, 2, 1},
		{[]int{2, 3}, 7, 3},
		{[]int{2, 3, 4}, 30, 13},
		{slices.Repeat([]int{1}, 10), 89, 55},
		{slices.Repeat([]int{30}, 10), 596415340363501, 19858470840150},
	}
	for _, k := range known {
		num, den, ok := impl.FractionOfPlus(k.list)
		wantTrue(t, ok, "FractionOfPlus ", k.list)
		want(t, []int{num, den}, []int{k.num, k.den}, "FractionOfPlus ", k.list)
	}
}

func TestMinusTermsOfAllLists(t *testing.T) {
	for _, list := range allLists(5, 1, 5) {
		if len(list) == 0 || slices.Contains(list[1:], 1) {
			continue
		}
		value, _ := fractionOf(list, -1)
		got, ok := impl.MinusTerms(int(value.Num().Int64()), int(value.Denom().Int64()))
		wantTrue(t, ok, "MinusTerms of the fraction of ", list)
		want(t, got, list, "MinusTerms of the fraction of ", list)
	}
}

func TestPlusTermsOfAllLists(t *testing.T) {
	for _, list := range allLists(5, 1, 5) {
		if len(list) == 0 || len(list) > 1 && list[len(list)-1] == 1 {
			continue
		}
		value, _ := fractionOf(list, 1)
		got, ok := impl.PlusTerms(int(value.Num().Int64()), int(value.Denom().Int64()))
		wantTrue(t, ok, "PlusTerms of the fraction of ", list)
		want(t, got, list, "PlusTerms of the fraction of ", list)
	}
}

// wantMinusTerms tells the terms of a fraction, or that there are none, by fractions that are divided.
func wantMinusTerms(t *testing.T, num int, den int) {
	t.Helper()
	got, ok := impl.MinusTerms(num, den)
	expected := minusList(big.NewRat(int64(num), int64(den)))
	if !areTerms(expected) {
		wantFailedList(t, got, ok, "MinusTerms ", num, den)
		return
	}
	wantTrue(t, ok, "MinusTerms ", num, den)
	want(t, got, expected, "MinusTerms ", num, den)
}

func wantPlusTerms(t *testing.T, num int, den int) {
	t.Helper()
	got, ok := impl.PlusTerms(num, den)
	expected := plusList(big.NewRat(int64(num), int64(den)))
	if !areTerms(expected) {
		wantFailedList(t, got, ok, "PlusTerms ", num, den)
		return
	}
	wantTrue(t, ok, "PlusTerms ", num, den)
	want(t, got, expected, "PlusTerms ", num, den)
}

func commonDivisor(a int, b int) int {
	for divisor := min(a, b); ; divisor-- {
		if a%divisor == 0 && b%divisor == 0 {
			return divisor
		}
	}
}

func wantNoMinusTerms(t *testing.T, num int, den int) {
	t.Helper()
	got, ok := impl.MinusTerms(num, den)
	wantFailedList(t, got, ok, "MinusTerms ", num, den)
}

func wantNoPlusTerms(t *testing.T, num int, den int) {
	t.Helper()
	got, ok := impl.PlusTerms(num, den)
	wantFailedList(t, got, ok, "PlusTerms ", num, den)
}

func TestTermsOfSmallFractions(t *testing.T) {
	for num := 1; num <= 70; num++ {
		for den := 1; den <= 70; den++ {
			if commonDivisor(num, den) > 1 {
				wantNoMinusTerms(t, num, den)
				wantNoPlusTerms(t, num, den)
				continue
			}
			wantMinusTerms(t, num, den)
			if num < den {
				wantNoPlusTerms(t, num, den)
				continue
			}
			wantPlusTerms(t, num, den)
		}
	}
}

func TestTermsOfFractionsThatAreKnown(t *testing.T) {
	known := []struct {
		num, den    int
		minus, plus []int
	}{
		{1, 1, []int{1}, []int{1}},
		{2, 1, []int{2}, []int{2}},
		{7, 3, []int{3, 2, 2}, []int{2, 3}},
		{1, 3, []int{1, 2, 2}, nil},
		{1, 10, append([]int{1}, slices.Repeat([]int{2}, 9)...), nil},
		{1, 11, nil, nil},
		{11, 10, slices.Repeat([]int{2}, 10), []int{1, 10}},
		{12, 11, nil, []int{1, 11}},
		{30, 1, []int{30}, []int{30}},
		{31, 1, nil, nil},
		{59, 2, []int{30, 2}, []int{29, 2}},
		{61, 2, nil, []int{30, 2}},
		{63, 2, nil, nil},
		{30, 29, nil, []int{1, 29}},
		{31, 30, nil, []int{1, 30}},
		{32, 31, nil, nil},
		{29, 30, []int{1, 30}, nil},
		{30, 31, nil, nil},
		{89, 55, []int{2, 3, 3, 3, 3}, []int{1, 1, 1, 1, 1, 1, 1, 1, 2}},
		{144, 89, []int{2, 3, 3, 3, 3, 2}, []int{1, 1, 1, 1, 1, 1, 1, 1, 1, 2}},
		{233, 144, []int{2, 3, 3, 3, 3, 3}, nil},
		{1000000, 1, nil, nil},
		{1, 1000000, nil, nil},
		{1000000, 999999, nil, nil},
		{999999, 1000000, nil, nil},
	}
	for _, k := range known {
		minus, ok := impl.MinusTerms(k.num, k.den)
		want(t, ok, k.minus != nil, "MinusTerms ", k.num, k.den)
		want(t, minus, k.minus, "MinusTerms ", k.num, k.den)
		plus, ok := impl.PlusTerms(k.num, k.den)
		want(t, ok, k.plus != nil, "PlusTerms ", k.num, k.den)
		want(t, plus, k.plus, "PlusTerms ", k.num, k.den)
	}
}

// TestTermsOfGreatFractions has fractions whose lists are terms, with a numerator or a denominator at its limit and beyond it.
func TestTermsOfGreatFractions(t *testing.T) {
	for _, den := range []int{33377, 33397, 835449, 840591} {
		want(t, areTerms(minusList(big.NewRat(1000000, int64(den)))), true, "minus terms of 1000000 and ", den)
		wantMinusTerms(t, 1000000, den)
	}
	for _, num := range []int{186431, 197651, 966601, 966623} {
		want(t, areTerms(minusList(big.NewRat(int64(num), 1000000))), true, "minus terms of ", num, " and 1000000")
		wantMinusTerms(t, num, 1000000)
	}
	for _, den := range []int{32291, 32297, 968689, 968697} {
		want(t, areTerms(plusList(big.NewRat(1000000, int64(den)))), true, "plus terms of 1000000 and ", den)
		wantPlusTerms(t, 1000000, den)
	}
	for _, den := range []int{33372, 33381, 836433, 836768} {
		want(t, areTerms(minusList(big.NewRat(1000001, int64(den)))), true, "minus terms of 1000001 and ", den)
		wantNoMinusTerms(t, 1000001, den)
	}
	for _, num := range []int{195096, 197114, 966613, 966629} {
		want(t, areTerms(minusList(big.NewRat(int64(num), 1000001))), true, "minus terms of ", num, " and 1000001")
		wantNoMinusTerms(t, num, 1000001)
	}
	for _, den := range []int{32291, 32293, 968712, 968716} {
		want(t, areTerms(plusList(big.NewRat(1000001, int64(den)))), true, "plus terms of 1000001 and ", den)
		wantNoPlusTerms(t, 1000001, den)
	}
	for num := 999000; num <= 1000000; num += 7 {
		for den := 33300; den <= 1000000; den += 31013 {
			if new(big.Int).GCD(nil, nil, big.NewInt(int64(num)), big.NewInt(int64(den))).Int64() == 1 {
				wantMinusTerms(t, num, den)
				wantPlusTerms(t, max(num, den), min(num, den))
			}
		}
	}
}

func TestTermsOfNoFractions(t *testing.T) {
	bad := []int{math.MinInt, math.MinInt + 1, -1000000, -7, -2, -1, 0, 1000001, 30000000, math.MaxInt32, math.MaxInt - 1, math.MaxInt}
	for _, number := range bad {
		for _, other := range append([]int{1, 2, 3, 7, 1000000}, bad...) {
			wantNoMinusTerms(t, number, other)
			wantNoMinusTerms(t, other, number)
			wantNoPlusTerms(t, number, other)
			wantNoPlusTerms(t, other, number)
		}
	}
	for _, both := range []int{2, 3, 11, 1000, 333333, 500000, 1000000} {
		wantNoMinusTerms(t, both, both)
		wantNoPlusTerms(t, both, both)
	}
	wantNoMinusTerms(t, 14, 6)
	wantNoPlusTerms(t, 14, 6)
	wantNoMinusTerms(t, 1000000, 500000)
	wantNoPlusTerms(t, 1000000, 500000)
	wantNoMinusTerms(t, 500000, 1000000)
	wantNoPlusTerms(t, 999999, 1000000)
}

func TestMinusOfPlus(t *testing.T) {
	for _, list := range somePlusTerms() {
		value, _ := fractionOf(list, 1)
		expected := minusList(value)
		got, ok := impl.MinusOfPlus(list)
		if !areTerms(expected) {
			wantFailedList(t, got, ok, "MinusOfPlus ", list)
			continue
		}
		wantTrue(t, ok, "MinusOfPlus ", list)
		want(t, got, expected, "MinusOfPlus ", list)
	}
	for _, list := range someTerms() {
		if len(list) == 0 || slices.Min(list) < 1 {
			got, ok := impl.MinusOfPlus(list)
			wantFailedList(t, got, ok, "MinusOfPlus ", list)
		}
	}
}

func TestMinusOfPlusThatAreKnown(t *testing.T) {
	known := []struct{ list, terms []int }{
		{[]int{1}, []int{1}},
		{[]int{30}, []int{30}},
		{[]int{1, 1}, []int{2}},
		{[]int{2, 3}, []int{3, 2, 2}},
		{[]int{29, 1}, []int{30}},
		{[]int{30, 1}, nil},
		{[]int{29, 2}, []int{30, 2}},
		{[]int{30, 2}, nil},
		{[]int{1, 10}, slices.Repeat([]int{2}, 10)},
		{[]int{1, 11}, nil},
		{[]int{1, 1, 28}, []int{2, 29}},
		{[]int{1, 1, 29}, []int{2, 30}},
		{[]int{1, 1, 30}, nil},
		{[]int{1, 2, 29}, []int{2, 2, 30}},
		{[]int{1, 2, 30}, nil},
		{[]int{29, 2, 28, 2, 28, 2, 28, 2, 28, 2}, slices.Repeat([]int{30, 2}, 5)},
		{[]int{29, 1, 28, 1, 28, 1, 28, 1, 28, 1}, slices.Repeat([]int{30}, 5)},
		{[]int{29, 1, 28, 1, 28, 1, 28, 1, 29, 1}, nil},
		{slices.Repeat([]int{1}, 10), []int{2, 3, 3, 3, 3}},
		{slices.Repeat([]int{1, 2}, 5), []int{2, 2, 3, 2, 3, 2, 3, 2, 3, 2}},
		{[]int{1, 2, 1, 2, 1, 2, 1, 2, 1, 3}, nil},
		{slices.Repeat([]int{30}, 10), nil},
	}
	for _, k := range known {
		got, ok := impl.MinusOfPlus(k.list)
		want(t, ok, k.terms != nil, "MinusOfPlus ", k.list)
		want(t, got, k.terms, "MinusOfPlus ", k.list)
	}
}

func TestPutOne(t *testing.T) {
	for _, list := range someTerms() {
		for _, at := range widePlaces(list) {
			got, ok := impl.PutOne(list, at)
			longer := withOne(list, at)
			if at < 1 || at >= len(list) || !areTerms(longer) {
				wantFailedList(t, got, ok, "PutOne ", list, at)
				continue
			}
			wantTrue(t, ok, "PutOne ", list, at)
			want(t, got, longer, "PutOne ", list, at)
			want(t, continuantOf(got), continuantOf(list), "continuant of PutOne ", list, at)
			back, ok := impl.TakeOne(got, at)
			wantTrue(t, ok, "TakeOne behind PutOne ", list, at)
			want(t, back, list, "TakeOne behind PutOne ", list, at)
		}
	}
}

func TestPutOneThatAreKnown(t *testing.T) {
	known := []struct {
		list   []int
		at     int
		longer []int
	}{
		{[]int{2, 3, 4}, 1, []int{3, 1, 4, 4}},
		{[]int{2, 3, 4}, 2, []int{2, 4, 1, 5}},
		{[]int{2, 3, 4}, 0, nil},
		{[]int{2, 3, 4}, 3, nil},
		{[]int{0, -1}, 1, []int{1, 1, 0}},
		{[]int{29, 29}, 1, []int{30, 1, 30}},
		{[]int{30, 29}, 1, nil},
		{[]int{29, 30}, 1, nil},
		{[]int{30, 2, 3}, 2, []int{30, 3, 1, 4}},
		{[]int{-30, -30}, 1, []int{-29, 1, -29}},
		{slices.Repeat([]int{1}, 9), 8, []int{1, 1, 1, 1, 1, 1, 1, 2, 1, 2}},
		{slices.Repeat([]int{1}, 10), 5, nil},
		{nil, 0, nil},
		{nil, 1, nil},
		{[]int{5}, 0, nil},
		{[]int{5}, 1, nil},
	}
	for _, k := range known {
		got, ok := impl.PutOne(k.list, k.at)
		want(t, ok, k.longer != nil, "PutOne ", k.list, k.at)
		want(t, got, k.longer, "PutOne ", k.list, k.at)
	}
}

func TestTakeOne(t *testing.T) {
	for _, list := range someTerms() {
		for _, at := range widePlaces(list) {
			got, ok := impl.TakeOne(list, at)
			if at < 1 || at >= len(list)-1 || list[at] != 1 || !areTerms(withoutOne(list, at)) {
				wantFailedList(t, got, ok, "TakeOne ", list, at)
				continue
			}
			wantTrue(t, ok, "TakeOne ", list, at)
			want(t, got, withoutOne(list, at), "TakeOne ", list, at)
			want(t, continuantOf(got), continuantOf(list), "continuant of TakeOne ", list, at)
		}
	}
}

func TestTakeOneThatAreKnown(t *testing.T) {
	known := []struct {
		list    []int
		at      int
		shorter []int
	}{
		{[]int{3, 1, 4, 4}, 1, []int{2, 3, 4}},
		{[]int{3, 1, 4, 4}, 2, nil},
		{[]int{1, 2, 1}, 0, nil},
		{[]int{1, 2, 1}, 1, nil},
		{[]int{1, 2, 1}, 2, nil},
		{[]int{1, 1, 1}, 1, []int{0, 0}},
		{[]int{5, 0, 5}, 1, nil},
		{[]int{5, -1, 5}, 1, nil},
		{[]int{-29, 1, -29}, 1, []int{-30, -30}},
		{[]int{-30, 1, 5}, 1, nil},
		{[]int{5, 1, -30}, 1, nil},
		{[]int{30, 1, 30}, 1, []int{29, 29}},
		{slices.Repeat([]int{1}, 10), 8, []int{1, 1, 1, 1, 1, 1, 1, 0, 0}},
		{[]int{1, 1}, 0, nil},
		{[]int{1, 1}, 1, nil},
		{[]int{1}, 0, nil},
		{nil, 0, nil},
	}
	for _, k := range known {
		got, ok := impl.TakeOne(k.list, k.at)
		want(t, ok, k.shorter != nil, "TakeOne ", k.list, k.at)
		want(t, got, k.shorter, "TakeOne ", k.list, k.at)
	}
}

func TestReduceOnes(t *testing.T) {
	for _, list := range slices.Concat(someTerms(), somePlusTerms()) {
		expected, exists := reduced(list)
		got, ok := impl.ReduceOnes(list)
		if !exists {
			wantFailedList(t, got, ok, "ReduceOnes ", list)
			continue
		}
		wantTrue(t, ok, "ReduceOnes ", list)
		want(t, got, expected, "ReduceOnes ", list)
		want(t, continuantOf(got), continuantOf(list), "continuant of ReduceOnes ", list)
	}
}

func TestReduceOnesThatAreKnown(t *testing.T) {
	known := []struct {
		list, rest []int
		ok         bool
	}{
		{nil, nil, true},
		{[]int{1}, []int{1}, true},
		{[]int{1, 1}, []int{1, 1}, true},
		{[]int{2, 3, 4}, []int{2, 3, 4}, true},
		{[]int{1, 3, 1}, []int{1, 3, 1}, true},
		{[]int{1, 1, 1}, []int{0, 0}, true},
		{[]int{1, 1, 1, 1}, []int{0, 0, 1}, true},
		{[]int{3, 1, 2, 2}, []int{1, 1}, true},
		{[]int{3, 1, 4, 4}, []int{2, 3, 4}, true},
		{[]int{5, 1, 3, 1, 5}, []int{3, 3}, true},
		{[]int{3, 1, 2, 1, -30}, []int{1, 0, -30}, true},
		{[]int{-30, 1, 5}, nil, false},
		{[]int{5, 1, -30}, nil, false},
		{[]int{-29, 1, 5}, []int{-30, 4}, true},
		{[]int{-29, 1, 2, 5}, nil, false},
		{[]int{-28, 1, 2, 5}, []int{-30, 4}, true},
		{[]int{2, 5, 1, -30}, nil, false},
		{slices.Repeat([]int{1}, 10), []int{0, -1, -1, -1, 0, 1}, true},
		{slices.Repeat([]int{2, 1}, 5), []int{0, -1, -2, 0}, true},
	}
	for _, k := range known {
		got, ok := impl.ReduceOnes(k.list)
		want(t, ok, k.ok, "ReduceOnes ", k.list)
		want(t, got, k.rest, "ReduceOnes ", k.list)
	}
}

func TestSplitContinuant(t *testing.T) {
	for _, list := range someTerms() {
		for _, at := range widePlaces(list) {
			got, ok := impl.SplitContinuant(list, at)
			if at < 1 || at >= len(list) {
				wantFailedList(t, got, ok, "SplitContinuant ", list, at)
				continue
			}
			wantTrue(t, ok, "SplitContinuant ", list, at)
			expected := []int{continuantOf(list[:at]), continuantOf(list[at:]), continuantOf(list[:at-1]), continuantOf(list[at+1:])}
			want(t, got, expected, "SplitContinuant ", list, at)
			whole, _ := impl.ContinuantOf(list)
			want(t, got[0]*got[1]-got[2]*got[3], whole, "SplitContinuant together ", list, at)
		}
	}
}

func TestSplitContinuantThatAreKnown(t *testing.T) {
	known := []struct {
		list  []int
		at    int
		split []int
	}{
		{[]int{2, 3, 4}, 1, []int{2, 11, 1, 4}},
		{[]int{2, 3, 4}, 2, []int{5, 4, 2, 1}},
		{[]int{5, 7}, 1, []int{5, 7, 1, 1}},
		{[]int{2, 3, 5, 7}, 2, []int{5, 34, 2, 7}},
		{[]int{5}, 0, nil},
		{[]int{5}, 1, nil},
		{nil, 0, nil},
		{nil, 1, nil},
	}
	for _, k := range known {
		got, ok := impl.SplitContinuant(k.list, k.at)
		want(t, ok, k.split != nil, "SplitContinuant ", k.list, k.at)
		want(t, got, k.split, "SplitContinuant ", k.list, k.at)
	}
}

func TestContinuantTable(t *testing.T) {
	for _, list := range someTerms() {
		var expected [][]int
		for from := range list {
			var row []int
			for to := from + 1; to <= len(list); to++ {
				row = append(row, continuantOf(list[from:to]))
			}
			expected = append(expected, row)
		}
		got, ok := impl.ContinuantTable(list)
		wantTrue(t, ok, "ContinuantTable ", list)
		want(t, got, expected, "ContinuantTable ", list)
	}
	none, ok := impl.ContinuantTable(nil)
	wantTrue(t, ok, "ContinuantTable of no terms")
	want(t, len(none), 0, "ContinuantTable of no terms")
	three, ok := impl.ContinuantTable([]int{2, 3, 4})
	wantTrue(t, ok, "ContinuantTable of three terms")
	want(t, three, [][]int{{2, 5, 18}, {3, 11}, {4}}, "ContinuantTable of three terms")
}

func TestChapter3OfNoTerms(t *testing.T) {
	for _, list := range noTerms() {
		minus, ok := impl.ContinuantOf(list)
		wantFailedNumber(t, minus, ok, "ContinuantOf ", list)
		plus, ok := impl.PlusContinuantOf(list)
		wantFailedNumber(t, plus, ok, "PlusContinuantOf ", list)
		parts, ok := impl.TermsOf(list)
		wantFailedList(t, parts, ok, "TermsOf ", list)
		wantFraction(t, impl.FractionOfMinus, list, nil, "FractionOfMinus")
		wantFraction(t, impl.FractionOfPlus, list, nil, "FractionOfPlus")
		terms, ok := impl.MinusOfPlus(list)
		wantFailedList(t, terms, ok, "MinusOfPlus ", list)
		rest, ok := impl.ReduceOnes(list)
		wantFailedList(t, rest, ok, "ReduceOnes ", list)
		table, ok := impl.ContinuantTable(list)
		wantFailedList(t, table, ok, "ContinuantTable ", list)
		for at := -1; at <= len(list)+1; at++ {
			longer, ok := impl.PutOne(list, at)
			wantFailedList(t, longer, ok, "PutOne ", list, at)
			shorter, ok := impl.TakeOne(list, at)
			wantFailedList(t, shorter, ok, "TakeOne ", list, at)
			split, ok := impl.SplitContinuant(list, at)
			wantFailedList(t, split, ok, "SplitContinuant ", list, at)
		}
	}
	// Taking a 1 out would make terms of these, and putting one in, too.
	for _, list := range [][]int{slices.Repeat([]int{1}, 11), {31, 1, 5}, {5, 1, 31}, {31, 1, 31}, {-31, 5}, {5, -31}, {-31, -31}} {
		shorter, ok := impl.TakeOne(list, 1)
		wantFailedList(t, shorter, ok, "TakeOne ", list)
		rest, ok := impl.ReduceOnes(list)
		wantFailedList(t, rest, ok, "ReduceOnes ", list)
		longer, ok := impl.PutOne(list, 1)
		wantFailedList(t, longer, ok, "PutOne ", list)
	}
}

func TestEntryByContinuant(t *testing.T) {
	for _, p := range somePolygons() {
		quiddity := quiddityOf(p.n, p.ds)
		entries := entriesOf(p)
		reach := min(p.n, 11)
		for _, i := range someIndices(p.n) {
			for j := i + 1; j <= i+reach; j++ {
				got, ok := impl.EntryByContinuant(quiddity, i, j)
				wantTrue(t, ok, "EntryByContinuant ", quiddity, i, j)
				want(t, got, entries[around(p.n, i)][around(p.n, j)], "EntryByContinuant ", quiddity, i, j)
				entry, _ := impl.EntryOf(quiddity, i, j)
				want(t, got, entry, "EntryByContinuant as EntryOf ", quiddity, i, j)
			}
			for _, j := range []int{math.MinInt, i - p.n, i - 1, i, i + reach + 1, i + p.n + 1, i + 12, i + 2*p.n, math.MaxInt} {
				got, ok := impl.EntryByContinuant(quiddity, i, j)
				wantFailedNumber(t, got, ok, "EntryByContinuant ", quiddity, i, j)
			}
		}
		for _, i := range badIndices() {
			for _, j := range []int{i, i + 1, i + 2, i + p.n, 0, 1000} {
				got, ok := impl.EntryByContinuant(quiddity, i, j)
				wantFailedNumber(t, got, ok, "EntryByContinuant ", quiddity, i, j)
			}
		}
	}
	for _, list := range badQuiddities() {
		got, ok := impl.EntryByContinuant(list, 0, 1)
		wantFailedNumber(t, got, ok, "EntryByContinuant ", list)
	}
}

func TestEntryByContinuantThatAreKnown(t *testing.T) {
	known := []struct{ i, j, entry int }{
		{0, 1, 1}, {0, 2, 3}, {0, 3, 2}, {0, 4, 1}, {0, 5, 0},
		{-1, 1, 1}, {-3, 0, 3}, {1, 4, 1}, {2, 5, 3}, {1000, 1002, 3}, {1000, 1005, 0}, {-1000, -997, 2}, {-1000, -999, 1},
	}
	for _, k := range known {
		got, ok := impl.EntryByContinuant([]int{1, 3, 1, 2, 2}, k.i, k.j)
		wantTrue(t, ok, "EntryByContinuant ", k.i, k.j)
		want(t, got, k.entry, "EntryByContinuant ", k.i, k.j)
	}
	for j := 2; j <= 10; j++ {
		got, ok := impl.EntryByContinuant(fanNumbers(12), 1, 1+j)
		wantTrue(t, ok, "EntryByContinuant of 12 numbers ", 1, 1+j)
		want(t, got, j, "EntryByContinuant of 12 numbers ", 1, 1+j)
	}
	last, ok := impl.EntryByContinuant(fanNumbers(12), 1, 12)
	wantTrue(t, ok, "EntryByContinuant of 12 numbers ", 1, 12)
	want(t, last, 1, "EntryByContinuant of 12 numbers ", 1, 12)
	beyond, ok := impl.EntryByContinuant(fanNumbers(12), 1, 13)
	wantFailedNumber(t, beyond, ok, "EntryByContinuant of 12 numbers ", 1, 13)
	eleven, ok := impl.EntryByContinuant(fanNumbers(11), 1, 12)
	wantTrue(t, ok, "EntryByContinuant of 11 numbers ", 1, 12)
	want(t, eleven, 0, "EntryByContinuant of 11 numbers ", 1, 12)
}

func TestExamplesOfChapter3(t *testing.T) {
	list := []int{2, 3, 4}
	whole, _ := impl.ContinuantOf(list)
	want(t, whole, 18, "ContinuantOf 2, 3, 4")
	parts, _ := impl.TermsOf(list)
	want(t, parts, []int{24, -4, -2}, "TermsOf 2, 3, 4")
	num, den, _ := impl.FractionOfMinus(list)
	want(t, []int{num, den}, []int{18, 11}, "FractionOfMinus 2, 3, 4")
	longer, _ := impl.PutOne(list, 1)
	want(t, longer, []int{3, 1, 4, 4}, "PutOne at 1 of 2, 3, 4")
	again, _ := impl.ContinuantOf(longer)
	want(t, again, 18, "ContinuantOf 3, 1, 4, 4")
	plus, _ := impl.PlusTerms(7, 3)
	want(t, plus, []int{2, 3}, "PlusTerms of 7 and 3")
	minus, _ := impl.MinusTerms(7, 3)
	want(t, minus, []int{3, 2, 2}, "MinusTerms of 7 and 3")
}
