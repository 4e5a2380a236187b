package tests

import (
	"fmt"
	"math"
	"math/big"
	"slices"
	"strings"
	"testing"

	"loop.example/g01236/impl"
)

func TestLimitOfChapter4(t *testing.T) {
	want(t, impl.MaxEntry, 1000000000, "MaxEntry")
}

func TestIsMatrix(t *testing.T) {
	for a := -4; a <= 4; a++ {
		for b := -4; b <= 4; b++ {
			for c := -4; c <= 4; c++ {
				for d := -4; d <= 4; d++ {
					m := matrix(a, b, c, d)
					want(t, impl.IsMatrix(m), isWithin(wideOf(m)), "IsMatrix ", m)
				}
			}
		}
	}
	for _, m := range someMatrices() {
		want(t, impl.IsMatrix(m), true, "IsMatrix ", m)
	}
	for _, m := range noMatrices() {
		want(t, impl.IsMatrix(m), false, "IsMatrix ", m)
	}
}

func TestIsMatrixAtItsLimits(t *testing.T) {
	for _, number := range []int{-1000000001, -1000000000, -999999999, 999999999, 1000000000, 1000000001} {
		isNot := number < -1000000000 || number > 1000000000
		for _, m := range []impl.Matrix{matrix(number, 1, -1, 0), matrix(1, number, 0, 1), matrix(1, 0, number, 1), matrix(0, -1, 1, number)} {
			want(t, impl.IsMatrix(m), !isNot, "IsMatrix ", m)
		}
	}
}

func TestTimesMatrix(t *testing.T) {
	for _, m := range someMatrices() {
		for _, k := range someMatrices() {
			got, ok := impl.TimesMatrix(m, k)
			wantWide(t, got, ok, timesWide(wideOf(m), wideOf(k)), "TimesMatrix ", m, k)
		}
	}
}

func TestTimesMatrixThatAreKnown(t *testing.T) {
	known := []struct {
		m, k, whole impl.Matrix
	}{
		{matrix(2, -1, 1, 0), matrix(3, -1, 1, 0), matrix(5, -2, 3, -1)},
		{matrix(3, -1, 1, 0), matrix(2, -1, 1, 0), matrix(5, -3, 2, -1)},
		{matrix(1, 0, 1, 1), matrix(1, 1, 0, 1), matrix(1, 1, 1, 2)},
		{matrix(1, 1, 0, 1), matrix(1, 0, 1, 1), matrix(2, 1, 1, 1)},
		{matrix(1, 500000000, 0, 1), matrix(1, 500000000, 0, 1), matrix(1, 1000000000, 0, 1)},
		{matrix(1, 500000000, 0, 1), matrix(1, 500000001, 0, 1), impl.Matrix{}},
		{matrix(1, -500000000, 0, 1), matrix(1, -500000000, 0, 1), matrix(1, -1000000000, 0, 1)},
		{matrix(1, -500000000, 0, 1), matrix(1, -500000001, 0, 1), impl.Matrix{}},
		{matrix(1, 1000000000, 0, 1), matrix(1, -1000000000, 0, 1), matrix(1, 0, 0, 1)},
		{matrix(1, 0, 500000000, 1), matrix(1, 0, 500000000, 1), matrix(1, 0, 1000000000, 1)},
		{matrix(1, 0, 500000000, 1), matrix(1, 0, 500000001, 1), impl.Matrix{}},
		{matrix(1, 1000000000, 0, 1), matrix(1, 0, 1000000000, 1), impl.Matrix{}},
		{matrix(1, 999999999, 0, 1), matrix(1, 0, 1, 1), matrix(1000000000, 999999999, 1, 1)},
		{matrix(1, 1000000000, 0, 1), matrix(1, 0, 1, 1), impl.Matrix{}},
		{matrix(1, 0, 1, 1), matrix(1, 999999999, 0, 1), matrix(1, 999999999, 1, 1000000000)},
		{matrix(1, 0, 1, 1), matrix(1, 1000000000, 0, 1), impl.Matrix{}},
		{matrix(999999999, 1000000000, 999999998, 999999999), matrix(999999999, -1000000000, -999999998, 999999999), matrix(1, 0, 0, 1)},
		{matrix(999999999, 1000000000, 999999998, 999999999), matrix(999999999, 1000000000, 999999998, 999999999), impl.Matrix{}},
	}
	for _, k := range known {
		got, ok := impl.TimesMatrix(k.m, k.k)
		want(t, ok, k.whole != impl.Matrix{}, "TimesMatrix ", k.m, k.k)
		want(t, got, k.whole, "TimesMatrix ", k.m, k.k)
	}
}

func TestInverseMatrix(t *testing.T) {
	for _, m := range someMatrices() {
		got, ok := impl.InverseMatrix(m)
		wantTrue(t, ok, "InverseMatrix ", m)
		want(t, timesWide(wideOf(m), wideOf(got)), unitWide(), "matrix times InverseMatrix ", m)
		want(t, timesWide(wideOf(got), wideOf(m)), unitWide(), "InverseMatrix times matrix ", m)
	}
	got, ok := impl.InverseMatrix(matrix(5, -2, 3, -1))
	wantTrue(t, ok, "InverseMatrix")
	want(t, got, matrix(-1, 2, -3, 5), "InverseMatrix")
}

func TestNegateMatrix(t *testing.T) {
	for _, m := range someMatrices() {
		got, ok := impl.NegateMatrix(m)
		wantTrue(t, ok, "NegateMatrix ", m)
		want(t, got, matrix(-m.A, -m.B, -m.C, -m.D), "NegateMatrix ", m)
	}
}

func TestPowerMatrix(t *testing.T) {
	for _, m := range append(someMatrices(), smallMatrices(3)...) {
		for k := -20; k <= 20; k++ {
			got, ok := impl.PowerMatrix(m, k)
			wantWide(t, got, ok, powerWide(wideOf(m), k), "PowerMatrix ", m, k)
		}
		for _, k := range []int{math.MinInt, math.MinInt + 1, -1000, -22, -21, 21, 22, 1000, math.MaxInt - 1, math.MaxInt} {
			got, ok := impl.PowerMatrix(m, k)
			wantFailedMatrix(t, got, ok, "PowerMatrix ", m, k)
		}
	}
}

func TestPowerMatrixThatAreKnown(t *testing.T) {
	known := []struct {
		m     impl.Matrix
		k     int
		power impl.Matrix
	}{
		{matrix(5, -2, 3, -1), 0, matrix(1, 0, 0, 1)},
		{matrix(5, -2, 3, -1), 1, matrix(5, -2, 3, -1)},
		{matrix(5, -2, 3, -1), -1, matrix(-1, 2, -3, 5)},
		{matrix(5, -2, 3, -1), 2, matrix(19, -8, 12, -5)},
		{matrix(1, 1, 1, 2), 20, matrix(63245986, 102334155, 102334155, 165580141)},
		{matrix(1, 1, 1, 2), -20, matrix(165580141, -102334155, -102334155, 63245986)},
		{matrix(1, 50000000, 0, 1), 20, matrix(1, 1000000000, 0, 1)},
		{matrix(1, 50000000, 0, 1), -20, matrix(1, -1000000000, 0, 1)},
		{matrix(1, 50000001, 0, 1), 19, matrix(1, 950000019, 0, 1)},
		{matrix(1, 50000001, 0, 1), 20, impl.Matrix{}},
		{matrix(1, 50000001, 0, 1), -19, matrix(1, -950000019, 0, 1)},
		{matrix(1, 50000001, 0, 1), -20, impl.Matrix{}},
		{matrix(-1, 0, 50000000, -1), 20, matrix(1, 0, -1000000000, 1)},
		{matrix(999999999, 1000000000, 999999998, 999999999), 0, matrix(1, 0, 0, 1)},
		{matrix(999999999, 1000000000, 999999998, 999999999), 1, matrix(999999999, 1000000000, 999999998, 999999999)},
		{matrix(999999999, 1000000000, 999999998, 999999999), -1, matrix(999999999, -1000000000, -999999998, 999999999)},
		{matrix(999999999, 1000000000, 999999998, 999999999), 2, impl.Matrix{}},
		{matrix(999999999, 1000000000, 999999998, 999999999), 20, impl.Matrix{}},
		{matrix(31622, 1, -999950885, -31622), 20, matrix(1, 0, 0, 1)},
		{matrix(31622, 1, -999950885, -31622), 18, matrix(-1, 0, 0, -1)},
		{matrix(31623, 1, -999982507, -31622), 19, matrix(31623, 1, -999982507, -31622)},
		{matrix(31623, 1, -999982507, -31622), -19, matrix(-31622, -1, 999982507, 31623)},
		{matrix(31623, 1, -999982507, -31622), 21, impl.Matrix{}},
		{matrix(1, 0, 0, 1), 20, matrix(1, 0, 0, 1)},
		{matrix(1, 0, 0, 1), 21, impl.Matrix{}},
		{matrix(1, 0, 0, 1), -21, impl.Matrix{}},
	}
	for _, k := range known {
		got, ok := impl.PowerMatrix(k.m, k.k)
		want(t, ok, k.power != impl.Matrix{}, "PowerMatrix ", k.m, k.k)
		want(t, got, k.power, "PowerMatrix ", k.m, k.k)
	}
}

func TestTraceOf(t *testing.T) {
	for _, m := range someMatrices() {
		got, ok := impl.TraceOf(m)
		wantTrue(t, ok, "TraceOf ", m)
		want(t, got, m.A+m.D, "TraceOf ", m)
	}
	// A trace may be greater than MaxEntry, as it is a single number.
	for _, m := range []impl.Matrix{matrix(999999999, 1000000000, 999999998, 999999999), matrix(-999999999, 1000000000, 999999998, -999999999)} {
		got, ok := impl.TraceOf(m)
		wantTrue(t, ok, "TraceOf ", m)
		want(t, max(got, -got), 1999999998, "TraceOf ", m)
	}
}

// orderOf tries all powers that could be the first one that is 1, 0 / 0, 1, and more.
func orderOf(m impl.Matrix) int {
	power := unitWide()
	for k := 1; k <= 30; k++ {
		power = timesWide(power, wideOf(m))
		if sameWide(power, unitWide()) {
			return k
		}
	}
	return 0
}

func TestOrderOf(t *testing.T) {
	found := map[int]bool{}
	for _, m := range append(someMatrices(), smallMatrices(4)...) {
		expected := orderOf(m)
		found[expected] = true
		got, ok := impl.OrderOf(m)
		want(t, got, expected, "OrderOf ", m)
		want(t, ok, expected != 0, "OrderOf ", m)
	}
	want(t, found, map[int]bool{0: true, 1: true, 2: true, 3: true, 4: true, 6: true}, "orders")
}

func TestOrderOfThatAreKnown(t *testing.T) {
	known := []struct {
		m     impl.Matrix
		order int
	}{
		{matrix(1, 0, 0, 1), 1},
		{matrix(-1, 0, 0, -1), 2},
		{matrix(0, -1, 1, -1), 3},
		{matrix(-1, 1, -1, 0), 3},
		{matrix(0, -1, 1, 0), 4},
		{matrix(0, 1, -1, 0), 4},
		{matrix(1, -1, 1, 0), 6},
		{matrix(31622, 1, -999982507, -31623), 3},
		{matrix(31622, 1, -999950885, -31622), 4},
		{matrix(31623, 1, -999982507, -31622), 6},
		{matrix(1, 1, 0, 1), 0},
		{matrix(-1, 1, 0, -1), 0},
		{matrix(2, 1, 1, 1), 0},
		{matrix(1, 1000000000, 0, 1), 0},
		{matrix(999999999, 1000000000, 999999998, 999999999), 0},
	}
	for _, k := range known {
		got, ok := impl.OrderOf(k.m)
		want(t, got, k.order, "OrderOf ", k.m)
		want(t, ok, k.order != 0, "OrderOf ", k.m)
	}
}

func TestMatrixOfList(t *testing.T) {
	for _, list := range someTerms() {
		got, ok := impl.MatrixOfList(list)
		wantWide(t, got, ok, listWide(list), "MatrixOfList ", list)
	}
}

func TestMatrixOfListHasContinuants(t *testing.T) {
	for _, list := range someTerms() {
		got, ok := impl.MatrixOfList(list)
		n := len(list)
		if !ok || n == 0 {
			continue
		}
		want(t, got.A, continuantOf(list), "A of MatrixOfList ", list)
		want(t, got.B, -continuantOf(list[:n-1]), "B of MatrixOfList ", list)
		want(t, got.C, continuantOf(list[1:]), "C of MatrixOfList ", list)
		if n == 1 {
			want(t, got.D, 0, "D of MatrixOfList ", list)
			continue
		}
		want(t, got.D, -continuantOf(list[1:n-1]), "D of MatrixOfList ", list)
	}
}

func TestMatrixOfListThatAreKnown(t *testing.T) {
	known := []struct {
		list []int
		m    impl.Matrix
	}{
		{nil, matrix(1, 0, 0, 1)},
		{[]int{}, matrix(1, 0, 0, 1)},
		{[]int{0}, matrix(0, -1, 1, 0)},
		{[]int{1}, matrix(1, -1, 1, 0)},
		{[]int{-30}, matrix(-30, -1, 1, 0)},
		{[]int{30}, matrix(30, -1, 1, 0)},
		{[]int{2, 3}, matrix(5, -2, 3, -1)},
		{[]int{2, 3, 4}, matrix(18, -5, 11, -3)},
		{[]int{0, 0}, matrix(-1, 0, 0, -1)},
		{[]int{1, 1, 1}, matrix(-1, 0, 0, -1)},
		{slices.Repeat([]int{1}, 6), matrix(1, 0, 0, 1)},
		{slices.Repeat([]int{2}, 10), matrix(11, -10, 10, -9)},
		{slices.Repeat([]int{30}, 6), matrix(724955399, -24192090, 24192090, -807301)},
		{slices.Repeat([]int{30}, 7), impl.Matrix{}},
		{slices.Repeat([]int{-30}, 7), impl.Matrix{}},
		{slices.Repeat([]int{30}, 10), impl.Matrix{}},
	}
	for _, k := range known {
		got, ok := impl.MatrixOfList(k.list)
		want(t, ok, k.m != impl.Matrix{}, "MatrixOfList ", k.list)
		want(t, got, k.m, "MatrixOfList ", k.list)
	}
}

// TestMatrixOfListAtItsLimits has continuants of 10^9 and of one more, with either sign.
func TestMatrixOfListAtItsLimits(t *testing.T) {
	known := []struct {
		list  []int
		whole int
	}{
		{[]int{30, 29, 24, 16, 15, 2, 7, 3, 6}, 1000000000},
		{[]int{-30, -29, -24, -16, -15, -2, -7, -3, -6}, -1000000000},
		{[]int{30, 30, 5, 22, 23, 4, 3, 9, 3, 2}, 1000000000},
		{[]int{30, 30, 14, 8, 14, 18, 4, 4, 3}, 1000000001},
		{[]int{-30, -30, -14, -8, -14, -18, -4, -4, -3}, -1000000001},
		{[]int{30, 30, 3, 14, 25, 11, 17, 6}, 1000000001},
	}
	for _, k := range known {
		want(t, continuantOf(k.list), k.whole, "continuant of ", k.list)
		got, ok := impl.MatrixOfList(k.list)
		wantWide(t, got, ok, listWide(k.list), "MatrixOfList ", k.list)
		want(t, ok, k.whole == 1000000000 || k.whole == -1000000000, "MatrixOfList ", k.list)
		closes, ok := impl.ClosesUp(k.list)
		wantTrue(t, ok, "ClosesUp ", k.list)
		want(t, closes, false, "ClosesUp ", k.list)
	}
}

// TestMatrixOfListWithGreatOnesOnTheWay has lists whose beginnings have no matrix, as their numbers are too great.
func TestMatrixOfListWithGreatOnesOnTheWay(t *testing.T) {
	seven := slices.Repeat([]int{30}, 7)
	_, ok := impl.MatrixOfList(seven)
	want(t, ok, false, "MatrixOfList ", seven)
	for _, end := range [][]int{{0, -30}, {0, -30, -30}, {0, -30, 0}} {
		list := slices.Concat(seven, end)
		got, ok := impl.MatrixOfList(list)
		wantTrue(t, ok, "MatrixOfList ", list)
		wantWide(t, got, ok, listWide(list), "MatrixOfList ", list)
		slices.Reverse(list)
		got, ok = impl.MatrixOfList(list)
		wantTrue(t, ok, "MatrixOfList ", list)
		wantWide(t, got, ok, listWide(list), "MatrixOfList ", list)
	}
}

func isClosed(list []int) bool {
	return sameWide(listWide(list), wideOf(matrix(-1, 0, 0, -1)))
}

func TestClosesUp(t *testing.T) {
	for _, list := range someTerms() {
		got, ok := impl.ClosesUp(list)
		wantTrue(t, ok, "ClosesUp ", list)
		want(t, got, isClosed(list), "ClosesUp ", list)
	}
}

func TestQuidditiesCloseUp(t *testing.T) {
	for _, p := range somePolygons() {
		quiddity := quiddityOf(p.n, p.ds)
		got, ok := impl.ClosesUp(quiddity)
		if p.n > 10 {
			wantFailedBool(t, got, ok, "ClosesUp ", quiddity)
			continue
		}
		wantTrue(t, ok, "ClosesUp ", quiddity)
		want(t, got, true, "ClosesUp ", quiddity)
	}
}

// TestNoOthersCloseUp has all lists of n numbers of at least 1 that are together 3 n - 6.
func TestNoOthersCloseUp(t *testing.T) {
	for n := 3; n <= 8; n++ {
		quiddities := map[string]bool{}
		for _, ds := range triangulationsOf(n) {
			quiddities[fmt.Sprint(quiddityOf(n, ds))] = true
		}
		count := 0
		for _, list := range sumLists(n, 3*n-6) {
			got, ok := impl.ClosesUp(list)
			wantTrue(t, ok, "ClosesUp ", list)
			want(t, got, quiddities[fmt.Sprint(list)], "ClosesUp ", list)
			if got {
				count++
			}
		}
		want(t, count, len(quiddities), "how many lists close up of ", n)
	}
}

func TestClosesUpThatAreKnown(t *testing.T) {
	known := []struct {
		list   []int
		closes bool
	}{
		{nil, false},
		{[]int{}, false},
		{[]int{0}, false},
		{[]int{1}, false},
		{[]int{-1}, false},
		{[]int{0, 0}, true},
		{[]int{1, 1}, false},
		{[]int{1, 1, 1}, true},
		{[]int{-1, -1, -1}, false},
		{[]int{0, 0, 0, 0}, false},
		{[]int{0, 0, 0, 0, 0, 0}, true},
		{[]int{1, 2, 1, 2}, true},
		{[]int{2, 1, 2, 1}, true},
		{[]int{1, 2, 2, 1}, false},
		{[]int{-1, -2, -1, -2}, true},
		{[]int{1, 3, 1, 2, 2}, true},
		{[]int{1, 1, 1, 1, 1, 1}, false},
		{slices.Repeat([]int{1}, 9), true},
		{[]int{7, 0, -7, 0}, false},
		{[]int{30, 0, -30, 0, 0, 0}, true},
		{slices.Repeat([]int{30}, 7), false},
		{slices.Repeat([]int{-30}, 10), false},
		{[]int{8, 1, 2, 2, 2, 2, 2, 2, 2, 1}, true},
		{[]int{1, 8, 2, 2, 2, 2, 2, 2, 2, 1}, false},
	}
	for _, k := range known {
		got, ok := impl.ClosesUp(k.list)
		wantTrue(t, ok, "ClosesUp ", k.list)
		want(t, got, k.closes, "ClosesUp ", k.list)
	}
}

func TestListsOfNoTerms(t *testing.T) {
	for _, list := range noTerms() {
		m, ok := impl.MatrixOfList(list)
		wantFailedMatrix(t, m, ok, "MatrixOfList ", list)
		closes, ok := impl.ClosesUp(list)
		wantFailedBool(t, closes, ok, "ClosesUp ", list)
	}
	// Its product is -1, 0 / 0, -1, though it is too long.
	fifteen := slices.Repeat([]int{1}, 15)
	closes, ok := impl.ClosesUp(fifteen)
	wantFailedBool(t, closes, ok, "ClosesUp ", fifteen)
	closes, ok = impl.ClosesUp([]int{31, 0, -31, 0, 0, 0})
	wantFailedBool(t, closes, ok, "ClosesUp of 31")
	m, ok := impl.MatrixOfList([]int{31, 0, -31})
	wantFailedMatrix(t, m, ok, "MatrixOfList of 31")
}

func TestMatrixOfWord(t *testing.T) {
	for _, word := range slices.Concat(allWords(9), longWords(20), longWords(39), longWords(40)) {
		got, ok := impl.MatrixOfWord(word)
		wantTrue(t, ok, "MatrixOfWord ", word)
		want(t, got, wordMatrix(word), "MatrixOfWord ", word)
	}
	for _, word := range noWords() {
		got, ok := impl.MatrixOfWord(word)
		wantFailedMatrix(t, got, ok, "MatrixOfWord ", word)
	}
}

func TestMatrixOfWordThatAreKnown(t *testing.T) {
	known := []struct {
		word string
		m    impl.Matrix
	}{
		{"", matrix(1, 0, 0, 1)},
		{"l", matrix(1, 0, 1, 1)},
		{"r", matrix(1, 1, 0, 1)},
		{"lr", matrix(1, 1, 1, 2)},
		{"rl", matrix(2, 1, 1, 1)},
		{"llr", matrix(1, 1, 2, 3)},
		{"rrl", matrix(3, 2, 1, 1)},
		{strings.Repeat("l", 40), matrix(1, 0, 40, 1)},
		{strings.Repeat("r", 40), matrix(1, 40, 0, 1)},
		{strings.Repeat("lr", 20), matrix(63245986, 102334155, 102334155, 165580141)},
		{strings.Repeat("rl", 20), matrix(165580141, 102334155, 102334155, 63245986)},
	}
	for _, k := range known {
		got, ok := impl.MatrixOfWord(k.word)
		wantTrue(t, ok, "MatrixOfWord ", k.word)
		want(t, got, k.m, "MatrixOfWord ", k.word)
		word, ok := impl.WordOfMatrix(k.m)
		wantTrue(t, ok, "WordOfMatrix ", k.m)
		want(t, word, k.word, "WordOfMatrix ", k.m)
	}
}

func TestWordOfMatrixOfWords(t *testing.T) {
	for _, word := range slices.Concat(allWords(9), longWords(20), longWords(39), longWords(40)) {
		got, ok := impl.WordOfMatrix(wordMatrix(word))
		wantTrue(t, ok, "WordOfMatrix of ", word)
		want(t, got, word, "WordOfMatrix of ", word)
	}
	for _, word := range slices.Concat(longWords(41), longWords(42)) {
		m := wordMatrix(word)
		want(t, impl.IsMatrix(m), true, "IsMatrix of ", word)
		got, ok := impl.WordOfMatrix(m)
		wantFailedText(t, got, ok, "WordOfMatrix of ", word)
	}
}

func TestWordOfSmallMatrices(t *testing.T) {
	for _, m := range smallMatrices(6) {
		got, ok := impl.WordOfMatrix(m)
		if min(m.A, m.B, m.C, m.D) < 0 {
			wantFailedText(t, got, ok, "WordOfMatrix ", m)
			continue
		}
		wantTrue(t, ok, "WordOfMatrix ", m)
		want(t, wordMatrix(got), m, "matrix of WordOfMatrix ", m)
	}
}

func TestWordsThatAreTooLong(t *testing.T) {
	for _, m := range []impl.Matrix{
		matrix(1, 41, 0, 1),
		matrix(1, 0, 41, 1),
		matrix(1, 1, 40, 41),
		matrix(1, 40, 1, 41),
		matrix(1, 1000000000, 0, 1),
		matrix(1, 0, 1000000000, 1),
		matrix(999999999, 1000000000, 999999998, 999999999),
		matrix(31622, 31621, 31623, 31622),
	} {
		got, ok := impl.WordOfMatrix(m)
		wantFailedText(t, got, ok, "WordOfMatrix ", m)
	}
	got, ok := impl.WordOfMatrix(matrix(1, 39, 1, 40))
	wantTrue(t, ok, "WordOfMatrix of 40 letters")
	want(t, got, "l"+strings.Repeat("r", 39), "WordOfMatrix of 40 letters")
}

func TestMoveFraction(t *testing.T) {
	most := big.NewInt(1000000000000000)
	for _, m := range append(someMatrices(), matricesToLimits()...) {
		for _, f := range someFractions() {
			got, den, ok := impl.MoveFraction(m, f)
			expected, expectedDen := movedBy(m, f)
			if expected.CmpAbs(most) > 0 || expectedDen.CmpAbs(most) > 0 {
				wantFailedNumber(t, got, ok, "MoveFraction ", m, f)
				wantFailedNumber(t, den, ok, "MoveFraction ", m, f)
				continue
			}
			wantTrue(t, ok, "MoveFraction ", m, f)
			want(t, big.NewInt(int64(got)), expected, "numerator of MoveFraction ", m, f)
			want(t, big.NewInt(int64(den)), expectedDen, "denominator of MoveFraction ", m, f)
		}
	}
}

// matricesToLimits move fractions of someFractions to numbers of a size of 10^15 or of one more.
func matricesToLimits() []impl.Matrix {
	return []impl.Matrix{
		matrix(999000001, 1000000, 999, 1),
		matrix(999, 1, -999000001, -1000000),
		matrix(-999, -1, 999000001, 1000000),
		matrix(-1000000, -999000001, 1, 999),
		matrix(1, 999, 1000000, 999000001),
		matrix(1000000000, 1, -1, 0),
		matrix(-1000000000, -1, 1, 0),
		matrix(1, 0, 1000000000, 1),
		matrix(-1, 0, -1000000000, -1),
		matrix(998000003, 1999999, -161031872, -322709),
	}
}

func TestMoveFractionThatAreKnown(t *testing.T) {
	known := []struct {
		m            impl.Matrix
		num, den     int
		toNum, toDen int
	}{
		{matrix(1, 1, 1, 2), 1, 2, 3, 5},
		{matrix(1, 1, 1, 2), 0, 1, 1, 2},
		{matrix(1, 1, 1, 2), 1, 0, 1, 1},
		{matrix(1, 0, 0, 1), 0, 1, 0, 1},
		{matrix(1, 0, 0, 1), 1, 0, 1, 0},
		{matrix(-1, 0, 0, -1), 0, 1, 0, 1},
		{matrix(-1, 0, 0, -1), 1, 0, 1, 0},
		{matrix(-1, 0, 0, -1), 3, 5, 3, 5},
		{matrix(0, -1, 1, 0), 0, 1, 1, 0},
		{matrix(0, 1, -1, 0), 0, 1, 1, 0},
		{matrix(0, -1, 1, 0), 1, 0, 0, 1},
		{matrix(0, 1, -1, 0), 1, 0, 0, 1},
		{matrix(0, -1, 1, 0), 2, 3, -3, 2},
		{matrix(0, 1, -1, 0), 2, 3, -3, 2},
		{matrix(1, -1, 0, 1), 1, 2, -1, 2},
		{matrix(1, -1, 0, 1), 1, 1, 0, 1},
		{matrix(2, -1, -1, 1), 1, 1, 1, 0},
		{matrix(-2, 1, 1, -1), 1, 1, 1, 0},
		{matrix(999000001, 1000000, 999, 1), 1000000, 999999, 1000000000000000, 999999999},
		{matrix(-1000000, -999000001, 1, 999), 999999, 1000000, -1000000000000000, 999999999},
		{matrix(1, 999, 1000000, 999000001), 999999, 1000000, 999999999, 1000000000000000},
		{matrix(999, 1, -999000001, -1000000), 1000000, 999999, -999999999, 1000000000000000},
		{matrix(-999, -1, 999000001, 1000000), 1000000, 999999, -999999999, 1000000000000000},
		{matrix(1000000000, 1, -1, 0), 1000000, 1, 0, 0},
		{matrix(-1000000000, -1, 1, 0), 1000000, 1, 0, 0},
		{matrix(1000000000, -1, 1, 0), 1000000, 1, 999999999999999, 1000000},
		{matrix(1, 0, 1000000000, 1), 1000000, 1, 0, 0},
		{matrix(-1, 0, -1000000000, -1), 1000000, 1, 0, 0},
		{matrix(999999999, 1000000000, 999999998, 999999999), 1000000, 999999, 0, 0},
	}
	for _, k := range known {
		f := impl.Fraction{Num: k.num, Den: k.den}
		num, den, ok := impl.MoveFraction(k.m, f)
		want(t, ok, k.toNum != 0 || k.toDen != 0, "MoveFraction ", k.m, f)
		want(t, []int{num, den}, []int{k.toNum, k.toDen}, "MoveFraction ", k.m, f)
	}
}

func TestMoveFractionOfNoFractions(t *testing.T) {
	for _, m := range append(smallMatrices(1), matrix(0, -1, 1, 1000000000), matrix(999999999, 1000000000, 999999998, 999999999)) {
		for _, f := range noFractions() {
			num, den, ok := impl.MoveFraction(m, f)
			wantFailedNumber(t, num, ok, "MoveFraction ", m, f)
			wantFailedNumber(t, den, ok, "MoveFraction ", m, f)
		}
	}
}

func TestFixedSign(t *testing.T) {
	for _, m := range append(someMatrices(), smallMatrices(4)...) {
		trace := big.NewInt(int64(m.A + m.D))
		square := new(big.Int).Mul(trace, trace)
		got, ok := impl.FixedSign(m)
		wantTrue(t, ok, "FixedSign ", m)
		want(t, got, square.Cmp(big.NewInt(4)), "FixedSign ", m)
	}
}

func TestFixedSignThatAreKnown(t *testing.T) {
	known := []struct {
		m    impl.Matrix
		sign int
	}{
		{matrix(1, 0, 0, 1), 0},
		{matrix(-1, 0, 0, -1), 0},
		{matrix(1, 1000000000, 0, 1), 0},
		{matrix(-1, 1000000000, 0, -1), 0},
		{matrix(0, -1, 1, 0), -1},
		{matrix(1, -1, 1, 0), -1},
		{matrix(-1, 1, -1, 0), -1},
		{matrix(2, 1, 1, 1), 1},
		{matrix(-2, 1, 1, -1), 1},
		{matrix(999999999, 1000000000, 999999998, 999999999), 1},
		{matrix(-999999999, 1000000000, 999999998, -999999999), 1},
	}
	for _, k := range known {
		got, ok := impl.FixedSign(k.m)
		wantTrue(t, ok, "FixedSign ", k.m)
		want(t, got, k.sign, "FixedSign ", k.m)
	}
}

func TestIsConjugateBy(t *testing.T) {
	matrices := smallMatrices(1)
	for _, m := range matrices {
		for _, g := range matrices {
			moved := timesWide(timesWide(wideOf(g), wideOf(m)), inverseWide(wideOf(g)))
			for _, k := range smallMatrices(2) {
				got, ok := impl.IsConjugateBy(m, k, g)
				wantTrue(t, ok, "IsConjugateBy ", m, k, g)
				want(t, got, sameWide(moved, wideOf(k)), "IsConjugateBy ", m, k, g)
			}
		}
	}
}

// TestIsConjugateByOfGreatOnes fails exactly if g times m, or this times the inverse of g, is no matrix.
func TestIsConjugateByOfGreatOnes(t *testing.T) {
	for _, m := range someMatrices() {
		for _, g := range someMatrices() {
			first := timesWide(wideOf(g), wideOf(m))
			second := timesWide(first, inverseWide(wideOf(g)))
			got, ok := impl.IsConjugateBy(m, m, g)
			if !isWithin(first) || !isWithin(second) {
				wantFailedBool(t, got, ok, "IsConjugateBy ", m, m, g)
				continue
			}
			wantTrue(t, ok, "IsConjugateBy ", m, m, g)
			want(t, got, sameWide(second, wideOf(m)), "IsConjugateBy ", m, m, g)
		}
	}
}

func TestIsConjugateByThatAreKnown(t *testing.T) {
	great := matrix(1, 1000000000, 0, 1)
	known := []struct {
		m, k, g impl.Matrix
		is, ok  bool
	}{
		{matrix(1, 1, 0, 1), matrix(1, 0, -1, 1), matrix(0, -1, 1, 0), true, true},
		{matrix(1, 0, -1, 1), matrix(1, 1, 0, 1), matrix(0, 1, -1, 0), true, true},
		{matrix(1, 1, 0, 1), matrix(1, 0, 1, 1), matrix(0, -1, 1, 0), false, true},
		{matrix(2, 1, 1, 1), matrix(3, -1, 1, 0), matrix(1, 1, 0, 1), true, true},
		{matrix(3, -1, 1, 0), matrix(2, 1, 1, 1), matrix(1, 1, 0, 1), false, true},
		{matrix(2, 1, 1, 1), matrix(2, 1, 1, 1), matrix(1, 0, 0, 1), true, true},
		{matrix(2, 1, 1, 1), matrix(2, 1, 1, 1), matrix(-1, 0, 0, -1), true, true},
		// g times m is no matrix, though that times the inverse of g would be m.
		{matrix(1, 1, 0, 1), matrix(1, 1, 0, 1), great, false, false},
		// Both products of g are matrices, unlike m times the inverse of g.
		{matrix(1, -1, 0, 1), matrix(1, -1, 0, 1), great, true, true},
		{matrix(-1, 0, 0, -1), matrix(-1, 0, 0, -1), great, true, true},
		{great, matrix(1, 0, -1000000000, 1), matrix(0, -1, 1, 0), true, true},
		// Only the second product is no matrix.
		{matrix(1, 0, 1, 1), matrix(1, 0, 1, 1), matrix(1, 100000, 0, 1), false, false},
		{matrix(1, 0, 1, 1), matrix(31623, -999950884, 1, -31621), matrix(1, 31622, 0, 1), true, true},
		{matrix(1, 0, 1, 1), matrix(1, 0, 1, 1), matrix(1, 31623, 0, 1), false, false},
	}
	for _, k := range known {
		is, ok := impl.IsConjugateBy(k.m, k.k, k.g)
		want(t, []bool{is, ok}, []bool{k.is, k.ok}, "IsConjugateBy ", k.m, k.k, k.g)
	}
}

func TestMatrixText(t *testing.T) {
	for _, m := range someMatrices() {
		got, ok := impl.MatrixText(m)
		wantTrue(t, ok, "MatrixText ", m)
		want(t, got, fmt.Sprintf("%d,%d/%d,%d", m.A, m.B, m.C, m.D), "MatrixText ", m)
	}
	known := map[string]impl.Matrix{
		"5,-2/3,-1": matrix(5, -2, 3, -1),
		"1,0/0,1":   matrix(1, 0, 0, 1),
		"-999999999,1000000000/999999998,-999999999": matrix(-999999999, 1000000000, 999999998, -999999999),
	}
	for text, m := range known {
		got, ok := impl.MatrixText(m)
		wantTrue(t, ok, "MatrixText ", m)
		want(t, got, text, "MatrixText ", m)
	}
}

func TestChapter4OfNoMatrices(t *testing.T) {
	for _, bad := range noMatrices() {
		for _, k := range []int{-21, -20, -1, 0, 1, 20} {
			m, ok := impl.PowerMatrix(bad, k)
			wantFailedMatrix(t, m, ok, "PowerMatrix ", bad, k)
		}
		m, ok := impl.InverseMatrix(bad)
		wantFailedMatrix(t, m, ok, "InverseMatrix ", bad)
		m, ok = impl.NegateMatrix(bad)
		wantFailedMatrix(t, m, ok, "NegateMatrix ", bad)
		number, ok := impl.TraceOf(bad)
		wantFailedNumber(t, number, ok, "TraceOf ", bad)
		number, ok = impl.OrderOf(bad)
		wantFailedNumber(t, number, ok, "OrderOf ", bad)
		number, ok = impl.FixedSign(bad)
		wantFailedNumber(t, number, ok, "FixedSign ", bad)
		text, ok := impl.WordOfMatrix(bad)
		wantFailedText(t, text, ok, "WordOfMatrix ", bad)
		text, ok = impl.MatrixText(bad)
		wantFailedText(t, text, ok, "MatrixText ", bad)
		for _, f := range append(someFractions(), noFractions()...) {
			num, den, ok := impl.MoveFraction(bad, f)
			wantFailedNumber(t, num, ok, "MoveFraction ", bad, f)
			wantFailedNumber(t, den, ok, "MoveFraction ", bad, f)
		}
	}
}

func TestPairsOfNoMatrices(t *testing.T) {
	for _, bad := range noMatrices() {
		for _, good := range someMatrices() {
			m, ok := impl.TimesMatrix(bad, good)
			wantFailedMatrix(t, m, ok, "TimesMatrix ", bad, good)
			m, ok = impl.TimesMatrix(good, bad)
			wantFailedMatrix(t, m, ok, "TimesMatrix ", good, bad)
			for _, three := range [][3]impl.Matrix{{bad, good, good}, {good, bad, good}, {good, good, bad}, {bad, bad, good}, {good, bad, bad}, {bad, bad, bad}} {
				is, ok := impl.IsConjugateBy(three[0], three[1], three[2])
				wantFailedBool(t, is, ok, "IsConjugateBy ", three)
			}
		}
		for _, other := range noMatrices() {
			m, ok := impl.TimesMatrix(bad, other)
			wantFailedMatrix(t, m, ok, "TimesMatrix ", bad, other)
		}
	}
}

func TestExamplesOfChapter4(t *testing.T) {
	m, _ := impl.MatrixOfList([]int{2, 3})
	text, _ := impl.MatrixText(m)
	want(t, text, "5,-2/3,-1", "MatrixText of the list 2, 3")
	for _, quiddity := range [][]int{{1, 1, 1}, {1, 2, 1, 2}} {
		closes, _ := impl.ClosesUp(quiddity)
		want(t, closes, true, "ClosesUp ", quiddity)
	}
	word, _ := impl.MatrixOfWord("lr")
	want(t, word, matrix(1, 1, 1, 2), "MatrixOfWord lr")
	trace, _ := impl.TraceOf(word)
	want(t, trace, 3, "TraceOf lr")
	num, den, _ := impl.MoveFraction(word, impl.Fraction{Num: 1, Den: 2})
	want(t, []int{num, den}, []int{3, 5}, "MoveFraction of lr and 1 / 2")
	four, _ := impl.OrderOf(matrix(0, -1, 1, 0))
	want(t, four, 4, "OrderOf 0, -1 / 1, 0")
	one, _ := impl.MatrixOfList([]int{1})
	want(t, one, matrix(1, -1, 1, 0), "MatrixOfList 1")
	six, _ := impl.OrderOf(one)
	want(t, six, 6, "OrderOf 1, -1 / 1, 0")
}
