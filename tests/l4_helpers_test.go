package tests

import (
	"math"
	"math/big"
	"slices"
	"strings"
	"testing"

	"loop.example/g01236/impl"
)

// The helpers of this file multiply numbers of any size, and tell words by adding columns, without products.

// A wide matrix has A, B, C and D, of any size.
type wide [4]*big.Int

func wideOf(m impl.Matrix) wide {
	return wide{big.NewInt(int64(m.A)), big.NewInt(int64(m.B)), big.NewInt(int64(m.C)), big.NewInt(int64(m.D))}
}

func unitWide() wide {
	return wideOf(impl.Matrix{A: 1, D: 1})
}

// twoProducts is a times b and c times d, together.
func twoProducts(a *big.Int, b *big.Int, c *big.Int, d *big.Int) *big.Int {
	first := new(big.Int).Mul(a, b)
	return first.Add(first, new(big.Int).Mul(c, d))
}

func timesWide(m wide, k wide) wide {
	return wide{
		twoProducts(m[0], k[0], m[1], k[2]),
		twoProducts(m[0], k[1], m[1], k[3]),
		twoProducts(m[2], k[0], m[3], k[2]),
		twoProducts(m[2], k[1], m[3], k[3]),
	}
}

func inverseWide(m wide) wide {
	return wide{m[3], new(big.Int).Neg(m[1]), new(big.Int).Neg(m[2]), m[0]}
}

func sameWide(m wide, k wide) bool {
	return slices.EqualFunc(m[:], k[:], func(a *big.Int, b *big.Int) bool { return a.Cmp(b) == 0 })
}

// powerWide takes the inverse for k less than 0.
func powerWide(m wide, k int) wide {
	power := unitWide()
	if k < 0 {
		m, k = inverseWide(m), -k
	}
	for range k {
		power = timesWide(power, m)
	}
	return power
}

// isWithin tells whether the determinant is 1 and no number is of a size of more than 10^9.
func isWithin(m wide) bool {
	most := big.NewInt(1000000000)
	for _, number := range m {
		if number.CmpAbs(most) > 0 {
			return false
		}
	}
	determinant := new(big.Int).Sub(new(big.Int).Mul(m[0], m[3]), new(big.Int).Mul(m[1], m[2]))
	return determinant.Cmp(big.NewInt(1)) == 0
}

// wantWide tells the matrix that a call returns, or that it fails as that is none.
func wantWide(t *testing.T, got impl.Matrix, ok bool, expected wide, what ...any) {
	t.Helper()
	if !isWithin(expected) {
		wantFailedMatrix(t, got, ok, what...)
		return
	}
	wantTrue(t, ok, what...)
	want(t, wideOf(got), expected, what...)
}

func wantFailedMatrix(t *testing.T, got impl.Matrix, ok bool, what ...any) {
	t.Helper()
	want(t, ok, false, what...)
	want(t, got, impl.Matrix{}, what...)
}

func wantFailedBool(t *testing.T, got bool, ok bool, what ...any) {
	t.Helper()
	want(t, []bool{got, ok}, []bool{false, false}, what...)
}

func wantFailedText(t *testing.T, got string, ok bool, what ...any) {
	t.Helper()
	want(t, ok, false, what...)
	want(t, got, "", what...)
}

func matrix(a int, b int, c int, d int) impl.Matrix {
	return impl.Matrix{A: a, B: b, C: c, D: d}
}

// listWide multiplies the matrices of the numbers of a list, in order.
func listWide(list []int) wide {
	whole := unitWide()
	for _, number := range list {
		whole = timesWide(whole, wideOf(matrix(number, -1, 1, 0)))
	}
	return whole
}

// smallMatrices are all with numbers of at most a size.
func smallMatrices(size int) []impl.Matrix {
	var all []impl.Matrix
	for a := -size; a <= size; a++ {
		for b := -size; b <= size; b++ {
			for c := -size; c <= size; c++ {
				for d := -size; d <= size; d++ {
					if a*d-b*c == 1 {
						all = append(all, matrix(a, b, c, d))
					}
				}
			}
		}
	}
	return all
}

// greatMatrices have great numbers, up to 10^9, and all orders that there are.
func greatMatrices() []impl.Matrix {
	return []impl.Matrix{
		matrix(999999999, 1000000000, 999999998, 999999999),
		matrix(-999999999, 1000000000, 999999998, -999999999),
		matrix(-999999999, -1000000000, -999999998, -999999999),
		matrix(1000000000, 1, -1, 0),
		matrix(-1000000000, 1, -1, 0),
		matrix(0, -1, 1, 1000000000),
		matrix(0, -1, 1, -1000000000),
		matrix(1000000000, -1, 1, 0),
		matrix(1, 1000000000, 0, 1),
		matrix(1, -1000000000, 0, 1),
		matrix(-1, 1000000000, 0, -1),
		matrix(1, 0, 1000000000, 1),
		matrix(1, 0, -1000000000, 1),
		matrix(1, 500000000, 0, 1),
		matrix(1, 500000001, 0, 1),
		matrix(1, 50000000, 0, 1),
		matrix(1, 50000001, 0, 1),
		matrix(-1, 0, 50000000, -1),
		matrix(-1, 0, 50000001, -1),
		matrix(31622, 1, -999950885, -31622),
		matrix(31622, 1, -999982507, -31623),
		matrix(31623, 1, -999982507, -31622),
		matrix(31623, -999982507, 1, -31622),
		matrix(-31621, 31622, -31622, 31623),
		matrix(31621, -31622, 31622, -31623),
		matrix(31622, 31621, 31623, 31622),
		matrix(165580141, 102334155, 102334155, 63245986),
		matrix(514229, 317811, 317811, 196418),
		matrix(3, 1, 2, 1),
		matrix(-100, 999, 1, -10),
		matrix(-100, -999, -1, -10),
		matrix(10, 11, 9, 10),
	}
}

func someMatrices() []impl.Matrix {
	return append(smallMatrices(2), greatMatrices()...)
}

// noMatrices have another determinant, too great a number, or numbers whose products would wrap around to 1.
func noMatrices() []impl.Matrix {
	all := []impl.Matrix{
		{},
		matrix(1, 0, 0, 0),
		matrix(1, 0, 0, -1),
		matrix(-1, 0, 0, 1),
		matrix(0, 1, 1, 0),
		matrix(1, 1, 1, 1),
		matrix(2, 0, 0, 1),
		matrix(2, 3, 4, 5),
		matrix(3, 2, 2, 2),
		matrix(1000000000, 1000000000, 1000000000, 1000000000),
		matrix(1<<32, -1, 1, 1<<32),
		matrix(-1<<32, 1, -1, 1<<32),
		matrix(math.MaxInt, 0, 0, math.MaxInt),
		matrix(math.MinInt, -1, 1, math.MinInt),
		matrix(math.MinInt, math.MaxInt, math.MaxInt, math.MinInt),
		matrix(-1, math.MinInt, 0, -1),
		matrix(math.MinInt, math.MinInt, math.MinInt, math.MinInt),
	}
	for _, number := range []int{1000000001, -1000000001, math.MaxInt32, 1 << 62, -1 << 62, math.MaxInt, math.MinInt, math.MinInt + 1} {
		all = append(all, matrix(number, 1, -1, 0), matrix(1, number, 0, 1), matrix(1, 0, number, 1), matrix(0, -1, 1, number))
	}
	return all
}

// wordMatrix adds columns: l adds the second one to the first one, r the first one to the second one.
func wordMatrix(word string) impl.Matrix {
	m := matrix(1, 0, 0, 1)
	for _, letter := range word {
		if letter == 'l' {
			m.A += m.B
			m.C += m.D
		} else {
			m.B += m.A
			m.D += m.C
		}
	}
	return m
}

// allWords are all words of so many letters, and of fewer.
func allWords(most int) []string {
	words := []string{""}
	for from := 0; len(words[from]) < most; from++ {
		words = append(words, words[from]+"l", words[from]+"r")
	}
	return words
}

// longWords are words of so many letters that begin in some ways.
func longWords(letters int) []string {
	var words []string
	for _, part := range []string{"l", "r", "lr", "rl", "llr", "rrl", "lrrl", "llllr", "rrrrrrl"} {
		words = append(words, strings.Repeat(part, letters)[:letters])
	}
	half := letters / 2
	return append(words, strings.Repeat("l", half)+strings.Repeat("r", letters-half), strings.Repeat("r", letters-1)+"l", "l"+strings.Repeat("r", letters-1))
}

// noWords have another letter than l and r, or more letters than 40.
func noWords() []string {
	words := slices.Concat(longWords(41), longWords(42), longWords(1000))
	for _, letter := range []string{"L", "R", "k", "m", "q", "s", " ", "1", "I", "\x00", "\n", "\xff", "\xec", "\xf2", "é", "l\u0301", "ｌ"} {
		words = append(words, letter, "l"+letter, letter+"r", "lr"+letter+"rl", strings.Repeat(letter, 40), strings.Repeat("l", 39)+letter)
	}
	return words
}

// movedBy divides numerator and denominator by their greatest common divisor, and sets their signs.
func movedBy(m impl.Matrix, f impl.Fraction) (*big.Int, *big.Int) {
	w, p, q := wideOf(m), big.NewInt(int64(f.Num)), big.NewInt(int64(f.Den))
	num, den := twoProducts(w[0], p, w[1], q), twoProducts(w[2], p, w[3], q)
	if den.Sign() == 0 {
		return big.NewInt(1), den
	}
	value := new(big.Rat).SetFrac(num, den)
	return value.Num(), value.Denom()
}

// someFractions are fractions, 0 / 1 and 1 / 0 and those at the limit of 10^6 among them.
func someFractions() []impl.Fraction {
	fractions := []impl.Fraction{
		{Num: 0, Den: 1}, {Num: 1, Den: 0},
		{Num: 1000000, Den: 999999}, {Num: 999999, Den: 1000000}, {Num: 1000000, Den: 1}, {Num: 1, Den: 1000000}, {Num: 1000000, Den: 3}, {Num: 524288, Den: 531441},
	}
	for num := 1; num <= 7; num++ {
		for den := 1; den <= 7; den++ {
			if commonDivisor(num, den) == 1 {
				fractions = append(fractions, impl.Fraction{Num: num, Den: den})
			}
		}
	}
	return fractions
}

// noFractions have a common divisor, a number less than 0, or one greater than 10^6.
func noFractions() []impl.Fraction {
	all := []impl.Fraction{
		{}, {Num: 2}, {Den: 2}, {Num: 1000000}, {Den: 1000000}, {Num: 2, Den: 2}, {Num: 2, Den: 4}, {Num: 9, Den: 6}, {Num: 1000000, Den: 1000000}, {Num: 999999, Den: 3},
		{Num: -1, Den: -1}, {Num: -1, Den: -2}, {Num: math.MinInt, Den: math.MinInt}, {Num: math.MaxInt, Den: math.MaxInt},
	}
	for _, bad := range []int{math.MinInt, math.MinInt + 1, -1000000, -3, -2, -1, 1000001, 1000003, math.MaxInt32, math.MaxInt - 1, math.MaxInt} {
		for _, good := range []int{0, 1, 2, 7, 1000000} {
			all = append(all, impl.Fraction{Num: bad, Den: good}, impl.Fraction{Num: good, Den: bad})
		}
	}
	return all
}

// sumLists are all lists of n numbers of at least 1, n at least 1, that are together a whole.
func sumLists(n int, whole int) [][]int {
	if n == 1 {
		return [][]int{{whole}}
	}
	var lists [][]int
	for first := 1; first <= whole-(n-1); first++ {
		for _, rest := range sumLists(n-1, whole-first) {
			lists = append(lists, slices.Concat([]int{first}, rest))
		}
	}
	return lists
}
