package tests

import (
	"slices"
	"strings"
	"testing"

	"loop.example/g01236/impl"
)

// matrixPool has matrices, and others with numbers of any size and sign at each place.
func matrixPool() []impl.Matrix {
	pool := append(someMatrices(), noMatrices()...)
	for _, number := range numberPool() {
		pool = append(pool, matrix(number, number, number, number), matrix(number, -1, 1, 0), matrix(1, number, 0, 1), matrix(1, 0, number, 1), matrix(0, -1, 1, number), matrix(number, 0, 0, number))
	}
	return pool
}

// matrixFew are so few that all of them can be taken together.
func matrixFew() []impl.Matrix {
	return append(noMatrices(), matrix(1, 0, 0, 1), matrix(0, -1, 1, 0), matrix(1, 1, 0, 1), matrix(1, 1000000000, 0, 1), matrix(999999999, 1000000000, 999999998, 999999999), matrix(1000000000, 1, -1, 0))
}

func fractionPool() []impl.Fraction {
	fractions := append(someFractions(), noFractions()...)
	for _, num := range numberPool() {
		for _, den := range numberPool() {
			fractions = append(fractions, impl.Fraction{Num: num, Den: den})
		}
	}
	return fractions
}

func TestChapter4TakesAllMatrices(t *testing.T) {
	for _, m := range matrixPool() {
		checkCall(t, "IsMatrix", impl.IsMatrix, m)
		checkCall(t, "InverseMatrix", impl.InverseMatrix, m)
		checkCall(t, "NegateMatrix", impl.NegateMatrix, m)
		checkCall(t, "TraceOf", impl.TraceOf, m)
		checkCall(t, "OrderOf", impl.OrderOf, m)
		checkCall(t, "WordOfMatrix", impl.WordOfMatrix, m)
		checkCall(t, "FixedSign", impl.FixedSign, m)
		checkCall(t, "MatrixText", impl.MatrixText, m)
		for _, k := range append(numberPool(), -21, -20, 19, 20, 21) {
			checkCall(t, "PowerMatrix", impl.PowerMatrix, m, k)
		}
	}
}

func TestChapter4TakesAllPairs(t *testing.T) {
	for _, m := range matrixPool() {
		for _, k := range matrixFew() {
			checkCall(t, "TimesMatrix", impl.TimesMatrix, m, k)
			checkCall(t, "TimesMatrix", impl.TimesMatrix, k, m)
			checkCall(t, "IsConjugateBy", impl.IsConjugateBy, m, k, m)
			checkCall(t, "IsConjugateBy", impl.IsConjugateBy, m, m, k)
			checkCall(t, "IsConjugateBy", impl.IsConjugateBy, k, m, m)
		}
	}
}

func TestChapter4TakesAllFractions(t *testing.T) {
	for _, f := range fractionPool() {
		for _, m := range matrixFew() {
			checkCall(t, "MoveFraction", impl.MoveFraction, m, f)
		}
	}
}

func TestChapter4TakesAllLists(t *testing.T) {
	for _, list := range termLists() {
		checkCall(t, "MatrixOfList", impl.MatrixOfList, list)
		checkCall(t, "ClosesUp", impl.ClosesUp, list)
	}
	for _, p := range somePolygons() {
		checkCall(t, "ClosesUp", impl.ClosesUp, quiddityOf(p.n, p.ds))
	}
}

func TestChapter4TakesAllWords(t *testing.T) {
	words := slices.Concat(allWords(6), longWords(40), noWords(), textPool())
	words = append(words, strings.Repeat("l", 1000000), strings.Repeat("lr", 500000)+"x", strings.Repeat("\x00", 100000))
	for b := range 256 {
		words = append(words, string([]byte{'l', byte(b)}), string([]byte{byte(b), 'r'}))
	}
	for _, word := range words {
		checkCall(t, "MatrixOfWord", impl.MatrixOfWord, word)
	}
}
