package tests

import (
	"math"
	"slices"
	"testing"

	"loop.example/g01236/impl"
)

// termLists are terms, and lists of numbers of any size and sign, nil and long ones among them.
func termLists() [][]int {
	lists := slices.Concat(quiddityLists(), noTerms(), allLists(3, -1, 2), mixedTerms(30), equalTerms(), somePlusTerms())
	for n := 0; n <= 14; n++ {
		for _, number := range numberPool() {
			lists = append(lists, slices.Repeat([]int{number}, n), slices.Repeat([]int{1, number}, n)[:n])
		}
	}
	return append(lists, make([]int, 100000), slices.Repeat(numberPool(), 1000))
}

func TestChapter3TakesAllLists(t *testing.T) {
	for _, list := range termLists() {
		checkCall(t, "IsTermList", impl.IsTermList, list)
		checkCall(t, "ContinuantOf", impl.ContinuantOf, list)
		checkCall(t, "PlusContinuantOf", impl.PlusContinuantOf, list)
		checkCall(t, "TermsOf", impl.TermsOf, list)
		checkCall(t, "FractionOfMinus", impl.FractionOfMinus, list)
		checkCall(t, "FractionOfPlus", impl.FractionOfPlus, list)
		checkCall(t, "MinusOfPlus", impl.MinusOfPlus, list)
		checkCall(t, "ReduceOnes", impl.ReduceOnes, list)
		checkCall(t, "ContinuantTable", impl.ContinuantTable, list)
	}
}

func TestChapter3TakesAllPlaces(t *testing.T) {
	for _, list := range termLists() {
		for _, at := range []int{math.MinInt, -1, 0, 1, 2, len(list) - 2, len(list) - 1, len(list), len(list) + 1, math.MaxInt} {
			checkCall(t, "PutOne", impl.PutOne, list, at)
			checkCall(t, "TakeOne", impl.TakeOne, list, at)
			checkCall(t, "SplitContinuant", impl.SplitContinuant, list, at)
		}
	}
}

func TestChapter3TakesAllNumbers(t *testing.T) {
	pool := append(numberPool(), -30, 29, 30, 31, 59, 89, 144, 33377, 968689, 999999, 1000000, 1000001)
	for _, first := range pool {
		checkCall(t, "CountTerms", impl.CountTerms, first)
		for _, second := range pool {
			checkCall(t, "MinusTerms", impl.MinusTerms, first, second)
			checkCall(t, "PlusTerms", impl.PlusTerms, first, second)
		}
	}
}

func TestChapter3TakesAllIndices(t *testing.T) {
	lists := [][]int{nil, numberPool(), {1, 1, 1}, {1, 2, 1, 2}, {1, 3, 1, 2, 2}, {2, 2, 1, 1}, fanNumbers(11), fanNumbers(12), fanNumbers(13)}
	pool := append(numberPool(), -1001, -1000, -999, 999, 1001, 1011, 1012, 1013)
	for _, quiddity := range lists {
		for _, i := range pool {
			for _, j := range pool {
				checkCall(t, "EntryByContinuant", impl.EntryByContinuant, quiddity, i, j)
			}
		}
	}
	for _, quiddity := range quiddityLists() {
		for _, j := range numberPool() {
			checkCall(t, "EntryByContinuant", impl.EntryByContinuant, quiddity, 1, j)
		}
	}
}
