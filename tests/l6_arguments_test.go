package tests

import (
	"slices"
	"strings"
	"testing"

	"loop.example/g01236/impl"
)

// fractionFew are so few that they can be taken together with each fraction.
func fractionFew() []impl.Fraction {
	few := append(someFractions()[:8], noFractions()[:14]...)
	for _, number := range numberPool() {
		few = append(few, fraction(number, 1), fraction(1, number), fraction(number, number))
	}
	return few
}

// fractionLists are polygons of fractions, and others, nil and long ones among them.
func fractionLists() [][]impl.Fraction {
	lists := append(someFractionPolygons(), noFractionPolygons()...)
	for _, list := range someFractionPolygons()[:30] {
		lists = append(lists, spoiledPolygons(list)...)
	}
	for _, f := range fractionFew() {
		lists = append(lists,
			[]impl.Fraction{f},
			[]impl.Fraction{fraction(0, 1), f, fraction(1, 0)},
			[]impl.Fraction{f, fraction(1, 1), fraction(1, 0)},
			[]impl.Fraction{fraction(0, 1), fraction(1, 1), f},
			slices.Repeat([]impl.Fraction{f}, 12))
	}
	return append(lists, fractionPool(), fareyOf(40), make([]impl.Fraction, 100000), slices.Repeat(fractionPool(), 100))
}

func TestChapter6TakesAllFractions(t *testing.T) {
	for _, f := range append(fractionPool(), wideFractions()...) {
		checkCall(t, "IsFraction", impl.IsFraction, f)
		checkCall(t, "ParentsOf", impl.ParentsOf, f)
		checkCall(t, "PathOfFraction", impl.PathOfFraction, f)
		checkCall(t, "FractionText", impl.FractionText, f)
		for _, n := range append(numberPool(), 40, 41) {
			checkCall(t, "NextFarey", impl.NextFarey, f, n)
		}
	}
}

func TestChapter6TakesAllPairs(t *testing.T) {
	for _, f := range fractionPool() {
		for _, g := range fractionFew() {
			checkCall(t, "CrossOf", impl.CrossOf, f, g)
			checkCall(t, "AreNear", impl.AreNear, f, g)
			checkCall(t, "MediantOf", impl.MediantOf, f, g)
			checkCall(t, "MediantOf", impl.MediantOf, g, f)
		}
	}
}

func TestChapter6TakesAllNumbers(t *testing.T) {
	for _, n := range append(numberPool(), 20, 39, 40, 41) {
		checkCall(t, "FareyList", impl.FareyList, n)
		checkCall(t, "CountFarey", impl.CountFarey, n)
	}
}

func TestChapter6TakesAllTexts(t *testing.T) {
	paths := slices.Concat(allWords(6), longWords(40), longWords(100), noPaths(), textPool())
	paths = append(paths, strings.Repeat("l", 1000000), strings.Repeat("lr", 500000)+"x", strings.Repeat("\x00", 100000))
	for b := range 256 {
		paths = append(paths, string([]byte{'l', byte(b)}), string([]byte{byte(b), 'r'}))
	}
	for _, path := range paths {
		checkCall(t, "FractionOfPath", impl.FractionOfPath, path)
	}
}

func TestChapter6TakesAllQuiddities(t *testing.T) {
	for _, quiddity := range quiddityLists() {
		checkCall(t, "FractionsOf", impl.FractionsOf, quiddity)
	}
	for _, p := range somePolygons() {
		checkCall(t, "FractionsOf", impl.FractionsOf, quiddityOf(p.n, p.ds))
	}
}

func TestChapter6TakesAllLists(t *testing.T) {
	for _, list := range fractionLists() {
		checkCall(t, "IsFractionPolygon", impl.IsFractionPolygon, list)
		checkCall(t, "QuiddityOfFractions", impl.QuiddityOfFractions, list)
		checkCall(t, "NearPairs", impl.NearPairs, list)
	}
}
