package tests

import (
	"slices"
	"strings"
	"testing"

	"loop.example/g01236/impl"
)

// puzzleFew are so few that they can be taken together with many other arguments.
func puzzleFew() []impl.Puzzle {
	few := []impl.Puzzle{{}, {Given: []int{}}, puzzle(numberPool()...), gapsAlone(5000), puzzle(1, 3, 0, 0, 2), puzzle(1, 3, 1, 2, 2), puzzle(2, 2, 2, 2)}
	for n := 2; n <= 10; n++ {
		few = append(few, gapsAlone(n), puzzle(fanNumbers(n+1)...))
	}
	return few
}

func checkPuzzleCalls(t *testing.T, p impl.Puzzle) {
	t.Helper()
	checkCall(t, "IsPuzzle", impl.IsPuzzle, p)
	checkCall(t, "CountGaps", impl.CountGaps, p)
	checkCall(t, "Solutions", impl.Solutions, p)
	checkCall(t, "CountSolutions", impl.CountSolutions, p)
	checkCall(t, "FirstSolution", impl.FirstSolution, p)
	checkCall(t, "SureNumbers", impl.SureNumbers, p)
	checkCall(t, "SureDiagonals", impl.SureDiagonals, p)
	checkCall(t, "HintOf", impl.HintOf, p)
	checkCall(t, "HarderPuzzle", impl.HarderPuzzle, p)
	checkCall(t, "PuzzleText", impl.PuzzleText, p)
}

func checkPuzzleCallsWithNumbers(t *testing.T, p impl.Puzzle) {
	t.Helper()
	for _, at := range numberPool() {
		checkCall(t, "OpenGap", impl.OpenGap, p, at)
		checkCall(t, "TurnPuzzle", impl.TurnPuzzle, p, at)
		for _, number := range numberPool() {
			checkCall(t, "FillGap", impl.FillGap, p, at, number)
		}
	}
}

func TestChapter9TakesAllPuzzles(t *testing.T) {
	puzzles := slices.Concat(puzzleFew(), noPuzzles(), allPuzzles(3), allPuzzles(4))
	for _, list := range quiddityLists() {
		puzzles = append(puzzles, puzzle(list...))
	}
	for i, p := range allKindsOfPuzzles() {
		if i%7 == 0 {
			puzzles = append(puzzles, p)
		}
	}
	for _, p := range puzzles {
		checkPuzzleCalls(t, p)
	}
}

func TestChapter9TakesAllPuzzlesWithNumbers(t *testing.T) {
	for _, p := range puzzleFew() {
		checkPuzzleCallsWithNumbers(t, p)
	}
	for i, p := range append(noPuzzles(), allKindsOfPuzzles()...) {
		if i%50 == 0 {
			checkPuzzleCallsWithNumbers(t, p)
		}
	}
}

func TestChapter9TakesAllQuiddities(t *testing.T) {
	for _, p := range puzzleFew() {
		for _, list := range append(quiddityLists(), p.Given, fanNumbers(len(p.Given)+3)) {
			checkCall(t, "IsSolution", impl.IsSolution, p, list)
		}
	}
}

func TestChapter9TakesAllNumbers(t *testing.T) {
	for _, n := range numberPool() {
		for _, gaps := range append(numberPool(), n-1, n, n+1) {
			for _, seed := range append(numberPool(), 9998, 9999, 10000, 10007) {
				checkCall(t, "MakePuzzle", impl.MakePuzzle, n, gaps, seed)
			}
		}
	}
}

func TestChapter9TakesAllTexts(t *testing.T) {
	texts := append(textPool(), "...", "1.1.", "3....", "111111111", "712222221", ".........", "..........", strings.Repeat(".", 1000000))
	for b := range 256 {
		texts = append(texts, "1."+string([]byte{byte(b)}), string([]byte{byte(b), byte(b), byte(b)}))
	}
	for _, s := range texts {
		checkCall(t, "ParsePuzzle", impl.ParsePuzzle, s)
	}
}
