package tests

import (
	"math"
	"runtime"
	"slices"
	"strconv"
	"strings"
	"testing"

	"loop.example/g01236/impl"
)

func TestLimitsOfChapter9(t *testing.T) {
	want(t, impl.MaxPuzzle, 9, "MaxPuzzle")
	want(t, impl.MaxSolutions, 300, "MaxSolutions")
}

func TestIsPuzzleOfAllLists(t *testing.T) {
	for _, list := range allLists(5, -2, 5) {
		n := len(list)
		expected := n >= 3 && slices.Min(list) >= 0 && slices.Max(list) <= n-2
		want(t, impl.IsPuzzle(puzzle(list...)), expected, "IsPuzzle ", list)
	}
}

func TestIsPuzzleAndCountGaps(t *testing.T) {
	for _, p := range allKindsOfPuzzles() {
		want(t, impl.IsPuzzle(p), true, "IsPuzzle ", p)
		count, ok := impl.CountGaps(p)
		wantTrue(t, ok, "CountGaps ", p)
		want(t, count, strings.Count(textOf(p), "."), "CountGaps ", p)
	}
	for _, p := range noPuzzles() {
		want(t, impl.IsPuzzle(p), false, "IsPuzzle ", p)
	}
}

func TestPuzzlesThatAreKnown(t *testing.T) {
	known := []struct {
		p        impl.Puzzle
		isPuzzle bool
		gaps     int
	}{
		{impl.Puzzle{}, false, 0},
		{puzzle(0, 0), false, 0},
		{puzzle(0, 0, 0), true, 3},
		{puzzle(1, 1, 1), true, 0},
		{puzzle(1, 0, 1), true, 1},
		{puzzle(1, 2, 1), false, 0},
		{puzzle(1, -1, 1), false, 0},
		{puzzle(2, 2, 2, 2), true, 0},
		{puzzle(0, 3, 0, 0), false, 0},
		{puzzle(7, 0, 0, 0, 0, 0, 0, 0, 0), true, 8},
		{puzzle(8, 0, 0, 0, 0, 0, 0, 0, 0), false, 0},
		{puzzle(0, 0, 0, 0, 0, 0, 0, 0, 0), true, 9},
		{puzzle(0, 0, 0, 0, 0, 0, 0, 0, 0, 0), false, 0},
		{puzzle(0, 1, math.MinInt, 0), false, 0},
		{puzzle(0, 1, math.MaxInt, 0), false, 0},
	}
	for _, k := range known {
		want(t, impl.IsPuzzle(k.p), k.isPuzzle, "IsPuzzle ", k.p)
		count, ok := impl.CountGaps(k.p)
		want(t, ok, k.isPuzzle, "CountGaps ", k.p)
		want(t, count, k.gaps, "CountGaps ", k.p)
	}
}

func TestNothingOfNoPuzzles(t *testing.T) {
	for _, p := range noPuzzles() {
		count, ok := impl.CountGaps(p)
		wantFailedNumber(t, count, ok, "CountGaps ", p)
		for _, quiddity := range [][]int{{1, 1, 1}, {1, 2, 1, 2}, fanNumbers(9), fanNumbers(10), p.Given} {
			is, ok := impl.IsSolution(p, quiddity)
			wantFailedBool(t, is, ok, "IsSolution ", p, quiddity)
		}
		wantNoSolutions(t, p)
		for _, at := range []int{0, 1, len(p.Given) - 1} {
			filled, ok := impl.FillGap(p, at, 1)
			wantFailedPuzzle(t, filled, ok, "FillGap ", p, at)
			opened, ok := impl.OpenGap(p, at)
			wantFailedPuzzle(t, opened, ok, "OpenGap ", p, at)
			turned, ok := impl.TurnPuzzle(p, at)
			wantFailedPuzzle(t, turned, ok, "TurnPuzzle ", p, at)
		}
		text, ok := impl.PuzzleText(p)
		wantFailedText(t, text, ok, "PuzzleText ", p)
	}
}

// wantNoSolutions is for puzzles whose solutions cannot be listed, for whichever reason.
func wantNoSolutions(t *testing.T, p impl.Puzzle) {
	t.Helper()
	all, ok := impl.Solutions(p)
	wantFailedList(t, all, ok, "Solutions ", p)
	count, ok := impl.CountSolutions(p)
	wantFailedNumber(t, count, ok, "CountSolutions ", p)
	wantNoFirstSolution(t, p)
}

// wantNoFirstSolution is for those that have none, too.
func wantNoFirstSolution(t *testing.T, p impl.Puzzle) {
	t.Helper()
	first, ok := impl.FirstSolution(p)
	wantFailedList(t, first, ok, "FirstSolution ", p)
	sure, ok := impl.SureNumbers(p)
	wantFailedList(t, sure, ok, "SureNumbers ", p)
	ds, ok := impl.SureDiagonals(p)
	wantFailedList(t, ds, ok, "SureDiagonals ", p)
	wantNoHint(t, p)
	harder, ok := impl.HarderPuzzle(p)
	wantFailedPuzzle(t, harder, ok, "HarderPuzzle ", p)
}

func wantNoHint(t *testing.T, p impl.Puzzle) {
	t.Helper()
	at, number, ok := impl.HintOf(p)
	wantFailedNumber(t, at, ok, "place of HintOf ", p)
	wantFailedNumber(t, number, ok, "number of HintOf ", p)
}

func wantIsSolution(t *testing.T, p impl.Puzzle, quiddity []int) {
	t.Helper()
	is, ok := impl.IsSolution(p, quiddity)
	wantTrue(t, ok, "IsSolution ", p, quiddity)
	want(t, is, hasNumbersOf(p, quiddity), "IsSolution ", p, quiddity)
}

func TestIsSolutionOfSmallPuzzles(t *testing.T) {
	for _, p := range slices.Concat(smallPuzzles(), []impl.Puzzle{gapsAlone(6), gapsAlone(9)}) {
		for n := 3; n <= 6; n++ {
			for _, quiddity := range allQuiddities()[n] {
				wantIsSolution(t, p, quiddity)
			}
		}
		for _, quiddity := range [][]int{fanNumbers(9), fanNumbers(10), fanNumbers(12)} {
			wantIsSolution(t, p, quiddity)
		}
	}
}

func TestIsSolutionOfWidePuzzles(t *testing.T) {
	for i, p := range append(widePuzzles(), tooManySolutions()) {
		all := allQuiddities()[len(p.Given)]
		for j := i % 7; j < len(all); j += 7 {
			wantIsSolution(t, p, all[j])
		}
	}
}

func TestIsSolutionOfNoQuiddities(t *testing.T) {
	for _, p := range []impl.Puzzle{puzzle(1, 1, 1), gapsAlone(3), gapsAlone(4), puzzle(1, 1, 2, 2), puzzle(2, 2, 2, 2), gapsAlone(5), gapsAlone(6), tooManySolutions()} {
		for _, list := range append(badQuiddities(), p.Given, slices.Repeat([]int{1}, len(p.Given)+1)) {
			if len(list) == 3 && slices.Equal(list, []int{1, 1, 1}) {
				continue
			}
			is, ok := impl.IsSolution(p, list)
			wantFailedBool(t, is, ok, "IsSolution ", p, list)
		}
	}
}

// TestSolutions is promise 9, held against all quiddities.
func TestSolutions(t *testing.T) {
	for _, p := range slices.Concat(solvablePuzzles(), allPuzzles(6)) {
		expected := solutionsOf(p)
		got, ok := impl.Solutions(p)
		wantTrue(t, ok, "Solutions ", p)
		want(t, got, expected, "Solutions ", p)
		count, ok := impl.CountSolutions(p)
		wantTrue(t, ok, "CountSolutions ", p)
		want(t, count, len(expected), "CountSolutions ", p)
		for _, solution := range got {
			want(t, impl.IsQuiddity(solution), true, "IsQuiddity of a solution ", p, solution)
			want(t, hasNumbersOf(p, solution), true, "given numbers of a solution ", p, solution)
			is, _ := impl.IsSolution(p, solution)
			want(t, is, true, "IsSolution of a solution ", p, solution)
		}
		if len(expected) == 0 {
			wantNoFirstSolution(t, p)
			continue
		}
		first, ok := impl.FirstSolution(p)
		wantTrue(t, ok, "FirstSolution ", p)
		want(t, first, expected[0], "FirstSolution ", p)
	}
}

func TestSureNumbersAndHints(t *testing.T) {
	for _, p := range slices.Concat(solvablePuzzles(), allPuzzles(6)) {
		solutions := solutionsOf(p)
		if len(solutions) == 0 {
			continue
		}
		expected := sureOf(solutions)
		sure, ok := impl.SureNumbers(p)
		wantTrue(t, ok, "SureNumbers ", p)
		want(t, sure, expected, "SureNumbers ", p)
		ds, ok := impl.SureDiagonals(p)
		wantTrue(t, ok, "SureDiagonals ", p)
		want(t, ds, sureDiagonalsOf(solutions), "SureDiagonals ", p)
		first := 0
		for first < len(expected) && (p.Given[first] > 0 || expected[first] == 0) {
			first++
		}
		if first == len(expected) {
			wantNoHint(t, p)
			continue
		}
		at, number, ok := impl.HintOf(p)
		wantTrue(t, ok, "HintOf ", p)
		want(t, []int{at, number}, []int{first, expected[first]}, "HintOf ", p)
	}
}

func TestTooManySolutions(t *testing.T) {
	want(t, len(solutionsOf(tooManySolutions())) > impl.MaxSolutions, true, "puzzle with too many solutions")
	wantNoSolutions(t, tooManySolutions())
	// One number less, or any number given, and there are few enough.
	for n := 3; n <= 8; n++ {
		count, ok := impl.CountSolutions(gapsAlone(n))
		wantTrue(t, ok, "CountSolutions of gaps alone ", n)
		want(t, count, len(allQuiddities()[n]), "CountSolutions of gaps alone ", n)
	}
	for at := range 9 {
		for i, expected := range []int{132, 132, 90, 48, 20, 6, 1} {
			count, ok := impl.CountSolutions(withGiven(tooManySolutions(), at, i+1))
			wantTrue(t, ok, "CountSolutions of one number ", at, i+1)
			want(t, count, expected, "CountSolutions of one number ", at, i+1)
		}
	}
}

func TestSolutionsThatAreKnown(t *testing.T) {
	known := []struct {
		text      string
		solutions [][]int
		sure      []int
		ds        []impl.Diagonal
	}{
		{"...", [][]int{{1, 1, 1}}, []int{1, 1, 1}, nil},
		{"111", [][]int{{1, 1, 1}}, []int{1, 1, 1}, nil},
		{"....", [][]int{{1, 2, 1, 2}, {2, 1, 2, 1}}, []int{0, 0, 0, 0}, nil},
		{"1212", [][]int{{1, 2, 1, 2}}, []int{1, 2, 1, 2}, diagonals(1, 3)},
		{"...1", [][]int{{2, 1, 2, 1}}, []int{2, 1, 2, 1}, diagonals(0, 2)},
		{"11..", nil, nil, nil},
		{"2222", nil, nil, nil},
		{"1122", nil, nil, nil},
		{"1....", [][]int{{1, 2, 2, 1, 3}, {1, 3, 1, 2, 2}}, []int{1, 0, 0, 0, 0}, diagonals(1, 4)},
		{"3....", [][]int{{3, 1, 2, 2, 1}}, []int{3, 1, 2, 2, 1}, diagonals(0, 2, 0, 3)},
		{"....3", [][]int{{1, 2, 2, 1, 3}}, []int{1, 2, 2, 1, 3}, diagonals(1, 4, 2, 4)},
		{".1.1..", [][]int{{2, 1, 4, 1, 2, 2}, {3, 1, 3, 1, 3, 1}}, []int{0, 1, 0, 1, 0, 0}, diagonals(0, 2, 2, 4)},
		{".131..", [][]int{{3, 1, 3, 1, 3, 1}}, []int{3, 1, 3, 1, 3, 1}, diagonals(0, 2, 0, 4, 2, 4)},
		{"........7", [][]int{{1, 2, 2, 2, 2, 2, 2, 1, 7}}, []int{1, 2, 2, 2, 2, 2, 2, 1, 7}, diagonals(1, 8, 2, 8, 3, 8, 4, 8, 5, 8, 6, 8)},
		{"6......6.", nil, nil, nil},
	}
	for _, k := range known {
		p, ok := impl.ParsePuzzle(k.text)
		wantTrue(t, ok, "ParsePuzzle ", k.text)
		all, ok := impl.Solutions(p)
		wantTrue(t, ok, "Solutions ", k.text)
		want(t, all, k.solutions, "Solutions ", k.text)
		sure, ok := impl.SureNumbers(p)
		want(t, ok, k.sure != nil, "SureNumbers ", k.text)
		want(t, sure, k.sure, "SureNumbers ", k.text)
		ds, ok := impl.SureDiagonals(p)
		want(t, ok, k.sure != nil, "SureDiagonals ", k.text)
		want(t, ds, k.ds, "SureDiagonals ", k.text)
	}
}

func TestHintsThatAreKnown(t *testing.T) {
	known := []struct {
		text       string
		at, number int
		ok         bool
	}{
		{"...", 0, 1, true},
		{".11", 0, 1, true},
		{"11.", 2, 1, true},
		{"111", 0, 0, false},
		{"1.1.", 1, 2, true},
		{"121.", 3, 2, true},
		{".2..", 0, 1, true},
		{"....", 0, 0, false},
		{"1212", 0, 0, false},
		{"1....", 0, 0, false},
		{"11..", 0, 0, false},
		{"111.", 0, 0, false},
		{"13...", 2, 1, true},
		{".....4", 0, 1, true},
		{"1222..", 4, 1, true},
		{"12.213", 2, 3, false},
		{"122214", 0, 0, false},
		{"12221.", 5, 4, true},
		{".1.1..", 0, 0, false},
		{"1222222..", 7, 1, true},
		{"12222221.", 8, 7, true},
		{".........", 0, 0, false},
	}
	for _, k := range known {
		p, ok := impl.ParsePuzzle(k.text)
		wantTrue(t, ok, "ParsePuzzle ", k.text)
		if !k.ok {
			wantNoHint(t, p)
			continue
		}
		at, number, ok := impl.HintOf(p)
		wantTrue(t, ok, "HintOf ", k.text)
		want(t, []int{at, number}, []int{k.at, k.number}, "HintOf ", k.text)
	}
}

func TestFillGapAndOpenGap(t *testing.T) {
	for _, p := range allKindsOfPuzzles() {
		n := len(p.Given)
		for at := range n {
			for number := -1; number <= n; number++ {
				filled, ok := impl.FillGap(p, at, number)
				if p.Given[at] != 0 || number < 1 || number > n-2 {
					wantFailedPuzzle(t, filled, ok, "FillGap ", p, at, number)
					continue
				}
				wantTrue(t, ok, "FillGap ", p, at, number)
				want(t, filled, withGiven(p, at, number), "FillGap ", p, at, number)
				back, ok := impl.OpenGap(filled, at)
				wantTrue(t, ok, "OpenGap ", filled, at)
				want(t, back, p, "OpenGap ", filled, at)
			}
			opened, ok := impl.OpenGap(p, at)
			if p.Given[at] == 0 {
				wantFailedPuzzle(t, opened, ok, "OpenGap at a gap ", p, at)
				continue
			}
			wantTrue(t, ok, "OpenGap ", p, at)
			want(t, opened, withGiven(p, at, 0), "OpenGap ", p, at)
		}
	}
}

func TestGapsAtOtherPlaces(t *testing.T) {
	for _, p := range allKindsOfPuzzles() {
		n := len(p.Given)
		for _, at := range []int{math.MinInt, -n, -1, n, n + 1, 2 * n, math.MaxInt} {
			for _, number := range []int{0, 1, n - 2} {
				filled, ok := impl.FillGap(p, at, number)
				wantFailedPuzzle(t, filled, ok, "FillGap ", p, at, number)
			}
			opened, ok := impl.OpenGap(p, at)
			wantFailedPuzzle(t, opened, ok, "OpenGap ", p, at)
		}
		for _, number := range []int{math.MinInt, -7, 8, 10, math.MaxInt} {
			filled, ok := impl.FillGap(p, 0, number)
			wantFailedPuzzle(t, filled, ok, "FillGap ", p, 0, number)
		}
	}
}

func TestHarderPuzzle(t *testing.T) {
	for i, p := range slices.Concat(allKindsOfPuzzles(), allPuzzles(6)) {
		solutions := solutionsOf(p)
		if len(solutions) != 1 {
			harder, ok := impl.HarderPuzzle(p)
			wantFailedPuzzle(t, harder, ok, "HarderPuzzle ", p)
			continue
		}
		// Trying all quiddities so often takes long, so that only some of the wide puzzles are held against it.
		if len(p.Given) > 6 && i%3 != 0 {
			continue
		}
		harder, ok := impl.HarderPuzzle(p)
		wantTrue(t, ok, "HarderPuzzle ", p)
		want(t, harder, harderOf(p), "HarderPuzzle ", p)
		want(t, solutionsOf(harder), solutions, "solutions of HarderPuzzle ", p)
		again, ok := impl.HarderPuzzle(harder)
		wantTrue(t, ok, "HarderPuzzle again ", harder)
		want(t, again, harder, "HarderPuzzle again ", harder)
	}
}

func TestHarderPuzzlesThatAreKnown(t *testing.T) {
	known := []struct {
		text, harder string
	}{
		{"111", "..."},
		{"..1", "..."},
		{"...", "..."},
		{"1212", "...2"},
		{"2121", "...1"},
		{"1...", "1..."},
		{"....", ""},
		{"2222", ""},
		{"1....", ""},
		{"31221", "...21"},
		{"3....", "3...."},
		{"3...1", "3...."},
		{"13...", ".3..."},
		{"........7", "........7"},
		{"7........", "7........"},
		{".........", ""},
		{"1........", ""},
	}
	for _, k := range known {
		p, ok := impl.ParsePuzzle(k.text)
		wantTrue(t, ok, "ParsePuzzle ", k.text)
		harder, ok := impl.HarderPuzzle(p)
		want(t, ok, k.harder != "", "HarderPuzzle ", k.text)
		text, _ := impl.PuzzleText(harder)
		want(t, text, k.harder, "HarderPuzzle ", k.text)
	}
}

func someSeeds() []int {
	seeds := []int{0, 1, 2, 3, 9997, 9998, 9999}
	for seed := 17; seed < 10000; seed += 83 {
		seeds = append(seeds, seed)
	}
	return seeds
}

func TestMakePuzzle(t *testing.T) {
	for n := 3; n <= 9; n++ {
		for _, seed := range someSeeds() {
			whole, ok := impl.MakePuzzle(n, 0, seed)
			wantTrue(t, ok, "MakePuzzle without gaps ", n, seed)
			want(t, impl.IsQuiddity(whole.Given), true, "MakePuzzle without gaps ", n, seed)
			for gaps := range n + 1 {
				p, ok := impl.MakePuzzle(n, gaps, seed)
				wantTrue(t, ok, "MakePuzzle ", n, gaps, seed)
				want(t, p, madeBy(n, gaps, seed), "MakePuzzle ", n, gaps, seed)
				count, _ := impl.CountGaps(p)
				want(t, count, gaps, "gaps of MakePuzzle ", n, gaps, seed)
				is, _ := impl.IsSolution(p, whole.Given)
				want(t, is, true, "IsSolution of MakePuzzle ", n, gaps, seed)
			}
		}
	}
}

func TestMakePuzzlesThatAreKnown(t *testing.T) {
	known := []struct {
		n, gaps, seed int
		text          string
	}{
		{3, 0, 0, "111"},
		{3, 3, 9999, "..."},
		{4, 0, 0, "1212"},
		{5, 0, 0, "12213"},
		{5, 1, 0, "122.3"},
		{5, 2, 0, "12..3"},
		{9, 9, 1234, "........."},
	}
	for _, k := range known {
		p, ok := impl.MakePuzzle(k.n, k.gaps, k.seed)
		wantTrue(t, ok, "MakePuzzle ", k.n, k.gaps, k.seed)
		want(t, textOf(p), k.text, "MakePuzzle ", k.n, k.gaps, k.seed)
	}
}

func TestMakePuzzleOfOtherNumbers(t *testing.T) {
	for _, n := range []int{math.MinInt, -3, -1, 0, 1, 2, 10, 11, 12, 13, math.MaxInt} {
		for _, gaps := range []int{math.MinInt, -1, 0, 1, n, math.MaxInt} {
			p, ok := impl.MakePuzzle(n, gaps, 0)
			wantFailedPuzzle(t, p, ok, "MakePuzzle ", n, gaps, 0)
		}
	}
	for n := 3; n <= 9; n++ {
		for _, gaps := range []int{math.MinInt, -n, -1, n + 1, 2 * n, math.MaxInt} {
			p, ok := impl.MakePuzzle(n, gaps, 0)
			wantFailedPuzzle(t, p, ok, "MakePuzzle ", n, gaps, 0)
		}
		for _, seed := range []int{math.MinInt, -10000, -1, 10000, 10007, math.MaxInt} {
			for gaps := range n + 1 {
				p, ok := impl.MakePuzzle(n, gaps, seed)
				wantFailedPuzzle(t, p, ok, "MakePuzzle ", n, gaps, seed)
			}
		}
	}
}

func TestTurnPuzzle(t *testing.T) {
	for _, p := range allKindsOfPuzzles() {
		n := len(p.Given)
		for k := range n {
			turned, ok := impl.TurnPuzzle(p, k)
			wantTrue(t, ok, "TurnPuzzle ", p, k)
			want(t, len(turned.Given), n, "TurnPuzzle ", p, k)
			for at, number := range turned.Given {
				want(t, number, p.Given[(k+at)%n], "TurnPuzzle ", p, k, at)
			}
		}
		for _, k := range []int{math.MinInt, -n, -1, n, n + 1, 2 * n, math.MaxInt} {
			turned, ok := impl.TurnPuzzle(p, k)
			wantFailedPuzzle(t, turned, ok, "TurnPuzzle ", p, k)
		}
	}
	five := puzzle(1, 3, 0, 2, 0)
	same, _ := impl.TurnPuzzle(five, 0)
	want(t, same, five, "TurnPuzzle by 0")
	last, _ := impl.TurnPuzzle(five, 4)
	want(t, last, puzzle(0, 1, 3, 0, 2), "TurnPuzzle by n - 1")
}

func TestPuzzleTextAndParsePuzzle(t *testing.T) {
	for _, p := range slices.Concat(allKindsOfPuzzles(), allPuzzles(6)) {
		text, ok := impl.PuzzleText(p)
		wantTrue(t, ok, "PuzzleText ", p)
		want(t, text, textOf(p), "PuzzleText ", p)
		back, ok := impl.ParsePuzzle(text)
		wantTrue(t, ok, "ParsePuzzle ", text)
		want(t, back, p, "ParsePuzzle ", text)
	}
}

func TestParsePuzzleOfBadTexts(t *testing.T) {
	texts := []string{
		"", ".", "1", "..", "11", "..........", "1222222218", "0..", ".0.", "..0", "000", "2..", "..2", "3...", ".....5", "8........", ".......9.",
		"...\n", " ...", "1 1", "1,1,1", "1-1", "1/1", "1:1", "1x1", "+11", "-11", "1e1", "1\x001", "\xff..", "..\x80", "١١١", "…", "１１１",
		strings.Repeat(".", 100000), strings.Repeat("1", 100000), strings.Repeat("\x00", 9),
	}
	for _, s := range texts {
		got, ok := impl.ParsePuzzle(s)
		wantFailedPuzzle(t, got, ok, "ParsePuzzle ", strconv.Quote(s[:min(len(s), 60)]))
	}
}

func TestParsePuzzleOfChangedTexts(t *testing.T) {
	for _, s := range []string{"...", "111", "1.1.", "12213", "222222", "........7", "1........", "712222221"} {
		for _, changed := range changedTexts(s) {
			checkParsedPuzzle(t, changed)
		}
	}
}

func checkParsedPuzzle(t *testing.T, s string) {
	t.Helper()
	got, ok := impl.ParsePuzzle(s)
	if !isTextOfPuzzle(s) {
		wantFailedPuzzle(t, got, ok, "ParsePuzzle ", strconv.Quote(s))
		return
	}
	wantTrue(t, ok, "ParsePuzzle ", strconv.Quote(s))
	want(t, textOf(got), s, "ParsePuzzle ", strconv.Quote(s))
}

// TestNoSolverIsLeftBehind is for solvers that come to their end and for those that are stopped.
func TestNoSolverIsLeftBehind(t *testing.T) {
	before := runtime.NumGoroutine()
	for range 100 {
		impl.Solutions(puzzle(3, 0, 0, 0, 0))
		impl.Solutions(puzzle(2, 2, 2, 2))
		impl.Solutions(tooManySolutions())
		impl.HarderPuzzle(puzzle(fanNumbers(7)...))
		impl.HarderPuzzle(tooManySolutions())
	}
	wantNoGoroutines(t, before)
}

func TestExamplesOfChapter9(t *testing.T) {
	square, _ := impl.ParsePuzzle("1.1.")
	all, _ := impl.Solutions(square)
	want(t, all, [][]int{{1, 2, 1, 2}}, "Solutions 1.1.")
	at, number, _ := impl.HintOf(square)
	want(t, []int{at, number}, []int{1, 2}, "HintOf 1.1.")
	fan, _ := impl.ParsePuzzle("3....")
	all, _ = impl.Solutions(fan)
	want(t, all, [][]int{{3, 1, 2, 2, 1}}, "Solutions 3....")
	ear, _ := impl.ParsePuzzle("1....")
	all, _ = impl.Solutions(ear)
	want(t, all, [][]int{{1, 2, 2, 1, 3}, {1, 3, 1, 2, 2}}, "Solutions 1....")
}
