package tests

import (
	"math"
	"slices"
	"strings"
	"sync"
	"testing"

	"loop.example/g01236/impl"
)

// The helpers of this file try all quiddities, which are told by the triangles of polygons that are made by gluing ears.

// allQuiddities has, for each number of corners, 3..9, all quiddities, in order.
var allQuiddities = sync.OnceValue(func() map[int][][]int {
	all := map[int][][]int{}
	for n := 3; n <= 9; n++ {
		for _, p := range gluedPolygons()[n] {
			all[n] = append(all[n], quiddityOf(n, p.ds))
		}
		slices.SortFunc(all[n], slices.Compare)
	}
	return all
})

// diagonalsByQuiddity has the triangulation of each of these quiddities, with its numbers as the key.
var diagonalsByQuiddity = sync.OnceValue(func() map[string][]impl.Diagonal {
	all := map[string][]impl.Diagonal{}
	for n := 3; n <= 9; n++ {
		for _, p := range gluedPolygons()[n] {
			all[numbersText(quiddityOf(n, p.ds))] = p.ds
		}
	}
	return all
})

func puzzle(given ...int) impl.Puzzle {
	return impl.Puzzle{Given: given}
}

func gapsAlone(n int) impl.Puzzle {
	return puzzle(make([]int, n)...)
}

// withGiven is the puzzle with another number at a place, and memory of its own.
func withGiven(p impl.Puzzle, at int, number int) impl.Puzzle {
	given := slices.Clone(p.Given)
	given[at] = number
	return puzzle(given...)
}

func hasNumbersOf(p impl.Puzzle, quiddity []int) bool {
	if len(quiddity) != len(p.Given) {
		return false
	}
	for at, number := range p.Given {
		if number > 0 && quiddity[at] != number {
			return false
		}
	}
	return true
}

// solutionsOf are all, however many there are.
func solutionsOf(p impl.Puzzle) [][]int {
	return slices.DeleteFunc(slices.Clone(allQuiddities()[len(p.Given)]), func(quiddity []int) bool {
		return !hasNumbersOf(p, quiddity)
	})
}

// sureOf tells the number of each place that is the only one there in all solutions.
func sureOf(solutions [][]int) []int {
	sure := make([]int, len(solutions[0]))
	for at := range sure {
		found := map[int]bool{}
		for _, solution := range solutions {
			found[solution[at]] = true
		}
		if len(found) == 1 {
			sure[at] = solutions[0][at]
		}
	}
	return sure
}

// sureDiagonalsOf counts how many triangulations have each diagonal.
func sureDiagonalsOf(solutions [][]int) []impl.Diagonal {
	counts := map[impl.Diagonal]int{}
	for _, solution := range solutions {
		for _, d := range diagonalsByQuiddity()[numbersText(solution)] {
			counts[d]++
		}
	}
	return slices.DeleteFunc(diagonalsOf(len(solutions[0])), func(d impl.Diagonal) bool {
		return counts[d] < len(solutions)
	})
}

// allPuzzles are all of n numbers.
func allPuzzles(n int) []impl.Puzzle {
	lists := [][]int{nil}
	for range n {
		var longer [][]int
		for _, list := range lists {
			for number := range n - 1 {
				longer = append(longer, append(slices.Clone(list), number))
			}
		}
		lists = longer
	}
	var all []impl.Puzzle
	for _, list := range lists {
		all = append(all, puzzle(list...))
	}
	return all
}

func smallPuzzles() []impl.Puzzle {
	return slices.Concat(allPuzzles(3), allPuzzles(4), allPuzzles(5))
}

// partsOfQuiddity are puzzles that have some of the numbers of a quiddity: all, those ahead of each place and behind it, each
// second and each third one.
func partsOfQuiddity(quiddity []int) []impl.Puzzle {
	keep := func(isKept func(at int) bool) impl.Puzzle {
		p := puzzle(slices.Clone(quiddity)...)
		for at := range quiddity {
			if !isKept(at) {
				p.Given[at] = 0
			}
		}
		return p
	}
	parts := []impl.Puzzle{keep(func(int) bool { return true })}
	for place := 1; place < len(quiddity); place++ {
		parts = append(parts, keep(func(at int) bool { return at < place }), keep(func(at int) bool { return at >= place }))
	}
	for _, step := range []int{2, 3} {
		for from := range step {
			parts = append(parts, keep(func(at int) bool { return at%step == from }))
		}
	}
	return parts
}

// widePuzzles are some of 6..9 numbers: parts of quiddities, the same with a number changed, and those of one or two numbers.
func widePuzzles() []impl.Puzzle {
	var all []impl.Puzzle
	for n := 6; n <= 9; n++ {
		for i := 0; i < len(allQuiddities()[n]); i += (n - 5) * (n - 5) {
			for j, p := range partsOfQuiddity(allQuiddities()[n][i]) {
				at := (i + j) % n
				all = append(all, p, withGiven(p, at, p.Given[at]%(n-2)+1))
			}
		}
		for at := range n {
			for number := 1; number <= n-2; number++ {
				one := withGiven(gapsAlone(n), at, number)
				all = append(all, one, withGiven(one, (at+1)%n, 1), withGiven(one, (at+n/2)%n, number))
			}
		}
	}
	return all
}

// solvablePuzzles may have no solution, but have none too many: the only puzzle that has is tooManySolutions.
func solvablePuzzles() []impl.Puzzle {
	return slices.Concat(smallPuzzles(), widePuzzles(), []impl.Puzzle{gapsAlone(6), gapsAlone(7), gapsAlone(8)})
}

func tooManySolutions() impl.Puzzle {
	return gapsAlone(9)
}

func allKindsOfPuzzles() []impl.Puzzle {
	return append(solvablePuzzles(), tooManySolutions())
}

// noPuzzles have a number too many or too few, or one that is too great or too small.
func noPuzzles() []impl.Puzzle {
	bad := []impl.Puzzle{{}, puzzle(), puzzle(0), puzzle(1), puzzle(0, 0), puzzle(1, 1), puzzle(fanNumbers(10)...), gapsAlone(10), gapsAlone(1000)}
	for n := 3; n <= 9; n++ {
		for at := range n {
			for _, number := range []int{math.MinInt, -2, -1, n - 1, n, 10, math.MaxInt} {
				bad = append(bad, withGiven(gapsAlone(n), at, number), withGiven(puzzle(fanNumbers(n)...), at, number))
			}
		}
	}
	return bad
}

// harderOf tries all numbers, from the first one on.
func harderOf(p impl.Puzzle) impl.Puzzle {
	for at := range p.Given {
		if opened := withGiven(p, at, 0); len(solutionsOf(opened)) == 1 {
			p = opened
		}
	}
	return p
}

// madeBy glues ears to polygons and counts places that are no gaps, by numbers that each follow the one ahead of it.
func madeBy(n int, gaps int, seed int) impl.Puzzle {
	var numbers []int
	for z := seed; len(numbers) < n+gaps; {
		z = (187*z + 3301) % 10007
		numbers = append(numbers, z)
	}
	whole := polygon{3, nil}
	for whole.n < n {
		whole = glued(whole, numbers[0]%whole.n+1)
		numbers = numbers[1:]
	}
	p := puzzle(quiddityOf(n, whole.ds)...)
	for opened := range gaps {
		skip := numbers[opened] % (n - opened)
		for at := range p.Given {
			if p.Given[at] == 0 {
				continue
			}
			if skip == 0 {
				p.Given[at] = 0
				break
			}
			skip--
		}
	}
	return p
}

// textOf goes sign by sign.
func textOf(p impl.Puzzle) string {
	var text strings.Builder
	for _, number := range p.Given {
		if number == 0 {
			text.WriteString(".")
		} else {
			text.WriteString(numbersText([]int{number}))
		}
	}
	return text.String()
}

// isTextOfPuzzle tells the texts by their bytes.
func isTextOfPuzzle(s string) bool {
	if len(s) < 3 || len(s) > 9 {
		return false
	}
	for i := range len(s) {
		if s[i] != '.' && (s[i] < '1' || int(s[i]-'0') > len(s)-2) {
			return false
		}
	}
	return true
}

func wantFailedPuzzle(t *testing.T, got impl.Puzzle, ok bool, what ...any) {
	t.Helper()
	wantFailedList(t, got.Given, ok, what...)
}
