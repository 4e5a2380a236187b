package tests

import (
	"slices"
	"strings"
	"testing"

	"loop.example/g01236/impl"
)

// anyDesks are desks and others, of nil, short and long lists.
func anyDesks() []impl.Desk {
	all := slices.Concat(noDesks(), fewDesks(), []impl.Desk{{Quiddity: numberPool()}, {Quiddity: make([]int, 100000)}})
	for _, list := range quiddityLists() {
		all = append(all, desk(3, list...))
	}
	return all
}

func TestChapter10TakesAllDesks(t *testing.T) {
	for _, d := range slices.Concat(anyDesks(), someDesks()) {
		checkCall(t, "IsDesk", impl.IsDesk, d)
		for _, line := range append(sampleLines(), "", "\n", "fly", "turn 0", "glue 99", "flip 0 2", "quiddity 1,1,2", "solve ") {
			checkCall(t, "DeskLine", impl.DeskLine, d, line)
		}
	}
}

func TestChapter10TakesAllLines(t *testing.T) {
	lines := slices.Concat(linesWithNumbers(), lineVariants(), textPool(), noScripts(), []string{strings.Repeat("1,", 1000000), "solve " + strings.Repeat(".", 1000000)})
	for _, line := range lines {
		checkCall(t, "DeskLine", impl.DeskLine, impl.FirstDesk(), line)
		checkCall(t, "DeskLine", impl.DeskLine, impl.Desk{}, line)
	}
}

func TestChapter10TakesAllScripts(t *testing.T) {
	scripts := slices.Concat(mixedScripts()[:60], noScripts(), textPool())
	for _, line := range slices.Concat(sampleLines(), textPool()) {
		scripts = append(scripts, line+"\n", line+"\r\n", strings.Repeat(line+"\n", 50))
	}
	for _, script := range scripts {
		checkCall(t, "RunScript", impl.RunScript, script)
		checkCall(t, "DeskAfter", impl.DeskAfter, script)
		checkCall(t, "FailedLines", impl.FailedLines, script)
	}
}

func TestFirstDeskIsNewEachTime(t *testing.T) {
	first := impl.FirstDesk()
	first.Quiddity = first.Quiddity[:cap(first.Quiddity)]
	for at := range first.Quiddity {
		first.Quiddity[at] = 99
	}
	want(t, impl.FirstDesk(), desk(0, 1, 2, 1, 2), "FirstDesk again")
	after, _ := impl.DeskAfter("")
	want(t, after, desk(0, 1, 2, 1, 2), "DeskAfter no lines")
}
