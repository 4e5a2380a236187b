package tests

import (
	"slices"
	"strconv"
	"strings"
	"testing"

	"loop.example/g01236/impl"
)

func TestLimitsOfChapter10(t *testing.T) {
	want(t, impl.MaxScript, 3000, "MaxScript")
	want(t, impl.MaxLines, 50, "MaxLines")
}

func TestFirstDesk(t *testing.T) {
	want(t, impl.FirstDesk(), desk(0, 1, 2, 1, 2), "FirstDesk")
	want(t, impl.IsDesk(impl.FirstDesk()), true, "IsDesk of FirstDesk")
}

func TestIsDesk(t *testing.T) {
	for _, d := range slices.Concat(someDesks(), fewDesks()) {
		want(t, impl.IsDesk(d), true, "IsDesk ", d)
	}
	for _, d := range noDesks() {
		want(t, impl.IsDesk(d), false, "IsDesk ", d)
	}
}

func TestDesksThatAreKnown(t *testing.T) {
	known := []struct {
		d      impl.Desk
		isDesk bool
	}{
		{impl.Desk{}, false},
		{desk(0), false},
		{desk(0, 1, 1), false},
		{desk(0, 1, 1, 1), true},
		{desk(-1, 1, 1, 1), false},
		{desk(999999, 1, 1, 1), true},
		{desk(1000000, 1, 1, 1), false},
		{desk(0, 1, 1, 2), false},
		{desk(0, 1, 2, 2, 1), false},
		{desk(0, fanNumbers(12)...), true},
		{desk(0, fanNumbers(13)...), false},
	}
	for _, k := range known {
		want(t, impl.IsDesk(k.d), k.isDesk, "IsDesk ", k.d)
	}
}

// TestEffectsThatAreKnown is for lines that change a quiddity; without one behind it a line fails, with the reply no or what.
func TestEffectsThatAreKnown(t *testing.T) {
	square, triangle, widest := []int{1, 2, 1, 2}, []int{1, 1, 1}, fanNumbers(12)
	known := []struct {
		quiddity []int
		line     string
		reply    string
	}{
		{square, "quiddity 3,1,2,2,1", "3,1,2,2,1"},
		{square, "quiddity 1,1,1", "1,1,1"},
		{square, "quiddity 1,2,1,2", "1,2,1,2"},
		{square, "quiddity " + numbersText(fanNumbers(12)), "10,1,2,2,2,2,2,2,2,2,2,1"},
		{square, "quiddity " + numbersText(fanNumbers(13)), "no"},
		{square, "quiddity 1,1,2", "no"},
		{square, "quiddity 1,1", "no"},
		{square, "quiddity 1", "no"},
		{square, "quiddity 0", "no"},
		{square, "quiddity 999999", "no"},
		{square, "quiddity 1,1,999999", "no"},
		{square, "quiddity 1,1,1000000", "what"},
		{square, "quiddity 1,1,01", "what"},
		{square, "quiddity 1,1,-1", "what"},
		{square, "quiddity 1,1,+1", "what"},
		{square, "quiddity 1,1,1,", "what"},
		{square, "quiddity ,1,1,1", "what"},
		{square, "quiddity 1,,1,1", "what"},
		{square, "quiddity ,", "what"},
		{square, "quiddity ", "what"},
		{square, "quiddity", "what"},
		{square, "quiddity 1, 1,1", "what"},
		{square, "quiddity 1 1 1", "what"},
		{square, "glue 0", "no"},
		{square, "glue 1", "2,1,3,1,2"},
		{square, "glue 2", "1,3,1,2,2"},
		{square, "glue 4", "2,2,1,3,1"},
		{square, "glue 5", "no"},
		{square, "glue 999999", "no"},
		{square, "glue 1000000", "what"},
		{square, "glue 01", "what"},
		{square, "glue -1", "what"},
		{square, "glue +1", "what"},
		{square, "glue ", "what"},
		{square, "glue", "what"},
		{square, "glue  1", "what"},
		{square, "glue 1 ", "what"},
		{square, "glue 1 1", "what"},
		{square, "glue 1,1", "what"},
		{square, "glue 9 x", "what"},
		{triangle, "glue 3", "2,1,2,1"},
		{widest, "glue 1", "no"},
		{square, "cut 0", "1,1,1"},
		{square, "cut 1", "no"},
		{square, "cut 2", "1,1,1"},
		{square, "cut 4", "no"},
		{square, "cut 00", "what"},
		{square, "cut", "what"},
		{triangle, "cut 0", "no"},
		{widest, "cut 11", "9,1,2,2,2,2,2,2,2,2,1"},
		{square, "turn 0", "1,2,1,2"},
		{square, "turn 1", "2,1,2,1"},
		{square, "turn 3", "2,1,2,1"},
		{square, "turn 4", "no"},
		{square, "turn", "what"},
		{square, "turn x", "what"},
		{triangle, "turn 2", "1,1,1"},
		{triangle, "turn 3", "no"},
		{widest, "turn 2", "2,1,10,1,2,2,2,2,2,2,2,2"},
		{square, "mirror", "2,1,2,1"},
		{square, "mirror ", "what"},
		{square, "mirror 0", "what"},
		{triangle, "mirror", "1,1,1"},
		{widest, "mirror", "1,2,2,2,2,2,2,2,2,2,1,10"},
		{square, "flip 1 3", "2,1,2,1"},
		{square, "flip 3 1", "no"},
		{square, "flip 0 2", "no"},
		{square, "flip 1 1", "no"},
		{square, "flip 0 3", "no"},
		{square, "flip 1 999999", "no"},
		{square, "flip 1 1000000", "what"},
		{square, "flip 1 03", "what"},
		{square, "flip 1", "what"},
		{square, "flip 1 3 ", "what"},
		{square, "flip 1  3", "what"},
		{square, "flip 1-3", "what"},
		{square, "flip 1,3", "what"},
		{triangle, "flip 0 2", "no"},
		{widest, "flip 0 2", "9,2,1,3,2,2,2,2,2,2,2,1"},
		{square, "fan 3 2", "1,1,1"},
		{square, "fan 4 0", "2,1,2,1"},
		{square, "fan 5 0", "3,1,2,2,1"},
		{square, "fan 12 11", "1,2,2,2,2,2,2,2,2,2,1,10"},
		{square, "fan 12 12", "no"},
		{square, "fan 13 0", "no"},
		{square, "fan 2 0", "no"},
		{square, "fan 0 0", "no"},
		{square, "fan 5", "what"},
		{square, "fan 5 0 0", "what"},
		{square, "fan 5 -0", "what"},
		{widest, "fan 3 0", "1,1,1"},
	}
	for _, k := range known {
		checkEffect(t, desk(7, k.quiddity...), k.line, k.reply)
	}
}

func checkEffect(t *testing.T, d impl.Desk, line string, expected string) {
	t.Helper()
	behind, reply, ok := impl.DeskLine(d, line)
	wantTrue(t, ok, "DeskLine ", d, line)
	want(t, reply, expected, "reply to ", d, line)
	if expected == "no" || expected == "what" {
		want(t, behind, d, "desk behind ", d, line)
		return
	}
	want(t, behind.Changes, d.Changes+1, "Changes behind ", d, line)
	want(t, numbersText(behind.Quiddity), expected, "Quiddity behind ", d, line)
}

func TestRepliesThatAreKnown(t *testing.T) {
	square, triangle, widest := []int{1, 2, 1, 2}, []int{1, 1, 1}, fanNumbers(12)
	known := []struct {
		quiddity []int
		line     string
		reply    string
	}{
		{square, "show", "1,2,1,2"},
		{square, "show ", "what"},
		{square, " show", "what"},
		{square, "show 1", "what"},
		{triangle, "show", "1,1,1"},
		{widest, "show", "10,1,2,2,2,2,2,2,2,2,2,1"},
		{square, "changes", "7"},
		{square, "changes 7", "what"},
		{square, "cuts", "1-3"},
		{square, "cuts 1", "what"},
		{triangle, "cuts", "."},
		{widest, "cuts", "0-2,0-3,0-4,0-5,0-6,0-7,0-8,0-9,0-10"},
		{square, "ears", "0,2"},
		{square, "ears ", "what"},
		{triangle, "ears", "0,1,2"},
		{widest, "ears", "1,11"},
		{square, "row 0", "no"},
		{square, "row 1", "2,1,2,1"},
		{square, "row 2", "no"},
		{square, "row", "what"},
		{square, "row 1 1", "what"},
		{triangle, "row 0", "no"},
		{triangle, "row 1", "no"},
		{widest, "row 9", "1,10,1,2,2,2,2,2,2,2,2,2"},
		{widest, "row 10", "no"},
		{square, "entry 0 0", "0"},
		{square, "entry 0 1", "1"},
		{square, "entry 0 2", "2"},
		{square, "entry 1 3", "1"},
		{square, "entry 0 4", "0"},
		{square, "entry 0 5", "no"},
		{square, "entry 1 0", "no"},
		{square, "entry 1000 1002", "2"},
		{square, "entry 1001 1003", "no"},
		{square, "entry 999999 999999", "no"},
		{square, "entry 0 1000000", "what"},
		{square, "entry 0", "what"},
		{square, "entry 0 2 2", "what"},
		{square, "entry 0  2", "what"},
		{triangle, "entry 2 5", "0"},
		{widest, "entry 11 13", "10"},
		{square, "cont 5", "5"},
		{square, "cont 0", "0"},
		{square, "cont 0,5", "-1"},
		{square, "cont 1,1,1", "-1"},
		{square, "cont 1,1,30", "-1"},
		{square, "cont 2,3,4", "18"},
		{square, "cont 0,0,30", "-30"},
		{square, "cont 2,2,2,2,2,2,2,2,2,2", "11"},
		{square, "cont 2,2,2,2,2,2,2,2,2,2,2", "no"},
		{square, "cont 30", "30"},
		{square, "cont 31", "no"},
		{square, "cont 999999", "no"},
		{square, "cont 1000000", "what"},
		{square, "cont -1", "what"},
		{square, "cont 2,3,", "what"},
		{square, "cont ", "what"},
		{square, "cont", "what"},
		{square, "cont 2 3", "what"},
		{square, "minus 7 3", "3,2,2"},
		{square, "minus 1 2", "1,2"},
		{square, "minus 1 1", "1"},
		{square, "minus 30 1", "30"},
		{square, "minus 31 1", "no"},
		{square, "minus 11 10", "2,2,2,2,2,2,2,2,2,2"},
		{square, "minus 12 11", "no"},
		{square, "minus 4 2", "no"},
		{square, "minus 0 1", "no"},
		{square, "minus 1 0", "no"},
		{square, "minus 999999 100000", "no"},
		{square, "minus 1000000 999999", "what"},
		{square, "minus 7", "what"},
		{square, "minus 7/3", "what"},
		{square, "minus -7 3", "what"},
		{square, "matrix 2,3", "5,-2/3,-1"},
		{square, "matrix 0", "0,-1/1,0"},
		{square, "matrix 0,0", "-1,0/0,-1"},
		{square, "matrix 1,0", "-1,-1/0,-1"},
		{square, "matrix 1,2,1,2", "-1,0/0,-1"},
		{square, "matrix 31", "no"},
		{square, "matrix 30,30,30,30,30,30,30", "no"},
		{square, "matrix 1,1,1,1,1,1,1,1,1,1,1", "no"},
		{square, "matrix", "what"},
		{square, "matrix ", "what"},
		{square, "matrix 2,,3", "what"},
		{square, "count 2", "no"},
		{square, "count 3", "1"},
		{square, "count 12", "16796"},
		{square, "count 13", "no"},
		{square, "count 0", "no"},
		{square, "count 003", "what"},
		{square, "count", "what"},
		{square, "rank", "0"},
		{square, "rank 4", "what"},
		{[]int{2, 1, 2, 1}, "rank", "1"},
		{triangle, "rank", "0"},
		{fanNumbers(8), "rank", "131"},
		{fanNumbers(9), "rank", "no"},
		{widest, "rank", "no"},
		{square, "solve 3....", "3,1,2,2,1"},
		{square, "solve ....", "1,2,1,2"},
		{square, "solve ...", "1,1,1"},
		{square, "solve 1.1.", "1,2,1,2"},
		{square, "solve 11..", "no"},
		{square, "solve 2222", "no"},
		{square, "solve .........", "no"},
		{square, "solve 7........", "7,1,2,2,2,2,2,2,1"},
		{square, "solve ..........", "no"},
		{square, "solve ..", "no"},
		{square, "solve 0..", "no"},
		{square, "solve 3,1,2,2,1", "no"},
		{square, "solve x", "no"},
		{square, "solve ", "no"},
		{square, "solve", "what"},
		{square, "solve  ", "what"},
		{square, "solve  ...", "what"},
		{square, "solve ... ", "what"},
		{square, "solve ... ...", "what"},
		{square, "", "what"},
		{square, " ", "what"},
		{square, "  ", "what"},
		{square, "fly", "what"},
		{square, "no", "what"},
		{square, "what", "what"},
		{square, "Show", "what"},
		{square, "show\t", "what"},
		{square, "show\r", "what"},
		{square, "show\x00", "what"},
		{square, "show1", "what"},
		{square, "row1", "what"},
		{square, "row\t1", "what"},
		{square, "1", "what"},
		{square, "1,2,1,2", "what"},
	}
	for _, k := range known {
		d := desk(7, k.quiddity...)
		behind, reply, ok := impl.DeskLine(d, k.line)
		wantTrue(t, ok, "DeskLine ", d, k.line)
		want(t, reply, k.reply, "reply to ", d, k.line)
		want(t, behind, d, "desk behind ", d, k.line)
	}
}

// TestDeskLine is promise 10: lines do what the calls do that they name.
func TestDeskLine(t *testing.T) {
	for _, d := range someDesks() {
		for _, line := range linesWithNumbers() {
			wantLine(t, d, line)
		}
	}
}

func TestDeskLineOfOtherWords(t *testing.T) {
	for _, d := range fewDesks() {
		for _, line := range lineVariants() {
			wantLine(t, d, line)
		}
	}
}

func TestDeskLineOfChangedTexts(t *testing.T) {
	for _, line := range sampleLines() {
		for _, changed := range changedTexts(line) {
			wantLine(t, desk(7, 1, 2, 1, 2), changed)
		}
	}
}

func TestDesksBehindLinesAreDesks(t *testing.T) {
	for _, d := range fewDesks() {
		for _, line := range linesWithNumbers() {
			behind, reply, ok := impl.DeskLine(d, line)
			wantTrue(t, ok, "DeskLine ", d, line)
			want(t, impl.IsDesk(behind), true, "IsDesk behind ", d, line)
			// No list in a reply is without a number: the only one that could be is that of cuts, which is a point then.
			want(t, reply != "", true, "reply to ", d, line)
			if !hasEffect(line) || reply == "no" {
				want(t, behind, d, "desk behind ", d, line)
				continue
			}
			want(t, behind.Changes, d.Changes+1, "Changes behind ", d, line)
			want(t, reply, numbersText(behind.Quiddity), "reply to ", d, line)
		}
	}
}

// TestTurnsAndFlipsAndEars is for effects that take each other back.
func TestTurnsAndFlipsAndEars(t *testing.T) {
	for _, p := range somePolygons() {
		quiddity := quiddityOf(p.n, p.ds)
		back := func(lines ...string) {
			t.Helper()
			script := "quiddity " + numbersText(quiddity) + "\n" + strings.Join(lines, "\n") + "\n"
			got, ok := impl.DeskAfter(script)
			wantTrue(t, ok, "DeskAfter ", script)
			want(t, got, desk(len(lines)+1, quiddity...), "DeskAfter ", script)
		}
		back("mirror", "mirror")
		back("turn 1", "turn "+strconv.Itoa(p.n-1))
		for _, d := range p.ds {
			_, other := flipOf(p, d)
			back("flip "+strconv.Itoa(d.Low)+" "+strconv.Itoa(d.High), "flip "+strconv.Itoa(other.Low)+" "+strconv.Itoa(other.High))
		}
		for at := 1; at <= p.n && p.n < 12; at++ {
			back("glue "+strconv.Itoa(at), "cut "+strconv.Itoa(at))
		}
	}
}

func TestChangesAtTheirLimit(t *testing.T) {
	effects := []string{"quiddity 1,1,1", "quiddity 1,2,1,2", "glue 1", "cut 0", "turn 0", "turn 1", "mirror", "flip 1 3", "fan 12 0"}
	for _, line := range effects {
		behind, reply, ok := impl.DeskLine(desk(999998, 1, 2, 1, 2), line)
		wantTrue(t, ok, "DeskLine ", line)
		want(t, behind.Changes, 999999, "Changes behind ", line)
		want(t, reply, numbersText(behind.Quiddity), "reply to ", line)
		checkEffect(t, desk(999999, 1, 2, 1, 2), line, "no")
		checkEffect(t, desk(999999, 1, 2, 1, 2), line+" ", "what")
	}
	for _, line := range []string{"quiddity 1,1,2", "glue 0", "cut 1", "turn 4", "flip 0 2", "fan 2 0"} {
		checkEffect(t, desk(999998, 1, 2, 1, 2), line, "no")
		checkEffect(t, desk(999999, 1, 2, 1, 2), line, "no")
	}
	for line, expected := range map[string]string{"changes": "999999", "show": "1,2,1,2", "count 4": "2", "cuts": "1-3", "row 9": "no", "glue": "what", "glue x": "what", "quiddity 1,": "what", "fly": "what"} {
		behind, reply, ok := impl.DeskLine(desk(999999, 1, 2, 1, 2), line)
		wantTrue(t, ok, "DeskLine ", line)
		want(t, reply, expected, "reply to ", line)
		want(t, behind, desk(999999, 1, 2, 1, 2), "desk behind ", line)
	}
}

func TestDeskLineOfNoDesk(t *testing.T) {
	for _, d := range noDesks() {
		for _, line := range []string{"show", "changes", "quiddity 1,1,1", "glue 1", "mirror", "count 3", "solve ...", "fly", ""} {
			wantNoLine(t, d, line)
		}
	}
}

func TestLongLines(t *testing.T) {
	known := []struct {
		line, reply string
	}{
		{strings.Repeat("x", 3000), "what"},
		{strings.Repeat(" ", 3000), "what"},
		{"show" + strings.Repeat(" ", 2996), "what"},
		{"solve " + strings.Repeat(".", 2994), "no"},
		{"solve " + strings.Repeat("1", 2994), "no"},
		{"quiddity " + strings.Repeat("1,", 1495) + "1", "no"},
		{"quiddity " + strings.Repeat("1,", 1495) + ",", "what"},
		{"cont " + strings.Repeat("1,", 1497) + "0", "no"},
		{"matrix 10" + strings.Repeat(",2", 1495), "no"},
		{"matrix 9" + strings.Repeat(",2", 1495) + ",", "what"},
		{"glue " + strings.Repeat("0", 2994) + "1", "what"},
		{"glue " + strings.Repeat("1", 2995), "what"},
	}
	for _, k := range known {
		d := desk(7, 1, 2, 1, 2)
		behind, reply, ok := impl.DeskLine(d, k.line)
		wantTrue(t, ok, "DeskLine ", k.line[:20])
		want(t, reply, k.reply, "reply to ", k.line[:20])
		want(t, behind, d, "desk behind ", k.line[:20])
		if len(k.line) > 2999 {
			wantNoLine(t, d, k.line+k.line[2999:3000])
			wantNoLine(t, d, k.line+k.line)
		}
	}
	want(t, len(known[0].line), impl.MaxScript, "bytes of the longest line")
}

func TestLinesWithNewlines(t *testing.T) {
	d := desk(7, 1, 2, 1, 2)
	for _, line := range []string{"\n", "\n\n", "show\n", "\nshow", "sh\now", "show\nshow", "glue 1\n", "glue\n1", "solve \n", "solve ...\n", "fly\n", strings.Repeat("x", 2999) + "\n", strings.Repeat("\n", 3000)} {
		wantNoLine(t, d, line)
	}
}

// wantScript holds all calls of a script against what its lines do, and against DeskLine.
func wantScript(t *testing.T, script string) {
	t.Helper()
	d, byLine := desk(0, 1, 2, 1, 2), impl.FirstDesk()
	var replies []string
	var failed []int
	for at, line := range strings.SplitAfter(script, "\n") {
		if line == "" {
			break
		}
		var reply string
		d, reply = executed(d, strings.TrimSuffix(line, "\n"))
		replies = append(replies, reply)
		if reply == "no" || reply == "what" {
			failed = append(failed, at+1)
		}
		byLine, reply, _ = impl.DeskLine(byLine, strings.TrimSuffix(line, "\n"))
		want(t, reply, replies[at], "reply of DeskLine to the line ", at+1, " of ", strconv.Quote(script))
	}
	wantReplies(t, script, replies, failed, d)
	want(t, byLine, d, "desk of DeskLine behind ", strconv.Quote(script))
}

func wantReplies(t *testing.T, script string, expected []string, expectedFailed []int, expectedDesk impl.Desk) {
	t.Helper()
	replies, ok := impl.RunScript(script)
	wantTrue(t, ok, "RunScript ", strconv.Quote(script))
	if !slices.Equal(replies, expected) {
		t.Errorf("RunScript %q: got %q, want %q", script, replies, expected)
	}
	d, ok := impl.DeskAfter(script)
	wantTrue(t, ok, "DeskAfter ", strconv.Quote(script))
	want(t, d, expectedDesk, "DeskAfter ", strconv.Quote(script))
	failed, ok := impl.FailedLines(script)
	wantTrue(t, ok, "FailedLines ", strconv.Quote(script))
	want(t, failed, expectedFailed, "FailedLines ", strconv.Quote(script))
}

func TestScripts(t *testing.T) {
	for _, script := range mixedScripts() {
		wantScript(t, script)
	}
	for _, line := range slices.Concat(sampleLines(), lineVariants()[:40]) {
		wantScript(t, line+"\n")
		wantScript(t, "glue 2\n"+line+"\n\n"+line+"\nshow\n")
	}
}

func TestScriptsThatAreKnown(t *testing.T) {
	first := desk(0, 1, 2, 1, 2)
	known := []struct {
		script  string
		replies []string
		failed  []int
		behind  impl.Desk
	}{
		{"", nil, nil, first},
		{"\n", []string{"what"}, []int{1}, first},
		{"\n\n\n", []string{"what", "what", "what"}, []int{1, 2, 3}, first},
		{"show\n", []string{"1,2,1,2"}, nil, first},
		{"show\r\n", []string{"what"}, []int{1}, first},
		{"show\n\nchanges\n", []string{"1,2,1,2", "what", "0"}, []int{2}, first},
		{"solve \nsolve\n", []string{"no", "what"}, []int{1, 2}, first},
		{"glue 9\nglue 1\nglue x\nglue 1\nchanges\n", []string{"no", "2,1,3,1,2", "what", "3,1,2,3,1,2", "2"}, []int{1, 3}, desk(2, 3, 1, 2, 3, 1, 2)},
		{"quiddity 1,1,1\ncut 0\nglue 3\nshow\n", []string{"1,1,1", "no", "2,1,2,1", "2,1,2,1"}, []int{2}, desk(2, 2, 1, 2, 1)},
		{"mirror\nmirror\nturn 0\nquiddity 1,2,1,2\nchanges\n", []string{"2,1,2,1", "1,2,1,2", "1,2,1,2", "1,2,1,2", "4"}, nil, desk(4, 1, 2, 1, 2)},
	}
	for _, k := range known {
		wantReplies(t, k.script, k.replies, k.failed, k.behind)
		wantScript(t, k.script)
	}
}

func TestScriptsAtTheirLimits(t *testing.T) {
	square := desk(0, 1, 2, 1, 2)
	numbers := make([]int, 50)
	for at := range numbers {
		numbers[at] = at + 1
	}
	wantReplies(t, strings.Repeat("show\n", 50), slices.Repeat([]string{"1,2,1,2"}, 50), nil, square)
	wantReplies(t, strings.Repeat("\n", 50), slices.Repeat([]string{"what"}, 50), numbers, square)
	wantReplies(t, strings.Repeat("cut 1\n", 50), slices.Repeat([]string{"no"}, 50), numbers, square)
	wantReplies(t, strings.Repeat("turn 1\n", 50), slices.Repeat([]string{"2,1,2,1", "1,2,1,2"}, 25), nil, desk(50, 1, 2, 1, 2))
	wantReplies(t, strings.Repeat("solve .........\n", 50), slices.Repeat([]string{"no"}, 50), numbers, square)
	wantReplies(t, strings.Repeat("x", 2999)+"\n", []string{"what"}, []int{1}, square)
	wantReplies(t, strings.Repeat(strings.Repeat("x", 59)+"\n", 50), slices.Repeat([]string{"what"}, 50), numbers, square)
	wantReplies(t, "solve "+strings.Repeat(".", 2988)+"\nshow\n", []string{"no", "1,2,1,2"}, []int{1}, square)
}

func TestNoScripts(t *testing.T) {
	for _, script := range noScripts() {
		name := strconv.Quote(script[:min(len(script), 60)])
		replies, ok := impl.RunScript(script)
		wantFailedList(t, replies, ok, "RunScript ", name)
		d, ok := impl.DeskAfter(script)
		wantFailedDesk(t, d, ok, "DeskAfter ", name)
		failed, ok := impl.FailedLines(script)
		wantFailedList(t, failed, ok, "FailedLines ", name)
	}
}

func TestExampleOfChapter10(t *testing.T) {
	script := "cuts\nflip 1 3\nglue 1\nears\nrow 1\nentry 0 3\nchanges\ncut 1\ncont 2,3,4\nminus 7 3\nmatrix 2,3\nsolve 3....\nquiddity 1,1,2\nfly\n"
	replies := []string{"1-3", "2,1,2,1", "3,1,2,2,1", "1,4", "1,2,2,1,3", "1", "2", "2,1,2,1", "18", "3,2,2", "5,-2/3,-1", "3,1,2,2,1", "no", "what"}
	wantReplies(t, script, replies, []int{13, 14}, desk(3, 2, 1, 2, 1))
	wantScript(t, script)
}
