package tests

import (
	"regexp"
	"slices"
	"strconv"
	"strings"
	"sync"
	"testing"

	"loop.example/g01236/impl"
)

// The helpers of this file tell a line by one pattern for all of it, and its reply by the calls that the document's table names.

// told is what a line is executed on, and what its words stand for.
type told struct {
	desk    impl.Desk
	n       int
	ds      []impl.Diagonal
	numbers []int
	text    string
}

// A lineKind is one of the lines of the document's table; it has an effect or a reply.
type lineKind struct {
	words   string
	pattern *regexp.Regexp
	effect  func(in told) ([]int, bool)
	reply   func(in told) (string, bool)
}

func listReply(list []int, ok bool) (string, bool) {
	return numbersText(list), ok
}

func numberReply(number int, ok bool) (string, bool) {
	return strconv.Itoa(number), ok
}

// quiddityBehind is for effects that make a triangulation.
func quiddityBehind(n int, ds []impl.Diagonal, ok bool) ([]int, bool) {
	if !ok {
		return nil, false
	}
	return impl.QuiddityOf(n, ds)
}

func effectKinds() []lineKind {
	return []lineKind{
		{words: "quiddity L", effect: func(in told) ([]int, bool) { return in.numbers, impl.IsQuiddity(in.numbers) }},
		{words: "glue N", effect: func(in told) ([]int, bool) { return impl.GlueEar(in.desk.Quiddity, in.numbers[0]) }},
		{words: "cut N", effect: func(in told) ([]int, bool) { return impl.CutEar(in.desk.Quiddity, in.numbers[0]) }},
		{words: "turn N", effect: func(in told) ([]int, bool) {
			ds, ok := impl.TurnPolygon(in.n, in.ds, in.numbers[0])
			return quiddityBehind(in.n, ds, ok)
		}},
		{words: "mirror", effect: func(in told) ([]int, bool) {
			ds, ok := impl.MirrorPolygon(in.n, in.ds)
			return quiddityBehind(in.n, ds, ok)
		}},
		{words: "flip N N", effect: func(in told) ([]int, bool) {
			ds, ok := impl.FlipDiagonal(in.n, in.ds, impl.Diagonal{Low: in.numbers[0], High: in.numbers[1]})
			return quiddityBehind(in.n, ds, ok)
		}},
		{words: "fan N N", effect: func(in told) ([]int, bool) {
			ds, ok := impl.FanOf(in.numbers[0], in.numbers[1])
			return quiddityBehind(in.numbers[0], ds, ok)
		}},
	}
}

func replyKinds() []lineKind {
	return []lineKind{
		{words: "show", reply: func(in told) (string, bool) { return listReply(in.desk.Quiddity, true) }},
		{words: "changes", reply: func(in told) (string, bool) { return numberReply(in.desk.Changes, true) }},
		{words: "cuts", reply: func(in told) (string, bool) { return impl.DiagonalsText(in.ds) }},
		{words: "ears", reply: func(in told) (string, bool) { return listReply(impl.EarsOf(in.n, in.ds)) }},
		{words: "row N", reply: func(in told) (string, bool) { return listReply(impl.RowOfFrieze(in.desk.Quiddity, in.numbers[0])) }},
		{words: "entry N N", reply: func(in told) (string, bool) {
			return numberReply(impl.EntryOf(in.desk.Quiddity, in.numbers[0], in.numbers[1]))
		}},
		{words: "cont L", reply: func(in told) (string, bool) { return numberReply(impl.ContinuantOf(in.numbers)) }},
		{words: "minus N N", reply: func(in told) (string, bool) { return listReply(impl.MinusTerms(in.numbers[0], in.numbers[1])) }},
		{words: "matrix L", reply: func(in told) (string, bool) {
			m, _ := impl.MatrixOfList(in.numbers)
			return impl.MatrixText(m)
		}},
		{words: "count N", reply: func(in told) (string, bool) { return numberReply(impl.CountTriangulations(in.numbers[0])) }},
		{words: "rank", reply: func(in told) (string, bool) { return numberReply(impl.RankOfQuiddity(in.desk.Quiddity)) }},
		{words: "solve S", reply: func(in told) (string, bool) {
			p, _ := impl.ParsePuzzle(in.text)
			return listReply(impl.FirstSolution(p))
		}},
	}
}

var lineKinds = sync.OnceValue(func() []lineKind {
	const number = `(?:0|[1-9][0-9]{0,5})`
	patterns := strings.NewReplacer("N", "("+number+")", "L", "("+number+"(?:,"+number+")*)", "S", "([^ ]*)")
	kinds := append(effectKinds(), replyKinds()...)
	for i := range kinds {
		kinds[i].pattern = regexp.MustCompile(`\A` + patterns.Replace(kinds[i].words) + `\z`)
	}
	return kinds
})

func toldBy(d impl.Desk, kind lineKind, words []string) told {
	in := told{desk: d, n: len(d.Quiddity)}
	in.ds, _ = impl.TriangulationOf(d.Quiddity)
	if strings.HasSuffix(kind.words, " S") {
		in.text = words[0]
		return in
	}
	for _, part := range strings.FieldsFunc(strings.Join(words, ","), func(r rune) bool { return r == ',' }) {
		number, _ := strconv.Atoi(part)
		in.numbers = append(in.numbers, number)
	}
	return in
}

// executed is the desk behind a line, and its reply.
func executed(d impl.Desk, line string) (impl.Desk, string) {
	for _, kind := range lineKinds() {
		words := kind.pattern.FindStringSubmatch(line)
		if words == nil {
			continue
		}
		in := toldBy(d, kind, words[1:])
		if kind.effect == nil {
			reply, ok := kind.reply(in)
			if !ok {
				return d, "no"
			}
			return d, reply
		}
		quiddity, ok := kind.effect(in)
		if !ok || d.Changes == 999999 {
			return d, "no"
		}
		return desk(d.Changes+1, quiddity...), numbersText(quiddity)
	}
	return d, "what"
}

// hasEffect tells the lines whose words are those of an effect, whether it fails or not.
func hasEffect(line string) bool {
	return slices.ContainsFunc(lineKinds(), func(kind lineKind) bool {
		return kind.effect != nil && kind.pattern.MatchString(line)
	})
}

func desk(changes int, quiddity ...int) impl.Desk {
	return impl.Desk{Quiddity: quiddity, Changes: changes}
}

// someDesks have all kinds of polygons, and numbers of changes up to both sides of the limit.
func someDesks() []impl.Desk {
	changes := []int{0, 1, 9, 10, 12345, 999997, 999998, 999999}
	var all []impl.Desk
	for i, p := range somePolygons() {
		all = append(all, desk(changes[i%len(changes)], quiddityOf(p.n, p.ds)...))
	}
	return all
}

// fewDesks are so few that many lines can be tried on each: a triangle, squares, a pentagon, polygons of as many corners as are ranked, as are too many for that, and as there may be.
func fewDesks() []impl.Desk {
	return []impl.Desk{
		desk(0, 1, 2, 1, 2), desk(0, 1, 1, 1), desk(3, 2, 1, 2, 1), desk(17, 1, 3, 1, 2, 2),
		desk(999998, fanNumbers(8)...), desk(0, fanNumbers(9)...), desk(5, fanNumbers(12)...), desk(999999, 3, 1, 2, 2, 1),
	}
}

// noDesks are desks but for one thing.
func noDesks() []impl.Desk {
	bad := []impl.Desk{{}, {Quiddity: []int{}}, {Changes: 7}}
	for _, changes := range noChanges() {
		bad = append(bad, desk(changes, 1, 1, 1), desk(changes, 1, 2, 1, 2), desk(changes, fanNumbers(12)...))
	}
	for _, list := range badQuiddities() {
		bad = append(bad, desk(0, list...), desk(999999, list...))
	}
	return bad
}

// sampleLines has one line for each of the table.
func sampleLines() []string {
	return []string{
		"quiddity 1,1,1", "glue 4", "cut 2", "turn 3", "mirror", "flip 1 3", "fan 10 9", "show", "changes", "cuts", "ears", "row 1",
		"entry 3 7", "cont 9,10,0", "minus 7 30", "matrix 10,3,4", "count 12", "rank", "solve 3....",
	}
}

// numberWords are words that are numbers, and then words that are none.
func numberWords() ([]string, []string) {
	return []string{"0", "1", "2", "9", "10", "12", "99999", "100000", "999998", "999999"},
		[]string{
			"", "00", "01", "010", "-1", "-0", "+1", "+0", "1000000", "0999999", "9999990", "9223372036854775807", "9223372036854775808",
			"18446744073709551617", strings.Repeat("1", 100), strings.Repeat("0", 100), "1.", "1.0", "1e1", "1_0", "0x1", "0b1", "a", "x1", "1x", "K", "N",
			".", ",", "-", "+", "1-3", "1/2", "1:", "1;", "\t1", "1\t", "1\r", "\x001", "1\x00", "\xff", "1\xff", "١", "１", "²",
		}
}

// lineVariants are the sample lines with words less and more, and with other words in place of each.
func lineVariants() []string {
	numbers, others := numberWords()
	words := slices.Concat(numbers, others, []string{"1,2,1,2", "1,", ",1", "1,,1", "1,02", "1,-2", "1,1000000", "999999,0"})
	variants := []string{"", " ", "  ", "fly", "no", "what", "quiddity,1,1,1", "turn3", "turn-3", "Show", "SHOW", "sho", "shows", "show\t", "show\r", "\tshow", "show.", "shöw"}
	for _, line := range sampleLines() {
		parts := strings.Split(line, " ")
		for at := range parts {
			less := slices.Delete(slices.Clone(parts), at, at+1)
			variants = append(variants, strings.Join(less, " "))
			for _, word := range words {
				changed := slices.Clone(parts)
				changed[at] = word
				longer := slices.Insert(slices.Clone(parts), at, word)
				variants = append(variants, strings.Join(changed, " "), strings.Join(longer, " "))
			}
		}
		for _, word := range words {
			variants = append(variants, line+" "+word, line+" "+word+" "+word)
		}
		variants = append(variants, " "+line, line+" ", "  "+line, line+"  ", strings.ReplaceAll(line, " ", "  "), strings.ReplaceAll(line, " ", "\t"), strings.ToUpper(line))
	}
	return variants
}

// linesWithNumbers has the lines of the table with numbers on both sides of all limits that polygons of up to 12 corners have.
func linesWithNumbers() []string {
	lines := sampleLines()
	for i := range 14 {
		word := strconv.Itoa(i)
		lines = append(lines, "glue "+word, "cut "+word, "turn "+word, "row "+word, "count "+word)
		for j := range 14 {
			pair := " " + word + " " + strconv.Itoa(j)
			lines = append(lines, "flip"+pair, "fan"+pair, "entry"+pair, "minus"+pair)
		}
	}
	for _, n := range []int{3, 4, 5, 12, 13} {
		lines = append(lines, "quiddity "+numbersText(fanNumbers(n)), "cont "+numbersText(fanNumbers(n)), "matrix "+numbersText(fanNumbers(n)))
	}
	return append(lines,
		"entry 1000 1003", "entry 1000 1012", "entry 1001 1003", "entry 999999 999999", "minus 11 10", "minus 12 11", "minus 999999 999998", "minus 30 1", "minus 31 1",
		"cont 30,30,30,30,30,30,30,30,30,30", "cont 31", "matrix 30,30,30,30,30,30", "matrix 30,30,30,30,30,30,30", "matrix 0",
		"solve ...", "solve .........", "solve 11..", "solve ", "solve 2222", "solve 1,1,1", "solve x")
}

// mixedScripts are scripts of up to 50 lines, mostly with effects and mostly of numbers that polygons may have.
func mixedScripts() []string {
	pool := slices.Concat(linesWithNumbers(), []string{"", " ", "fly", "show 1", "glue", "glue x", "quiddity 1,1,2", "solve"})
	effects := slices.DeleteFunc(linesWithNumbers(), func(line string) bool { return !hasEffect(line) || strings.HasPrefix(line, "fan") })
	var scripts []string
	z := 1
	next := func(list []string) string {
		z = z * 48271 % 2147483647
		return list[z%len(list)]
	}
	for i := range 200 {
		var script strings.Builder
		for at := range i%50 + 1 {
			line := next(effects)
			if at%3 == 2 {
				line = next(pool)
			}
			script.WriteString(line + "\n")
		}
		scripts = append(scripts, script.String())
	}
	return scripts
}

// noScripts have a line or a byte too many, or no newline at the end.
func noScripts() []string {
	return []string{
		"show", " ", "x", "show\nshow", "show\n ", "\nshow", "\n\r", "show\r", "show\n\x00",
		strings.Repeat("\n", 51), strings.Repeat("show\n", 51), strings.Repeat("show\n", 50) + "x", strings.Repeat("\n", 3000), strings.Repeat("\n", 100000),
		strings.Repeat("x", 3000), strings.Repeat("x", 3000) + "\n", strings.Repeat("x", 3001), strings.Repeat("show\n", 49) + strings.Repeat("x", 2755) + "\n",
		strings.Repeat(strings.Repeat("x", 59)+"\n", 50) + "\n", strings.Repeat(" ", 1000000) + "\n", strings.Repeat("show\n", 1000000),
	}
}

func noChanges() []int {
	var bad []int
	for _, number := range append(numberPool(), 999999, 1000000, 1000001) {
		if number < 0 || number > 999999 {
			bad = append(bad, number)
		}
	}
	return bad
}

func wantFailedDesk(t *testing.T, got impl.Desk, ok bool, what ...any) {
	t.Helper()
	wantFailedList(t, got.Quiddity, ok, what...)
	want(t, got.Changes, 0, what...)
}

// wantLine holds a call of DeskLine against what the line does.
func wantLine(t *testing.T, d impl.Desk, line string) {
	t.Helper()
	got, reply, ok := impl.DeskLine(d, line)
	if strings.Contains(line, "\n") {
		wantNoLine(t, d, line)
		return
	}
	behind, expected := executed(d, line)
	if !ok || reply != expected || got.Changes != behind.Changes || !slices.Equal(got.Quiddity, behind.Quiddity) {
		t.Errorf("DeskLine %v %.100q: got %v %.100q %v, want %v %.100q", d, line, got, reply, ok, behind, expected)
	}
}

func wantNoLine(t *testing.T, d impl.Desk, line string) {
	t.Helper()
	got, reply, ok := impl.DeskLine(d, line)
	wantFailedDesk(t, got, ok, "DeskLine ", d, strconv.Quote(line[:min(len(line), 60)]))
	wantFailedText(t, reply, ok, "DeskLine ", d, strconv.Quote(line[:min(len(line), 60)]))
}
