package tests

import (
	"fmt"
	"slices"
	"strings"
	"testing"

	"loop.example/setparts/impl"
)

// script returns complete lines.
func script(lines ...string) string {
	return strings.Join(lines, "\n") + "\n"
}

// mustPrint fails the test unless a script has an output.
func mustPrint(t *testing.T, text string, want string) {
	t.Helper()
	if got := impl.Execute(text); got != want {
		t.Fatalf("Execute of %q (%d bytes) returned %q: want %q", text, len(text), got, want)
	}
}

// mustBeAsOnDesk fails the test unless a script has the output that the
// definitions of the document tell.
func mustBeAsOnDesk(t *testing.T, text string) {
	t.Helper()
	mustPrint(t, text, deskOutput(text))
}

// lineCase is a line behind a partition, its output, and what show prints then:
// the same partition, where nothing is written.
type lineCase struct {
	from, line, want, then string
}

// checkLine asks a line, and show behind it.
func checkLine(t *testing.T, c lineCase) {
	t.Helper()
	then := c.then
	if then == "" {
		then = c.from
	}
	things := len(strings.Fields(then))
	mustPrint(t, script("part "+c.from, c.line, "show"), fmt.Sprintf("ok\n%s\n%s\nthings %d\n", c.want, then, things))
}

// Partitions of eight and of seven things, all together and each one alone, as text.
const (
	eightTogether = "0 0 0 0 0 0 0 0"
	eightAlone    = "0 1 2 3 4 5 6 7"
	sevenTogether = "0 0 0 0 0 0 0"
	sevenAlone    = "0 1 2 3 4 5 6"
)

// madeCases has the words that make another partition, where they succeed.
var madeCases = []lineCase{
	{"0 1", "part 0", "ok", "0"},
	{"0", "part 0 1 0 2", "ok", "0 1 0 2"},
	{"0 1", "part 0 0", "ok", "0 0"},
	{"0 1", "part " + eightAlone, "ok", eightAlone},
	{"0 1", "part " + eightTogether, "ok", eightTogether},
	{"0 1", "kernel 5", "ok", "0"},
	{"0 1", "kernel 7 3 7", "ok", "0 1 0"},
	{"0 1", "kernel 999 0 99 0 999", "ok", "0 1 2 1 0"},
	{"0 1", "kernel 8 7 6 5 4 3 2 1", "ok", eightAlone},
	{"0 1", "at 1 0", "ok", "0"},
	{"0 1", "at 4 0", "ok", "0 0 0 0"},
	{"0 1", "at 4 7", "ok", "0 1 0 2"},
	{"0 1", "at 4 14", "ok", "0 1 2 3"},
	{"0 1", "at 8 0", "ok", eightTogether},
	{"0 1", "at 7 876", "ok", sevenAlone},
	{"0", "put 0", "ok", "0 0"},
	{"0", "put 1", "ok", "0 1"},
	{"0 1 0 2", "put 3", "ok", "0 1 0 2 3"},
	{sevenAlone, "put 7", "ok", eightAlone},
	{sevenTogether, "put 0", "ok", eightTogether},
	{"0 1", "drop 1", "ok", "0"},
	{"0 1", "drop 0", "ok", "0"},
	{"0 1 0 2", "drop 0", "ok", "0 1 2"},
	{"0 1 0 2", "drop 3", "ok", "0 1 0"},
	{eightAlone, "drop 7", "ok", sevenAlone},
	{"0", "meet 0", "ok", "0"},
	{"0 0 1 1", "meet 0 1 1 0", "ok", "0 1 2 3"},
	{"0 0 0 1", "meet 0 0 1 1", "ok", "0 0 1 2"},
	{eightTogether, "meet " + eightAlone, "ok", eightAlone},
	{"0", "join 0", "ok", "0"},
	{"0 1 0 2", "join 0 0 1 2", "ok", "0 0 0 1"},
	{eightAlone, "join " + eightTogether, "ok", eightTogether},
	{"0 1", "rings 0", "ok", "0"},
	{"0 1", "rings 1 2 0 3", "ok", "0 0 0 1"},
	{"0 1", "rings 7 6 5 4 3 2 1 0", "ok", "0 1 2 3 3 2 1 0"},
	{"0", "turned", "ok", "0"},
	{"0 1 0 2", "turned", "ok", "0 1 2 1"},
	{"0 1 1 1 1 1 1 1", "turned", "ok", "0 0 0 0 0 0 0 1"},
	{"0 0", "next", "ok", "0 1"},
	{"0 1 0 2", "next", "ok", "0 1 1 0"},
	{"0 1 2 3 4 5 6 6", "next", "ok", eightAlone},
	{"0 1", "before", "ok", "0 0"},
	{"0 1 1 0", "before", "ok", "0 1 0 2"},
	{"0 0 0 0 0 0 0 1", "before", "ok", eightTogether},
}

// failedCases has the words where they fail.
var failedCases = []lineCase{
	{"0 1", "part 1", "no", ""},
	{"0 1", "part 0 2", "no", ""},
	{"0 1", "part 0 1 0 3", "no", ""},
	{"0 1", "part 0 1 2 3 4 5 6 8", "no", ""},
	{"0 1", "part " + eightTogether + " 0", "no", ""},
	{"0 1", "part " + eightAlone + " 8", "no", ""},
	{"0 1", "kernel 1 2 3 4 5 6 7 8 9", "no", ""},
	{"0 1", "kernel " + eightTogether + " 0", "no", ""},
	{"0 1", "at 0 0", "no", ""},
	{"0 1", "at 9 0", "no", ""},
	{"0 1", "at 1 1", "no", ""},
	{"0 1", "at 4 15", "no", ""},
	{"0 1", "at 7 877", "no", ""},
	{"0", "put 2", "no", ""},
	{"0 1 0 2", "put 4", "no", ""},
	{"0 1 0 2", "put 999", "no", ""},
	{eightTogether, "put 0", "no", ""},
	{eightTogether, "put 1", "no", ""},
	{eightAlone, "put 8", "no", ""},
	{"0", "drop 0", "no", ""},
	{"0 1 0 2", "drop 4", "no", ""},
	{eightAlone, "drop 8", "no", ""},
	{"0 0 1 1", "meet 0 1 1", "no", ""},
	{"0 0 1 1", "meet 0 1 1 0 0", "no", ""},
	{"0 0 1 1", "meet 0 1 3 0", "no", ""},
	{"0 0 1 1", "join 0 1 1", "no", ""},
	{"0 0 1 1", "join 0 1 1 0 0", "no", ""},
	{"0 0 1 1", "join 1 1 1 1", "no", ""},
	{"0 1", "rings 1", "no", ""},
	{"0 1", "rings 0 0", "no", ""},
	{"0 1", "rings 2 1", "no", ""},
	{"0 1", "rings 8 7 6 5 4 3 2 1 0", "no", ""},
	{"0", "next", "no", ""},
	{"0 1 2 3", "next", "no", ""},
	{eightAlone, "next", "no", ""},
	{"0", "before", "no", ""},
	{"0 0 0 0", "before", "no", ""},
	{eightTogether, "before", "no", ""},
	{sevenTogether, "pairs", "no", ""},
	{sevenAlone, "pairs", "no", ""},
	{eightAlone, "pairs", "no", ""},
	{"0 1 0 2", "sign 0 1 2 3", "no", ""},
	{"0 1 0 2", "sign 0 1 0", "no", ""},
	{"0 1 0 2", "sign 0 0 0 0 0", "no", ""},
	{"0 1 0 2", "sign 1 1 1 1", "no", ""},
	{"0 1 0 2", "inner 0 1 2 3", "no", ""},
	{"0 1 0 2", "inner 0 1 0", "no", ""},
	{"0 1 0 2", "inner 0 2 0 0", "no", ""},
	{"0 0 1 1", "quarrel 0 1 0", "no", ""},
	{"0 0 1 1", "quarrel 0 1 0 3", "no", ""},
	{"0 0 1 1", "path 0 1 0 1 0", "no", ""},
	{"0 0 1 1", "path 1 0 1 0", "no", ""},
	{"0 0 1 1", "moves 0", "no", ""},
	{"0 0 1 1", "moves 0 2 0 2", "no", ""},
	{"0 1", "number 13 2", "no", ""},
	{"0 1", "number 2 13", "no", ""},
	{"0 1", "number 999 999", "no", ""},
	{"0 1", "all 13", "no", ""},
	{"0 1", "all 999", "no", ""},
	{"0 1", "plain 0", "no", ""},
	{"0 1", "plain 8", "no", ""},
}

// askedCases has the words that print something, where they succeed.
var askedCases = []lineCase{
	{"0", "show", "0", ""},
	{eightAlone, "show", eightAlone, ""},
	{"0", "blocks", "0", ""},
	{"0 1 0 2", "blocks", "02 1 3", ""},
	{eightTogether, "blocks", "01234567", ""},
	{eightAlone, "blocks", eightAlone, ""},
	{"0", "type", "1", ""},
	{"0 1 1 1", "type", "3 1", ""},
	{eightTogether, "type", "8", ""},
	{eightAlone, "type", "1 1 1 1 1 1 1 1", ""},
	{"0 1 0 2", "size", "3", ""},
	{eightTogether, "size", "1", ""},
	{eightAlone, "size", "8", ""},
	{"0 1 0 2", "rank", "1", ""},
	{eightTogether, "rank", "7", ""},
	{eightAlone, "rank", "0", ""},
	{"0", "merges", "-", ""},
	{"0 1", "merges", "00", ""},
	{"0 1 0 2", "merges", "0001 0100 0101", ""},
	{eightTogether, "merges", "-", ""},
	{"0", "splits", "0", ""},
	{"0 1 0 2", "splits", "1", ""},
	{eightTogether, "splits", "127", ""},
	{"0 1 0 2", "chains", "3", ""},
	{eightTogether, "chains", "1", ""},
	{eightAlone, "chains", "1587600", ""},
	{"0 1 0 2", "place", "7", ""},
	{eightTogether, "place", "0", ""},
	{eightAlone, "place", "4139", ""},
	{"0", "arcs", "-", ""},
	{"0 1 0 1", "arcs", "02 13", ""},
	{eightTogether, "arcs", "01 12 23 34 45 56 67", ""},
	{eightAlone, "arcs", "-", ""},
	{"0 1 0 1", "cross", "1", ""},
	{"0 1 1 0", "cross", "0", ""},
	{"0 1 2 3 0 1 2 3", "cross", "6", ""},
	{"0 1 0 1", "nest", "0", ""},
	{"0 1 1 0", "nest", "1", ""},
	{"0 1 2 3 3 2 1 0", "nest", "6", ""},
	{"0", "far", "0", ""},
	{"0 1 1 0", "far", "4", ""},
	{"0 1 2 3 3 2 1 0", "far", "16", ""},
	{"0", "ring", "0", ""},
	{"0 1 0 2", "ring", "2 1 0 3", ""},
	{eightTogether, "ring", "1 2 3 4 5 6 7 0", ""},
	{"0 1 0 2", "count", "1", ""},
	{"0 0 0 0", "count", "6", ""},
	{eightTogether, "count", "5040", ""},
	{"0", "pairs", "-", ""},
	{"0 1 0 2", "pairs", "02", ""},
	{"0 0 0 0 0 0", "pairs", "01 02 03 04 05 12 13 14 15 23 24 25 34 35 45", ""},
	{"0 1 2 3 4 5", "pairs", "-", ""},
	{"0 1 0 2", "finer 0 0 0 0", "yes", ""},
	{"0 1 0 2", "finer 0 1 0 2", "yes", ""},
	{"0 1 0 2", "finer 0 1 2 3", "not", ""},
	{"0 1 0 2", "finer 0 0 0", "not", ""},
	{"0 1 0 2", "finer 0 0 0 0 0", "not", ""},
	{"0 1 0 2", "finer 0 2 0 0", "not", ""},
	{"0 1 0 2", "finer 1 1 1 1", "not", ""},
	{eightAlone, "finer " + eightTogether, "yes", ""},
	{eightAlone, "finer " + eightTogether + " 0", "not", ""},
	{"0 1 0 2", "sign 0 0 0 0", "2", ""},
	{"0 1 0 2", "sign 0 1 0 2", "1", ""},
	{"0 1 2 3", "sign 0 0 0 0", "-6", ""},
	{"0 1 2 3", "sign 0 0 1 1", "1", ""},
	{eightAlone, "sign " + eightTogether, "-5040", ""},
	{"0 1 0 2", "inner 0 0 0 0", "5", ""},
	{"0 1 0 2", "inner 0 1 0 2", "1", ""},
	{eightAlone, "inner " + eightTogether, "4140", ""},
	{"0 0 1 1", "quarrel 0 1 0 1", "4", ""},
	{eightAlone, "quarrel " + eightTogether, "28", ""},
	{"0 0 1 1", "path 0 1 0 1", "2", ""},
	{eightAlone, "path " + eightTogether, "7", ""},
	{"0 0 1 1", "moves 0 1 0 1", "2", ""},
	{eightAlone, "moves " + eightTogether, "7", ""},
	{"0 1", "number 0 0", "1", ""},
	{"0 1", "number 4 2", "7", ""},
	{"0 1", "number 2 3", "0", ""},
	{"0 1", "number 12 5", "1379400", ""},
	{"0 1", "number 12 12", "1", ""},
	{"0 1", "all 0", "1", ""},
	{"0 1", "all 5", "52", ""},
	{"0 1", "all 12", "4213597", ""},
	{"0 1", "plain 1", "1", ""},
	{"0 1", "plain 4", "14", ""},
	{"0 1", "plain 7", "429", ""},
}

// Rule of the document: each word has its output where it succeeds and where it
// fails, written out here, and what fails changes nothing.
func TestWords(t *testing.T) {
	succeeds, fails := map[string]bool{}, map[string]bool{}
	for _, c := range slices.Concat(madeCases, askedCases) {
		checkLine(t, c)
		succeeds[strings.Fields(c.line)[0]] = true
	}
	for _, c := range failedCases {
		checkLine(t, c)
		fails[strings.Fields(c.line)[0]] = true
	}
	if len(succeeds) != 36 {
		t.Fatalf("%d words are asked where they succeed", len(succeeds))
	}
	for name, w := range deskWords() {
		// What is printed of the partition alone succeeds for all of them, but for their pairs.
		mayFail := w.told != noRest && name != "finer" || name == "next" || name == "before" || name == "pairs"
		if !succeeds[name] || fails[name] != mayFail {
			t.Fatalf("%s is asked where it succeeds: %v, and where it fails: %v", name, succeeds[name], fails[name])
		}
	}
}

// Rule of the document: words without a rest, for all partitions.
func TestWordsAlone(t *testing.T) {
	for _, a := range partitionsTo(most) {
		mustBeAsOnDesk(t, script("part "+listText(a),
			"show", "blocks", "type", "size", "rank", "merges", "splits", "chains", "place", "arcs", "cross", "nest", "far", "ring", "count", "pairs",
			"turned", "show", "turned", "next", "show", "before", "show", "before", "show"))
	}
}

// someTwo calls for all two partitions of as many things, at most 4, for some
// of more things, and for lists that are not two of them.
func someTwo(check func(a []int, b []int)) {
	step := 0
	pairsOfPartitions(func(a []int, b []int) {
		if step++; len(a) <= 4 || step%199 == 0 {
			check(a, b)
		}
	})
	wrongPairs(func(a []int, b []int) {
		if isPartition(a) && len(b) < 64 {
			check(a, b)
		}
	})
}

// Rule of the document: words whose rest tells another partition.
func TestWordsOfTwo(t *testing.T) {
	someTwo(func(a []int, b []int) {
		start, told := "part "+listText(a), " "+listText(b)
		mustBeAsOnDesk(t, script(start, "finer"+told, "sign"+told, "inner"+told, "quarrel"+told, "path"+told, "moves"+told))
		mustBeAsOnDesk(t, script(start, "meet"+told, "show", start, "join"+told, "show"))
	})
}

// Rule of the document: words whose rest tells all.
func TestWordsOfNumbers(t *testing.T) {
	for n := range 16 {
		for k := range 16 {
			mustBeAsOnDesk(t, script(fmt.Sprint("number ", n, " ", k), fmt.Sprint("at ", n, " ", k), "show"))
		}
		mustBeAsOnDesk(t, script(fmt.Sprint("all ", n), fmt.Sprint("plain ", n)))
		for _, place := range []int{51, 52, 202, 203, 876, 877, 998, 999} {
			mustBeAsOnDesk(t, script(fmt.Sprint("at ", n, " ", place), "show", "place"))
		}
	}
	for _, p := range slices.Concat(namingsTo(5), lists(3, 0, 3), lists(4, 1, 3)) {
		mustBeAsOnDesk(t, script("rings "+listText(p), "show", "kernel "+listText(p), "show", "part "+listText(p), "show"))
	}
}

// Rule of the document: put and drop, for each block and each thing and for those that are none.
func TestPutAndDrop(t *testing.T) {
	step := 0
	for _, a := range partitionsTo(most) {
		if step++; len(a) > 4 && step%11 != 0 && a[len(a)-1] != 0 {
			continue
		}
		for number := range most + 2 {
			start := "part " + listText(a)
			mustBeAsOnDesk(t, script(start, fmt.Sprint("put ", number), "show", start, fmt.Sprint("drop ", number), "show"))
		}
	}
}

// oddRests are rests that are no numbers as told, or not for each word.
var oddRests = []string{
	"", " ", "  ", "0 ", " 0", "0  1", "0 1 ", " 0 1", "0 1  ", "0 1 0 1  0", "x", "0 x", "x 0", "0x", "0 1x", "x1",
	"-1", "-0", "+0", "0 -1", "0 +1", "0 - 1", "1.0", "1e0", "0x1", "1_0", "0,1", "0;1", "0\t1", "\t0", "0\t", "0\r", "0 1\r", "0\v1", "0\x001",
	"0\u00a01", "\u0660", "\uff10", "\u00b2", "é", "\xff", "0 \xff", "0\xc2", "\x00", "0000", "0001", "1000", "9999", "0 0000", "0000 0", "00000000000000000000", "18446744073709551616",
	"0", "1", "00", "01", "000", "001", "002", "012", "0 01", "00 001 000", "000 1 02 003", "002 001 000", "999", "099", "10", "100",
	"0 1", "0 0", "1 0", "4 2", "4 7", "004 007", "4 15", "12 012", "0 1 0", "0 1 0 2", "0 0 0 0", "0 1 0 2 0", "3 2 1 0",
	eightTogether, eightAlone, eightAlone + " 8", sevenAlone, strings.TrimSuffix(strings.Repeat("0 ", 200), " "), strings.Repeat("0", 400),
}

// oddLines are lines whose word is none of the document.
var oddLines = []string{
	"", "zzz", "x", "0", "sho", "shows", "Show", "SHOW", "show\r", "show\t", "\tshow", "show\x00", "\ufeffshow", "part\t0", "part\u00a00", "part0", "put\r", "ok", "no", "what", "things", "-", "\x00", "\xff\xfe", "é", "\u2028",
	strings.Repeat("a", 300), "sizes", "lists", "open", "cost", "three", "best", "changes", "turn", "back", "times", "kernels",
}

// allLines returns lines of all words, with all rests and without one.
func allLines() []string {
	var out []string
	for name := range deskWords() {
		out = append(out, name)
		for _, rest := range oddRests {
			out = append(out, name+" "+rest)
		}
	}
	for _, line := range oddLines {
		out = append(out, line, line+" ", line+" 0", " "+line)
	}
	slices.Sort(out)
	return out
}

// Rule of the document: each word with each rest and without one, behind
// partitions at the limits and in between, and all other lines.
func TestLines(t *testing.T) {
	for _, line := range allLines() {
		for _, from := range []string{"0", "0 1", "0 1 0 2", "0 0 0 0", sevenAlone, eightTogether, eightAlone} {
			mustBeAsOnDesk(t, script("part "+from, line, "show"))
		}
		mustBeAsOnDesk(t, script(line))
	}
}

// Rule of the document, written out: what is no line of a word is another line,
// and a rest that is not as told fails. Both change nothing.
func TestOtherLines(t *testing.T) {
	what := func(line string) { checkLine(t, lineCase{"0 1 0", line, "what", ""}) }
	for _, line := range oddLines {
		what(line)
		what(line + " ")
		what(line + " 0 1")
		what(" " + line)
	}
	for name, w := range deskWords() {
		what(" " + name)
		if w.told != noRest {
			what(name)
			for _, rest := range oddRests[:slices.Index(oddRests, "0")] {
				checkLine(t, lineCase{"0 1 0", name + " " + rest, "no", ""})
			}
			continue
		}
		for _, rest := range oddRests {
			what(name + " " + rest)
		}
	}
}

// Rule of the document: a number has one to three digits, zeros ahead of it among them.
func TestDigits(t *testing.T) {
	for _, c := range []lineCase{
		{"0", "part 00 001 000", "ok", "0 1 0"},
		{"0", "part 000 001 002 003 004 005 006 007", "ok", eightAlone},
		{"0", "part 0000", "no", ""},
		{"0", "part 0 0001", "no", ""},
		{"0", "kernel 1 01 001", "ok", "0 0 0"},
		{"0", "kernel 100 10 1 010", "ok", "0 1 2 1"},
		{"0", "kernel 999 998 999", "ok", "0 1 0"},
		{"0", "kernel 1000", "no", ""},
		{"0", "kernel 1000 1", "no", ""},
		{"0", "at 004 007", "ok", "0 1 0 2"},
		{"0", "at 4 0007", "no", ""},
		{"0", "at 8 1000", "no", ""},
		{"0 1", "put 002", "ok", "0 1 2"},
		{"0 1", "put 0002", "no", ""},
		{"0 1", "drop 000", "ok", "0"},
		{"0 1", "drop 0000", "no", ""},
		{"0 1", "meet 00 000", "ok", "0 1"},
		{"0 1", "join 00 000", "ok", "0 0"},
		{"0 1", "rings 001 00", "ok", "0 0"},
		{"0 1", "finer 000 00", "yes", ""},
		{"0 1", "finer 0000 0", "no", ""},
		{"0 1", "sign 000 00", "-1", ""},
		{"0 1", "number 012 012", "1", ""},
		{"0 1", "number 0012 12", "no", ""},
		{"0 1", "all 012", "4213597", ""},
		{"0 1", "all 0012", "no", ""},
		{"0 1", "plain 007", "429", ""},
		{"0 1", "plain 0007", "no", ""},
	} {
		checkLine(t, c)
	}
	for number := range 1000 {
		for _, form := range []string{"%d", "%02d", "%03d", "%04d"} {
			text := fmt.Sprintf(form, number)
			mustBeAsOnDesk(t, script("kernel 7 "+text+" 77 777", "show", "put "+text, "at 7 "+text, "show", "all "+text))
		}
	}
}

// Rule of the document: a word has as many numbers as told.
func TestHowManyNumbers(t *testing.T) {
	for name, w := range deskWords() {
		if w.told == noRest || w.told == anyRest {
			continue
		}
		for count := 1; count <= 5; count++ {
			line := name + strings.Repeat(" 1", count)
			mustBeAsOnDesk(t, script("part 0 1 0", line, "show"))
			if count != w.told {
				checkLine(t, lineCase{"0 1 0", line, "no", ""})
			}
		}
	}
	for count := 1; count <= 250; count++ {
		told := strings.Repeat(" 0", count)
		mustBeAsOnDesk(t, script("part"+told, "show"))
		mustBeAsOnDesk(t, script("kernel"+told, "show"))
	}
}

// Rule of the document: only digits are of numbers, and only a space stands
// between them, whatever byte is there.
func TestEachByte(t *testing.T) {
	for number := range 256 {
		b := string([]byte{byte(number)})
		for _, line := range []string{b, "show" + b, b + "show", "part" + b + "0", "part " + b, "part 0" + b + "1", "part 0 " + b, "part 0 1" + b, "part " + b + "0 1", "kernel 9 9" + b + "9 9", "put " + b} {
			mustBeAsOnDesk(t, script("part 0 1 0", line, "show"))
		}
	}
}

// Promise 71, and the edge cases of a script as a whole.
func TestScriptEnds(t *testing.T) {
	for _, c := range []struct{ text, want string }{
		{"", "things 1\n"},
		{"show", "things 1\n"},
		{"part 0 1", "things 1\n"},
		{" ", "things 1\n"},
		{"\xff", "things 1\n"},
		{"\n", "what\nthings 1\n"},
		{"\n\n", "what\nwhat\nthings 1\n"},
		{"\nshow\n\n", "what\n0\nwhat\nthings 1\n"},
		{"show\n", "0\nthings 1\n"},
		{"show\nshow", "0\nthings 1\n"},
		{"part 0 1\nput 2", "ok\nthings 2\n"},
		{"part 0 1\nput 2\n", "ok\nok\nthings 3\n"},
		{"show\r\nshow\n", "what\n0\nthings 1\n"},
		{"show\rshow\n", "what\nthings 1\n"},
		{"part " + eightAlone + "\nnext\n", "ok\nno\nthings 8\n"},
	} {
		mustPrint(t, c.text, c.want)
	}
}

// Rule of the document: a script has at most MaxScript bytes, those behind the last newline among them.
func TestMaxScript(t *testing.T) {
	if impl.MaxScript != mostScript {
		t.Fatalf("MaxScript is %d, want %d", impl.MaxScript, mostScript)
	}
	whats := func(count int) string { return strings.Repeat("what\n", count) }
	for _, c := range []struct{ text, want string }{
		{strings.Repeat("\n", 600), whats(600) + "things 1\n"},
		{strings.Repeat("\n", 601), "too long\n"},
		{strings.Repeat("show\n", 120), strings.Repeat("0\n", 120) + "things 1\n"},
		{strings.Repeat("show\n", 120) + "s", "too long\n"},
		{strings.Repeat("show\n", 120) + "\n", "too long\n"},
		{strings.Repeat("a", 599) + "\n", "what\nthings 1\n"},
		{strings.Repeat("a", 600) + "\n", "too long\n"},
		{strings.Repeat("a", 600), "things 1\n"},
		{strings.Repeat("a", 601), "too long\n"},
		{"show\n" + strings.Repeat("a", 595), "0\nthings 1\n"},
		{"show\n" + strings.Repeat("a", 596), "too long\n"},
		// Bytes count, and not signs: these have two bytes each.
		{strings.Repeat("é", 300), "things 1\n"},
		{strings.Repeat("é", 301), "too long\n"},
		{strings.Repeat("é", 299) + "e\n", "what\nthings 1\n"},
		{strings.Repeat("é", 300) + "\n", "too long\n"},
		{strings.Repeat("\xff", 601), "too long\n"},
		{strings.Repeat("part 0 1\n", 1000), "too long\n"},
		{"part" + strings.Repeat(" 0", 297) + "\n", "no\nthings 1\n"},
		{"kernel " + strings.Repeat("0", 592) + "\n", "no\nthings 1\n"},
	} {
		mustPrint(t, c.text, c.want)
	}
}

// dice chooses numbers that look as if by chance, the same ones each time.
type dice uint64

// below returns a number below another one.
func (d *dice) below(n int) int {
	*d = *d*6364136223846793005 + 1442695040888963407
	return int(uint64(*d) >> 33 % uint64(n))
}

// someScripts calls for scripts of complete lines, of at most so many bytes, many of them of just so many.
func someScripts(count int, greatest int, check func(text string)) {
	lines := slices.DeleteFunc(allLines(), func(line string) bool { return len(line) > 60 })
	d := dice(count)
	for _, text := range []string{"", "\n", "show\n", script("part "+eightAlone, "blocks"), strings.Repeat("\n", greatest), strings.Repeat("a", greatest-1) + "\n"} {
		check(text)
	}
	for round := range count {
		text := script("part " + listText(listed()[1+d.below(most)][0]))
		for range 3 + d.below(60) {
			line := lines[d.below(len(lines))] + "\n"
			if d.below(3) > 0 {
				// Lines chosen evenly fail too often for the partition to change much.
				line = script([]string{"next", "before", "turned", "show", "pairs", "merges", "put 0", "put 1", "drop 0", "place", "arcs"}[d.below(11)])
			}
			if len(text)+len(line) <= greatest {
				text += line
			}
		}
		if rest := greatest - len(text); round%3 == 0 && rest > 0 {
			text += strings.Repeat("z", rest-1) + "\n"
		}
		check(text)
	}
}

// Rule of the document: lines work on what the lines ahead of them made.
func TestScripts(t *testing.T) {
	someScripts(3000, mostScript, func(text string) { mustBeAsOnDesk(t, text) })
}

// Promise 71.
func TestBehindTheLastNewline(t *testing.T) {
	someScripts(400, mostScript, func(text string) {
		want := impl.Execute(text)
		if want == "" || !strings.HasSuffix(want, "\n") {
			t.Fatalf("Execute of %q returned %q", text, want)
		}
		for _, behind := range []string{"s", "show", "put 0", "part 0 1", " ", "\x00", "\xff", strings.Repeat("z", mostScript-len(text))} {
			if len(text)+len(behind) <= mostScript {
				mustPrint(t, text+behind, want)
			}
		}
		mustPrint(t, text+strings.Repeat("z", mostScript-len(text)+1), "too long\n")
	})
}

// lastLine parts an output into all lines but the last one, and this.
func lastLine(output string) (string, string) {
	cut := strings.LastIndex(strings.TrimSuffix(output, "\n"), "\n") + 1
	return output[:cut], output[cut:]
}

// Promise 72.
func TestWhatAndNo(t *testing.T) {
	someScripts(800, mostScript-11, func(text string) {
		ahead, last := lastLine(impl.Execute(text))
		mustPrint(t, text+"zzz\npart x\n", ahead+"what\nno\n"+last)
	})
}

// Promise 73.
func TestShowTwice(t *testing.T) {
	someScripts(800, mostScript-10, func(text string) {
		ahead, last := lastLine(impl.Execute(text))
		got := impl.Execute(text + "show\nshow\n")
		rest, begins := strings.CutPrefix(got, ahead)
		shown, ends := strings.CutSuffix(rest, last)
		half := len(shown) / 2
		if !begins || !ends || shown == "" || shown[:half] != shown[half:] {
			t.Fatalf("Execute of %q with show twice behind it returned %q", text, got)
		}
	})
}

// Promises 74 and 75, for all partitions.
func TestPartAndPlace(t *testing.T) {
	for _, a := range partitionsTo(most) {
		place, ok := impl.ListPlace(a)
		if !ok || place != placeOf(a) {
			t.Fatalf("ListPlace of %v returned %d, %v", a, place, ok)
		}
		mustPrint(t, script("part "+listText(a), "place", "show"), fmt.Sprintf("ok\n%d\n%s\nthings %d\n", place, listText(a), len(a)))
		cross, ok := impl.ArcCross(a)
		if wanted, _ := crossAndNest(a); !ok || cross != wanted {
			t.Fatalf("ArcCross of %v returned %d, %v", a, cross, ok)
		}
		mustPrint(t, script("part "+listText(a), "cross", "turned"), fmt.Sprintf("ok\n%d\nok\nthings %d\n", cross, len(a)))
	}
}

// Rule of the document: an empty list is printed as a sign of its own, and the
// numbers of each list of a list stand beside each other.
func TestListsPrinted(t *testing.T) {
	mustPrint(t, script("arcs", "merges", "pairs", "blocks", "type", "ring"), "-\n-\n-\n0\n1\n0\nthings 1\n")
	mustPrint(t, script("part 0 0 0 1 1", "arcs", "merges", "pairs", "blocks", "type", "ring"),
		"ok\n01 12 34\n00000\n01 02 12 34\n012 34\n3 2\n1 2 0 4 3\nthings 5\n")
}

// Rule of the document: functions keep no state between calls, so that the same
// script has the same output, also at once with others.
func TestScriptsAgain(t *testing.T) {
	var all []question
	put := func(text string) {
		all = append(all, question{"Execute", func() string { return impl.Execute(text) }})
	}
	someScripts(60, mostScript, put)
	for _, c := range slices.Concat(madeCases, failedCases, askedCases) {
		put(script("part "+c.from, c.line, "show"))
		put(script(c.line, "show"))
	}
	for _, text := range []string{"", "show", "part 0 1", strings.Repeat("a", mostScript+1)} {
		put(text)
	}
	checkAgain(t, all)
}

// Rule of the document: scripts that run at once have nothing in common.
func TestScriptsAtOnce(t *testing.T) {
	outputs := make(chan string)
	asked := 0
	var want []string
	someScripts(100, mostScript, func(text string) {
		want = append(want, deskOutput(text))
		asked++
		go func() { outputs <- impl.Execute(text) }()
	})
	var got []string
	for range asked {
		got = append(got, <-outputs)
	}
	slices.Sort(got)
	slices.Sort(want)
	if !slices.Equal(got, want) {
		t.Fatalf("%d scripts that run at once have other outputs", asked)
	}
}
