package tests

import (
	"fmt"
	"slices"
	"sort"
	"strings"
	"testing"

	"loop.example/g00081/impl"
)

// Lines that change a session with the variables a (two bits) and b (one bit)
// and two scopes; lines that only ask; and lines that are refused.

var changingLines = []string{"(declare c 1)", "(declare c 4096)", "(equal a a)", "(equal a #b01)", "(equal a #b10)", "(equal #b1 #b0)", "(unlike a #b11)", "(unlike b b)", "(push)", "(pop)"}

var askingLines = []string{
	"(check 0)", "(check 1)", "(check 20000)", "(check 20001)", "(check 1000000)", "(core 0)", "(core 9)", "(core 20001)", "(value a)", "(value (cat a b))", "(value zz)", "(value ())",
	"(same a a)", "(same a b)", "(same a zz)", "(forced a)", "(forced zz)", "(slices)", "(free)", "(normal (left 1 a))", "(normal zz)", "(save)", "(back)", "", "   ",
}

var refusedLines = []string{
	"(declare a 1)", "(declare b 4)", "(declare c 0)", "(declare c 4097)", "(declare c 1000000)", "(declare c 1000001)", "(declare C 1)", "(declare c)", "(declare c 1 1)", "(declare c 01)",
	"(equal a b)", "(unlike a b)", "(equal a zz)", "(unlike zz a)", "(equal a ())", "(equal a)", "(equal a a a)", "(unlike a a a)", "(equal a", "(push 1)", "(pop a)", "push", "(pop", "(check 01)", "(check)", "(value)", "(value a b)", "(foo)", "x", "()", ";", "(push)(pop)", "(pop) x",
}

// twoScopes has values by one visit: a is 01, b is 0.
var twoScopes = []string{"(declare a 2)", "(push)", "(declare b 1)", "(unlike a #b00)"}

func TestScriptForgetsValues(t *testing.T) {
	ask := []string{"(check 9)", "(value (cat a b))"}
	for _, line := range changingLines {
		if got := saidLast(t, slices.Concat(twoScopes, ask, []string{line, "(value a)"})...); got != "none" {
			t.Errorf("%s: %s", line, got)
		}
		if got := saidLast(t, slices.Concat(twoScopes, ask, []string{line, "(value #b1)"})...); got != "none" {
			t.Errorf("%s: %s", line, got)
		}
	}
	for _, line := range slices.Concat(askingLines, refusedLines, wrongLines) {
		if got := saidLast(t, slices.Concat(twoScopes, ask, []string{line, "(value (cat a b))"})...); got != "#b010" {
			t.Errorf("%s: %s", line, got)
		}
		// nor does it bring any
		if got := saidLast(t, slices.Concat(twoScopes, []string{line, "(value (cat a b))"})...); got != "none" && !slices.Contains([]string{"(check 1)", "(check 20000)"}, line) {
			t.Errorf("%s: %s", line, got)
		}
	}
}

// Values are those of the last check that said sat, whatever other checks said since.
func TestScriptValues(t *testing.T) {
	checkStory(t, "(value #b1) => none", "(value a) => none", "(check 0) => sat 0", "(value #b1) => #b1", "(value (cat #b1 #b0)) => #b10", "(value a) => none", "(value (rep 4096 #b1)) => #x"+strings.Repeat("f", 1024), "(value (rep 4095 #b1)) => #b"+strings.Repeat("1", 4095), "(value (rep 4097 #b1)) => none",
		"(push) => scopes 2", "(value #b1) => none", "(check 0) => sat 0", "(value #b1) => #b1", "(pop) => scopes 1", "(value #b1) => none", "(pop) => code 8", "(check 0) => sat 0", "(pop) => code 8", "(value #b1) => #b1")
	checkStory(t, "(declare a 3) => ok", "(value a) => none", "(check 0) => sat 0", "(value a) => #b000", "(unlike a #b000) => id 1", "(value a) => none", "(check 0) => many 0", "(value a) => none", "(check 1) => sat 1", "(value a) => #b001", "(check 0) => many 0", "(value a) => #b001", "(core 0) => many", "(value (left 1 a)) => #b010", "(check 20001) => bad", "(value a) => #b001",
		"(push) => scopes 2", "(value a) => none", "(equal a #b110) => id 2", "(check 0) => sat 0", "(value a) => #b110", "(equal (part 0 0 a) #b1) => id 3", "(value a) => none", "(check 9) => unsat 0", "(value a) => none", "(core 9) => core 2 3", "(value a) => none", "(pop) => scopes 1", "(value a) => none", "(check 9) => sat 1", "(value a) => #b001",
		"(declare b 2) => ok", "(value a) => none", "(value b) => none", "(check 9) => sat 1", "(value (cat b a)) => #b00001", "(declare b 2) => code 3", "(value b) => #b00", "(equal a b) => code 7", "(value b) => #b00", "(equal a c) => code 6", "(value b) => #b00", "(equal b #b11) => id 4", "(value b) => none", "(check 9) => sat 1", "(value (cat b a)) => #b11001")
}

func TestScriptSavesAtTheEnd(t *testing.T) {
	row := func(count int) string { return "(cat" + strings.Repeat(" a", count) + ")" }
	lines := []string{"(declare a 1)"}
	for range 9 {
		lines = append(lines, "(equal "+row(399)+" "+row(399)+")")
	}
	length := func(more ...string) int {
		p := play{on: newDesk()}
		for _, line := range slices.Concat(lines, more) {
			p.line(line)
		}
		return len(tapeOf(p.on.session()))
	}
	count := sort.Search(399, func(n int) bool {
		return length("(declare b 1)", "(unlike "+row(n+1)+" "+row(n+1)+")") > 60000
	})
	lines = append(lines, "(unlike "+row(count)+" "+row(count)+")")
	for length("(declare b 1)") < 60000-10 {
		lines = append(lines, fmt.Sprint("(declare c", len(lines), " 1)"))
	}
	name := "b" + strings.Repeat("x", 60000-length("(declare b 1)"))
	for _, c := range []struct{ name, save, back string }{{name, "saved 60000", "same"}, {name + "x", "saved 0", "lost"}} {
		declare := "(declare " + c.name + " 1)"
		if got := saidLast(t, slices.Concat(lines, []string{declare, "(save)"})...); got != c.save {
			t.Errorf("%d bytes: %s", length(declare), got)
		}
		if got := saidLast(t, slices.Concat(lines, []string{declare, "(back)"})...); got != c.back {
			t.Errorf("%d bytes: %s", length(declare), got)
		}
		// the other lines do not hang on it
		if got := saidLast(t, slices.Concat(lines, []string{declare, "(save)", "(back)", "(equal a #b1)", "(check 0)", "(forced (cat a a))"})...); got != "#b11 #b11" {
			t.Errorf("%d bytes: %s", length(declare), got)
		}
	}
}

// Thrown scripts.

func lineOfMove(m move) string {
	switch m.kind {
	case "declare":
		return fmt.Sprint("(declare ", m.name, " ", m.width, ")")
	case "push", "pop":
		return "(" + m.kind + ")"
	}
	return "(" + m.kind + " " + m.left + " " + m.right + ")"
}

func thrownAsking(d *dice, decls []impl.Decl) string {
	most := []int{0, 1, 2, 3, 5, 20, 300, 2000, 20000, 20001}[d.below(10)]
	row := d.row(1 + d.below(6))
	x, y := textOfRow(row), textOfRow(row)
	if len(decls) > 0 {
		s, u := thrownSides(d, decls, 3)
		x, y = textByTable(decls, s), textByTable(decls, u)
	}
	switch d.below(30) {
	case 0:
		x = []string{"zz", "()", "#b2", "(rep 0 #b1)", "(", "x x"}[d.below(6)]
	case 1:
		y = []string{"zz", "(cat " + y + ")", "(zero 1 " + y + ")", "", "#"}[d.below(5)]
	}
	switch d.below(11) {
	case 0, 1:
		return fmt.Sprint("(check ", most, ")")
	case 2, 3:
		return "(value " + x + ")"
	case 4:
		return "(same " + x + " " + y + ")"
	case 5:
		return "(forced " + x + ")"
	case 6:
		return fmt.Sprint("(core ", most, ")")
	case 7:
		return "(normal " + x + ")"
	default:
		return []string{"(slices)", "(free)", "(save)", "(back)"}[d.below(4)]
	}
}

func thrownLines(d *dice, count int) []string { return thrownLinesOn(d, newDesk(), count) }

// thrownLinesOn are so many, some of them of blanks alone; they fit a desk most
// of the time. Variables are few, so that the pictures have not too much to do.
func thrownLinesOn(d *dice, on desk, count int) []string {
	var lines []string
	for len(lines) < count {
		switch n := d.below(20); {
		case n == 0:
			lines = append(lines, strings.Repeat(" ", d.below(3)))
		case n == 1:
			lines = append(lines, wrongLines[d.below(len(wrongLines))])
		case n < 10:
			m := thrownMove(d, on)
			if len(on.decls()) > 3 && m.kind == "declare" {
				continue
			}
			lines = append(lines, lineOfMove(m))
			if _, _, ok := formOfLine(lastOf(lines)); ok {
				on, _, _ = m.on(on)
			}
		default:
			lines = append(lines, dressed(d, thrownAsking(d, on.decls())))
		}
	}
	return lines
}

// dressed puts blanks and comments around a line.
func dressed(d *dice, line string) string {
	switch d.below(8) {
	case 0:
		return "  " + line + " "
	case 1:
		return line + " ; (free)"
	}
	return line
}

// kindOf is the line and its answer without numbers, terms and words.
func kindOf(line, said string) string {
	word, _, _ := formOfLine(line)
	answer, _, _ := strings.Cut(said, " ")
	if word == "normal" && said != "bad" {
		answer = "text"
	}
	if strings.HasPrefix(answer, "#") {
		answer = "bits"
	}
	return word + ": " + answer
}

func TestScriptsThrown(t *testing.T) {
	d := dice{state: 2301}
	kinds := map[string]int{}
	for range 1000 {
		text := scriptOf(thrownLines(&d, 1+d.below(45))...)
		got := checkScript(t, text)
		lines, _ := linesByPicture(text)
		for i, said := range strings.Split(strings.TrimSuffix(got, "\n"), "\n") {
			if len(lines) > 0 {
				kinds[kindOf(lines[i], said)]++
			}
		}
	}
	for _, kind := range []string{"declare: ok", "declare: code", "equal: id", "equal: code", "unlike: id", "unlike: code", "push: scopes", "pop: scopes", "pop: code", "check: sat", "check: unsat", "check: many", "check: bad", "value: bits", "value: none", "same: yes", "same: no", "same: clash", "same: bad", "forced: bits", "forced: clash", "forced: bad", "core: core", "core: sat", "core: many", "core: bad", "slices: slices", "free: free", "normal: text", "normal: bad", "save: saved", "back: same", ": what"} {
		if kinds[kind] < 10 {
			t.Errorf("%s: %d times", kind, kinds[kind])
		}
	}
}

// The promise: what a script said stays said when more lines stand behind it.
func TestScriptsStaySaid(t *testing.T) {
	d := dice{state: 2302}
	for range 60 {
		lines := thrownLines(&d, 2+d.below(40))
		all := impl.RunScript(scriptOf(lines...))
		for count := range len(lines) + 1 {
			ahead := impl.RunScript(scriptOf(lines[:count]...))
			if !strings.HasPrefix(all, ahead) {
				t.Fatalf("%s\nsaid:\n%s\nand with more behind it:\n%s", scriptOf(lines[:count]...), ahead, all)
			}
			counted, _ := linesByPicture(scriptOf(lines[:count]...))
			if strings.Count(ahead, "\n") != len(counted) {
				t.Fatalf("%d lines are said of %d", strings.Count(ahead, "\n"), len(counted))
			}
		}
	}
}

// The promise: a pair of push and pop around lines that only ask changes no
// answer behind it. (What value tells is another thing: a push forgets the
// values, until there is a check again.)
func TestScriptsWithAPairOfPushAndPop(t *testing.T) {
	d := dice{state: 2303}
	pairs := 0
	for range 300 {
		lines := thrownLines(&d, 2+d.below(30))
		at := d.below(len(lines) + 1)
		ahead := impl.RunScript(scriptOf(lines[:at]...))
		pair := []string{"(push)"}
		asking := slices.Concat(askingLines, wrongLines)
		for range d.below(5) {
			pair = append(pair, asking[d.below(len(asking))])
		}
		pair = append(pair, "(check 20000)", "(pop)")
		around := impl.RunScript(scriptOf(slices.Concat(lines[:at], pair)...))
		if strings.HasPrefix(around[len(ahead):], "code") {
			continue
		}
		pairs++
		without := strings.TrimPrefix(impl.RunScript(scriptOf(lines...)), ahead)
		with := strings.TrimPrefix(impl.RunScript(scriptOf(slices.Concat(lines[:at], pair, lines[at:])...)), around)
		behind, _ := linesByPicture(scriptOf(lines[at:]...))
		checkSaidBehind(t, behind, without, with)
	}
	if pairs < 200 {
		t.Error(pairs)
	}
}

// checkSaidBehind takes each value as none, up to a check that says sat or a change.
func checkSaidBehind(t *testing.T, lines []string, without, with string) {
	t.Helper()
	a, b := strings.Split(without, "\n"), strings.Split(with, "\n")
	if len(a) != len(b) || len(a) != len(lines)+1 {
		t.Fatalf("%q: %q, and with a pair ahead: %q", lines, without, with)
	}
	forgotten := true
	for i, line := range lines {
		kind := kindOf(line, b[i])
		forgotten = forgotten && kind != "check: sat"
		if strings.HasPrefix(kind, "value: ") && forgotten {
			a[i] = "none"
		}
		if a[i] != b[i] {
			t.Fatalf("%q: %s, and with a pair ahead: %s", line, a[i], b[i])
		}
	}
}

// What is refused, and what only asks, leaves nothing behind.
func TestScriptsWithLinesThatLeaveNothing(t *testing.T) {
	d := dice{state: 2304}
	p := play{on: newDesk()}
	for _, line := range twoScopes {
		p.line(line)
	}
	idle := slices.DeleteFunc(slices.Concat(askingLines, refusedLines, wrongLines), bringsValues)
	for range 300 {
		lines := slices.DeleteFunc(thrownLinesOn(&d, p.on, 2+d.below(25)), changesTwoScopes)
		more, own := slices.Clone(twoScopes), []bool{true, true, true, true}
		for _, line := range lines {
			for d.below(2) == 0 && len(more) < 30 {
				more, own = append(more, idle[d.below(len(idle))]), append(own, false)
			}
			more, own = append(more, line), append(own, true)
		}
		said := strings.Split(impl.RunScript(scriptOf(more...)), "\n")
		left := ""
		for i := range own {
			if own[i] {
				left += said[i] + "\n"
			}
		}
		if want := impl.RunScript(scriptOf(slices.Concat(twoScopes, lines)...)); left != want {
			t.Fatalf("%q said %q, want %q", more, left, want)
		}
	}
}

// bringsValues is told of lines of blanks, too, as these say nothing.
func bringsValues(line string) bool {
	return strings.HasPrefix(line, "(check ") || strings.Trim(line, " ") == ""
}

// changesTwoScopes tells by which lines one of refusedLines could become a right one.
func changesTwoScopes(line string) bool {
	word, _, _ := formOfLine(line)
	return word == "pop" || word == "declare" || strings.Trim(line, " ") == ""
}

// The promise: the same script says the same, whatever was run in between.
func TestScriptsKeepNothing(t *testing.T) {
	d := dice{state: 2305}
	keeps(t, impl.RunScript, "")
	keeps(t, impl.RunScript, "(free)")
	var texts, said []string
	for range 40 {
		text := scriptOf(thrownLines(&d, 1+d.below(40))...)
		keeps(t, impl.RunScript, text)
		texts, said = append(texts, text), append(said, impl.RunScript(text))
	}
	for i, text := range slices.Backward(texts) {
		if got := impl.RunScript(text); got != said[i] {
			t.Fatalf("%s\nsaid:\n%s\nand then:\n%s", text, said[i], got)
		}
	}
	// at the same time
	done := make(chan string)
	for i := range texts {
		go func() {
			if impl.RunScript(texts[i]) == said[i] {
				done <- ""
			} else {
				done <- texts[i]
			}
		}()
	}
	for range texts {
		if text := <-done; text != "" {
			t.Errorf("%s\nsaid something else", text)
		}
	}
}

// Any bytes are answered.
func TestScriptsOfAnyBytes(t *testing.T) {
	d := dice{state: 2306}
	words := []string{"(", ")", "(declare ", "a", "b", "zz", " ", " ", "\n", "\n", ";", "(equal ", "(unlike ", "(check ", "(value ", "(same ", "(forced ", "(core ", "(free)", "(slices)", "(push)", "(pop)", "(normal ", "(cat ", "#b1", "#x0", "0", "1", "4", "20000", "1000001", ")\n", ")\n", " a)\n", " 2)\n", " b a)\n", "\x00", "\xff", "\t"}
	for range 2000 {
		text := ""
		for range d.below(60) {
			text += words[d.below(len(words))]
		}
		if d.below(5) > 0 {
			text += "\n"
		}
		checkScript(t, text)
	}
	for range 300 {
		text := []byte(scriptOf(thrownLines(&d, 1+d.below(12))...))
		for range 1 + d.below(4) {
			text[d.below(len(text))] = byte(d.below(256))
		}
		checkScript(t, string(text))
	}
	for _, text := range allTexts("(a \n", 5) {
		checkScript(t, text)
	}
}
