package tests

import (
	"fmt"
	"maps"
	"slices"
	"strings"
	"testing"

	"loop.example/g00081/impl"
)

func scriptOf(lines ...string) string {
	text := ""
	for _, line := range lines {
		text += line + "\n"
	}
	return text
}

// checkScript holds what a script says against the picture.
func checkScript(t *testing.T, text string) string {
	t.Helper()
	got := impl.RunScript(text)
	if want := playedByPicture(text); got != want {
		t.Fatalf("%q\nsaid %q\nwant %q", text, got, want)
	}
	return got
}

// checkStory runs lines with what each of them says behind " => " (nothing
// where it says nothing), as one script.
func checkStory(t *testing.T, story ...string) {
	t.Helper()
	var lines, want []string
	for _, step := range story {
		line, said, ok := strings.Cut(step, " => ")
		lines = append(lines, line)
		if ok {
			want = append(want, said)
		}
	}
	got := strings.SplitAfter(checkScript(t, scriptOf(lines...)), "\n")
	if len(got) != len(want)+1 {
		t.Fatalf("%d lines are said, want %d: %s", len(got)-1, len(want), short(strings.Join(lines, " ")))
	}
	for i, said := range want {
		if got[i] != said+"\n" {
			t.Fatalf("what is said in the place %d is %s, want %s: %s", i, short(got[i]), short(said), short(strings.Join(lines, " ")))
		}
	}
}

// saidLast is what the last line of a script says.
func saidLast(t *testing.T, lines ...string) string {
	t.Helper()
	said := strings.Split(checkScript(t, scriptOf(lines...)), "\n")
	return said[len(said)-2]
}

func TestScriptConstant(t *testing.T) {
	if impl.MaxScript != 60 {
		t.Error(impl.MaxScript)
	}
}

func TestScriptByHand(t *testing.T) {
	checkStory(t,
		"(slices) => slices 0", "(free) => free 0", "(check 0) => sat 0", "(core 0) => sat", "(save) => saved 7", "(back) => same",
		"(declare a 4) => ok", "(declare b 2) => ok", "(slices) => slices 2", "(free) => free 6", "(same a a) => yes", "(same a #x0) => no", "(forced a) => #x0 #x0", "(forced #b101) => #b111 #b101",
		"(equal (part 1 0 a) b) => id 1", "(slices) => slices 3", "(free) => free 4", "(same b (part 1 0 a)) => yes", "(same b (part 3 2 a)) => no", "(same a b) => bad",
		"(push) => scopes 2", "(unlike b #b00) => id 2", "(check 0) => many 0", "(check 1) => sat 1", "(value (cat a b)) => #b000101", "(value b) => #b01", "(forced a) => #x0 #x0",
		"(equal b #b10) => id 3", "(forced a) => #x3 #x2", "(forced (cat b #b1 a)) => #b1110011 #b1010010", "(value a) => none", "(check 0) => sat 0", "(value a) => #x2", "(core 9) => sat",
		"(push) => scopes 3", "(equal a #xd) => id 4", "(check 0) => unsat 0", "(core 0) => core 1 3 4", "(same a a) => clash", "(forced b) => clash", "(free) => free -1", "(slices) => slices 3",
		"(pop) => scopes 2", "(check 20000) => sat 0", "(pop) => scopes 1", "(pop) => code 8", "(equal b b) => id 5", "(normal (cat b (part 3 1 a) (part 0 0 a))) => (cat b a)", "(save) => saved 52", "(back) => same",
	)
	checkStory(t, "(declare a 1) => ok", "(equal a #b0) => id 1", "(equal a #b1) => id 2", "(check 5) => unsat 0", "(core 5) => core 1 2", "(same a a) => clash", "(forced a) => clash", "(free) => free -1", "(back) => same", "(normal (rep 1 a)) => a", "(declare a 2) => code 3", "(pop) => code 8", "(equal a zz) => code 6")
	// a core is told without what does not belong to it
	checkStory(t, "(declare a 2) => ok", "(declare b 2) => ok", "(unlike a #b01) => id 1", "(equal a b) => id 2", "(unlike b #b11) => id 3", "(equal (part 0 0 b) #b1) => id 4", "(equal (part 0 0 a) #b1) => id 5", "(check 9) => unsat 3", "(check 3) => unsat 3", "(check 2) => many 2", "(core 9) => core 1 2 3 4", "(core 3) => core 1 2 3 4", "(core 2) => many", "(core 0) => many")
}

// The codes that can be met: no session of a script is wrong, has a Next of
// 1000000, or has more than 60 literals; and what is no name is no line.
func TestScriptCodes(t *testing.T) {
	checkStory(t, "(declare a 1) => ok", "(declare a 1) => code 3", "(declare a 0) => code 3", "(declare b 0) => code 4", "(declare b 4097) => code 4", "(declare b 1000000) => code 4", "(declare b 4096) => ok", "(declare c 4096) => ok", "(declare d 4096) => ok", "(declare e 4096) => ok", "(declare f 4096) => code 5", "(declare f 3616) => code 5", "(declare f 3615) => ok", "(declare g 1) => code 5", "(declare g 4097) => code 4", "(declare f 1) => code 3")
	checkStory(t, "(equal #b1 #b0) => id 1", "(equal a #b0) => code 6", "(equal #b0 a) => code 6", "(unlike a a) => code 6", "(unlike #b00 #b1) => code 7", "(equal a #b00) => code 6", "(unlike #b1 #b1) => id 2", "(declare a 3) => ok", "(unlike a #b1) => code 7", "(equal a (zero 1 #b10)) => id 3", "(equal (part 3 0 a) a) => code 6")
	push := []string{"(push) => code 5", "(pop) => scopes 19", "(push) => scopes 20", "(push) => code 5"}
	var up, down []string
	for n := 2; n <= 20; n++ {
		up = append(up, fmt.Sprint("(push) => scopes ", n))
		down = append([]string{fmt.Sprint("(pop) => scopes ", n-1)}, down...)
	}
	checkStory(t, slices.Concat([]string{"(pop) => code 8"}, up, push, down, []string{"(pop) => code 8", "(pop) => code 8", "(push) => scopes 2"})...)
	// 60 literals, and no line is left for one more
	var many []string
	for n := 1; n <= 60; n++ {
		many = append(many, fmt.Sprint("(equal #b1 #b1) => id ", n))
	}
	checkStory(t, many...)
	// variables go with their scope, Ids go on
	checkStory(t, "(push) => scopes 2", "(declare a 3) => ok", "(equal a #b101) => id 1", "(pop) => scopes 1", "(equal a #b101) => code 6", "(declare a 2) => ok", "(equal a #b101) => code 7", "(equal a #b10) => id 2", "(check 0) => sat 0", "(value a) => #b10")
}

func TestScriptEnds(t *testing.T) {
	const long = "too long\n"
	for _, c := range []struct{ text, want string }{
		{"", ""}, {"\n", ""}, {"\n\n\n", ""}, {"   \n", ""}, {" \n\n  \n", ""}, {strings.Repeat("\n", 20000), ""}, {strings.Repeat(" ", 19999) + "\n", ""}, {strings.Repeat("  \n", 61), ""},
		{"(free)\n", "free 0\n"}, {"\n(free)\n", "free 0\n"}, {"(free)\n\n", "free 0\n"}, {"  \n (free)  \n   \n( free )\n", "free 0\nfree 0\n"},
		{"(free)", long}, {"x", long}, {"(", long}, {" ", long}, {"(free)\n(free)", long}, {"(free)\n ", long}, {"\n(free)\n\nx", long}, {"(free)\r", long}, {"(free)\n;", long},
		{strings.Repeat("(free)\n", 60), strings.Repeat("free 0\n", 60)}, {strings.Repeat("(free)\n", 61), long}, {strings.Repeat("x\n", 60), strings.Repeat("what\n", 60)}, {strings.Repeat("x\n", 61), long}, {strings.Repeat("x\n", 60) + "x", long}, {strings.Repeat("x\n", 60) + "(free)\n", long}, {"(free)\n" + strings.Repeat(";\n", 60), long},
		// lines of blanks alone, or none, count for nothing
		{strings.Repeat("\n(free)\n  \n", 60), strings.Repeat("free 0\n", 60)}, {strings.Repeat("\n(free)\n  \n", 61), long}, {strings.Repeat(" \n", 100) + strings.Repeat("x\n", 60) + strings.Repeat("\n", 100), strings.Repeat("what\n", 60)}, {strings.Repeat(" \n", 100) + strings.Repeat("x\n", 61), long},
		// other bytes that show nothing are no blanks
		{"\t\n", "what\n"}, {"\r\n", "what\n"}, {" \x00 \n", "what\n"}, {"\x0b\n\x0c\n\u00a0\n", "what\nwhat\nwhat\n"}, {"(free)\r\n", "what\n"}, {"(free)\t\n", "what\n"}, {"\ufeff(free)\n", "what\n"},
	} {
		if got := checkScript(t, c.text); got != c.want {
			t.Errorf("%q: %q, want %q", short(c.text), short(got), short(c.want))
		}
	}
}

// A text of 20000 bytes, and of one more: as blanks, as a comment, as a word and as lines.
func TestScriptOfAllBytes(t *testing.T) {
	const least = "(declare a 1)\n"
	for _, fill := range []struct{ ahead, one, behind, said string }{
		{least + "(free)", " ", "\n", "ok\nfree 1\n"}, {least + "(free) ;", "x", "\n", "ok\nfree 1\n"}, {least, "\n", "(free)\n", "ok\nfree 1\n"}, {least, " ", "\n(free)\n", "ok\nfree 1\n"}, {least + "(free", " ", ")\n", "ok\nfree 1\n"},
		{least + "(", "x", ")\n(free)\n", "ok\nwhat\nfree 1\n"}, {least + "(check ", "9", ")\n", "ok\nwhat\n"}, {least + "(declare ", "b", " 1)\n(free)\n", "ok\nwhat\nfree 1\n"}, {least + "(value #b", "0", ")\n(normal a)\n", "ok\nnone\na\n"}, {least + "(normal #b", "0", ")\n", "ok\nbad\n"}, {least + "(equal a ", "b", ")\n", "ok\ncode 6\n"},
	} {
		for _, c := range []struct {
			length int
			want   string
		}{{20000, fill.said}, {19999, fill.said}, {20001, "too long\n"}, {40000, "too long\n"}} {
			text := fill.ahead + strings.Repeat(fill.one, c.length-len(fill.ahead)-len(fill.behind)) + fill.behind
			if got := checkScript(t, text); got != c.want || len(text) != c.length {
				t.Errorf("%d bytes with %q: %q, want %q", len(text), fill.one, short(got), c.want)
			}
		}
	}
}

func TestScriptWritesNumbers(t *testing.T) {
	for _, c := range []struct{ number, check, declare string }{
		{"0", "sat 0", "code 4"}, {"1", "sat 0", "ok"}, {"9", "sat 0", "ok"}, {"10", "sat 0", "ok"}, {"4096", "sat 0", "ok"}, {"4097", "sat 0", "code 4"}, {"20000", "sat 0", "code 4"}, {"20001", "bad", "code 4"}, {"99999", "bad", "code 4"}, {"100000", "bad", "code 4"}, {"999999", "bad", "code 4"}, {"1000000", "bad", "code 4"},
		{"1000001", "what", "what"}, {"1000002", "what", "what"}, {"1000010", "what", "what"}, {"1100000", "what", "what"}, {"2000000", "what", "what"}, {"9999999", "what", "what"}, {"10000000", "what", "what"},
		{"00", "what", "what"}, {"01", "what", "what"}, {"0000001", "what", "what"}, {"01000000", "what", "what"}, {"-0", "what", "what"}, {"-1", "what", "what"}, {"+1", "what", "what"}, {"1.", "what", "what"}, {"1e3", "what", "what"}, {"1_0", "what", "what"}, {"0x1", "what", "what"}, {"#b1", "what", "what"}, {"#x1", "what", "what"}, {"a", "what", "what"}, {"1a", "what", "what"}, {"a1", "what", "what"}, {"'1'", "what", "what"}, {"1,", "what", "what"}, {"/", "what", "what"}, {":", "what", "what"},
		{"()", "what", "what"}, {"(1)", "what", "what"}, {"(rep 1 #b1)", "what", "what"}, {"", "what", "what"}, {"1 1", "what", "what"}, {"1;", "what", "what"},
		// what would be a small number if it wrapped
		{"4294967296", "what", "what"}, {"4294967297", "what", "what"}, {"9223372036854775807", "what", "what"}, {"9223372036854775808", "what", "what"}, {"18446744073709551616", "what", "what"}, {"18446744073709551617", "what", "what"}, {"340282366920938463463374607431768211457", "what", "what"}, {"1" + strings.Repeat("0", 64), "what", "what"}, {strings.Repeat("1", 5000), "what", "what"}, {strings.Repeat("0", 5000), "what", "what"},
	} {
		core := strings.TrimSuffix(c.check, " 0")
		checkStory(t, "(check "+c.number+") => "+c.check, "(core "+c.number+") => "+core, "(declare v "+c.number+") => "+c.declare, "(save) => saved "+saved(c.number, c.declare == "ok"))
	}
}

func saved(width string, declared bool) string {
	switch {
	case !declared:
		return "7"
	case len(width) > 2:
		return "11"
	}
	return "10"
}

func TestScriptNames(t *testing.T) {
	for _, name := range []string{"a", "z", "a0", "z9", "abcdefghijkl", "a12345678901", "declare", "cat", "push", "equal"} {
		checkStory(t, "(declare "+name+" 2) => ok", "(equal "+name+" #b10) => id 1", "(check 0) => sat 0", "(value "+name+") => #b10", "(normal (rep 2 "+name+")) => (cat "+name+" "+name+")", "(declare "+name+" 2) => code 3")
	}
	for _, name := range []string{"A", "aB", "0", "9", "0a", "9a", "abcdefghijklm", strings.Repeat("a", 5000), "-", "a-b", "a_b", "_a", "#b1", "#x1", "#", "a.", "a'", "`", "{", "a/", "a:", "()", "(a)", "(part 0 0 a)", "a 1", "a;"} {
		checkStory(t, "(declare "+name+" 2) => what", "(free) => free 0", "(save) => saved 7")
	}
}

// wrongLines say what, whatever there is.
var wrongLines = []string{
	"x", "check", "free", "push", "(", ")", "()", "(())", "((free))", "((check) 1)", "((declare a 1))", "(() free)", "((free) free)", "(free", "free)", "(free))", "((free)", "(free)(free)", "(free) (free)", "(free) x", "x (free)", "(check 1", "; nothing", ";", "(free ; )", "(;free)",
	"(foo)", "(foo 1)", "(frees)", "(fre)", "(Free)", "(FREE)", "(free.)", "(-free)", "(1)", "(0 free)", "(#b1)", "(equals a a)", "(equal2 a a)", "(= a a)", "(cat a a)", "(part 0 0 a)", "(declared a 1)", "(assert a a)", "(load)", "(begin)", "(\"free\")",
	"(free)\x01", "(fr\x00ee)", "(free)\t", "\t(free)", "(free\r)", "(free)\x7f", "(free)\x80", "(free) ; \x1f", "; \xff", "(value \xc3\xa4)", "(frée)",
}

func TestScriptWrongLines(t *testing.T) {
	for _, line := range wrongLines {
		checkStory(t, line+" => what", "(declare a 2) => ok", line+" => what", "(check 0) => sat 0", line+" => what", "(value a) => #b00", "(free) => free 2", "(save) => saved 10")
	}
	// trees that are too deep, or have too many nodes
	deep := func(n int) string { return strings.Repeat("(", n) + strings.Repeat(")", n) }
	checkStory(t, "(value "+deep(100)+") => none", "(value "+deep(101)+") => what", deep(101)+" => what", deep(102)+" => what", "(equal #b1 "+deep(100)+") => code 6", "(equal #b1 "+deep(101)+") => what")
	checkStory(t, "(value (cat"+strings.Repeat(" x", 1996)+")) => none", "(value (cat"+strings.Repeat(" x", 1997)+")) => what", "(same #b1 (cat"+strings.Repeat(" x", 1995)+")) => bad", "(same #b1 (cat"+strings.Repeat(" x", 1996)+")) => what")
}

// Each line with words too few and too many: of names, numbers, terms and lists.
func TestScriptCountsWords(t *testing.T) {
	for _, word := range slices.Sorted(maps.Keys(lineForms)) {
		right := len(strings.Fields(lineForms[word]))
		for count := range 6 {
			for _, more := range []string{"a", "1", "#b1", "()", "(rep 1 #b1)"} {
				line := "(" + word + strings.Repeat(" "+more, count) + ")"
				got := saidLast(t, "(push)", "(declare b 3)", line)
				if count != right && got != "what" {
					t.Errorf("%s: %s", line, got)
				}
			}
		}
	}
	for _, line := range []string{"(declare)", "(declare c)", "(declare 1)", "(declare 1 c)", "(declare c 1 1)", "(declare (c 1))", "(declare c 1) 1", "(push 1)", "(push ())", "(pop 1)", "(check)", "(check 1 1)", "(check ())", "(core)", "(core 1 2)", "(slices b)", "(slices 1)", "(free 1)", "(save ())", "(back b)", "(value)", "(value b b)", "(same b)", "(same b b b)", "(forced)", "(forced b b)", "(normal)", "(normal b b)", "(equal b)", "(equal)", "(equal b b b)", "(unlike b)", "(unlike b b b)", "(unlike (b b))"} {
		checkStory(t, "(push) => scopes 2", "(declare b 3) => ok", "(check 0) => sat 0", line+" => what", "(value b) => #b000", "(save) => saved 12", "(slices) => slices 1")
	}
}

// Blanks and comments may stand in a line as in each tree.
func TestScriptLinesAreTrees(t *testing.T) {
	checkStory(t, "   (declare a 2) => ok", "  ", "(  equal   a(cat #b1 #b0)  )   ; a comment with ( and ) => id 1", "", "(check 0); => sat 0", "(value(cat a a));; => #xa", "( same a #b10 ) => yes", " ; a comment alone => what")
}

// Terms that are read with a code, of each kind but those of trees.
var wrongTermTexts = []string{"()", "(())", "zz", "A", "1", "(cat a)", "(cat)", "(a)", "(part a)", "(part 0 a)", "(part () 0 a)", "(foo a)", "(rep a)", "#", "#b", "#b2", "#x", "#xg", "#c1", "#x" + strings.Repeat("1", 1025), "(part 0 01 a)", "(part 0 -1 a)", "(rep 4097 a)", "(zero x a)", "(part 0 1 a)", "(part 4 0 a)", "(rep 0 a)", "(zero 4096 a)", "(rep 1025 a)", "(cat (rep 1000 a) (rep 1000 a))", "(cat" + strings.Repeat(" a", 400) + ")", "(check 1)", "(value a)"}

func TestScriptTermsWithACode(t *testing.T) {
	for _, wrong := range wrongTermTexts {
		checkStory(t, "(declare a 4) => ok", "(value "+wrong+") => none", "(check 0) => sat 0", "(value "+wrong+") => none", "(equal "+wrong+" a) => code 6", "(unlike a "+wrong+") => code 6", "(equal "+wrong+" "+wrong+") => code 6", "(same "+wrong+" a) => bad", "(same a "+wrong+") => bad", "(same "+wrong+" "+wrong+") => bad", "(forced "+wrong+") => bad", "(normal "+wrong+") => bad", "(value a) => #x0", "(save) => saved 10")
		// also where the equalities clash
		checkStory(t, "(declare a 4) => ok", "(equal #b1 #b0) => id 1", "(same "+wrong+" a) => bad", "(same a "+wrong+") => bad", "(forced "+wrong+") => bad", "(normal "+wrong+") => bad", "(same a a) => clash")
	}
}

// Terms for a variable of three bits: of more segments than a form may have, and of just as many.
const (
	formless = "(rep 1001 (cat (part 0 0 a) (part 2 2 a)))"
	formed   = "(rep 1000 (cat (part 0 0 a) (part 2 2 a)))"
)

func TestScriptWithoutForms(t *testing.T) {
	for _, word := range []string{"equal", "unlike"} {
		checkStory(t, "(declare a 3) => ok", "(same "+formed+" "+formed+") => yes", "(same "+formless+" "+formless+") => bad", "(forced "+formless+") => bad", "(normal "+formless+") => bad",
			"(check 0) => sat 0", "(value (part 3 0 "+formless+")) => #x0", "(push) => scopes 2", "("+word+" "+formless+" (zero 0 "+formless+")) => id 1",
			"(check 0) => bad", "(check 20000) => bad", "(core 0) => bad", "(same a a) => bad", "(forced a) => bad", "(slices) => bad", "(free) => free -1", "(value a) => none", "(normal a) => a", "(back) => same",
			"(pop) => scopes 1", "(slices) => slices 1", "(free) => free 3", "(check 1) => sat 0", "(core 0) => sat", "(same a #b000) => no")
	}
	// bad is told ahead of a clash, also where the other words clash
	checkStory(t, "(declare a 3) => ok", "(equal a #b000) => id 1", "(equal a #b111) => id 2", "(same "+formless+" "+formless+") => bad", "(forced "+formless+") => bad", "(same a #b00) => bad", "(same a #b000) => clash", "(equal "+formless+" "+formless+") => id 3", "(same a a) => bad", "(forced a) => bad", "(free) => free -1", "(slices) => bad", "(check 0) => bad", "(core 0) => bad")
}

func TestScriptSameAndForced(t *testing.T) {
	checkStory(t, "(declare a 2) => ok", "(declare b 2) => ok", "(declare c 5) => ok", "(equal a b) => id 1", "(unlike c #b00000) => id 2", "(unlike a #b00) => id 3",
		"(same a b) => yes", "(same b a) => yes", "(same (left 1 a) (left 1 b)) => yes", "(same a (left 1 a)) => no", "(same (cat a b) (rep 2 b)) => yes", "(same #b1 #b1) => yes", "(same #b1 #b0) => no", "(same c #b00000) => no", "(same a c) => bad", "(same c (part 0 0 c)) => bad",
		"(forced (cat #b10 c)) => #b1100000 #b1000000", "(equal (part 3 2 c) #b10) => id 4", "(forced c) => #b01100 #b01000", "(forced (part 3 2 c)) => #b11 #b10", "(forced (rep 4 (part 2 2 c))) => #xf #x0", "(forced (rep 4 (part 3 3 c))) => #xf #xf",
		"(push) => scopes 2", "(equal c #b00000) => id 5", "(same a b) => clash", "(same #b1 #b1) => clash", "(same #b1 #b0) => clash", "(forced #b1) => clash", "(forced a) => clash", "(same a c) => bad", "(free) => free -1", "(pop) => scopes 1",
		"(unlike #b1 #b1) => id 6", "(same a b) => yes", "(forced a) => #b00 #b00", "(free) => free 5", "(check 0) => unsat 0", "(core 0) => many", "(core 9) => core 6")
}

// Of 201 classes none is searched; of 200 all are.
func TestScriptWithLargeGraphs(t *testing.T) {
	checkStory(t, "(declare a 201) => ok", "(unlike a (left 1 a)) => id 1", "(slices) => slices 201", "(check 0) => large", "(check 20000) => large", "(check 20001) => bad", "(core 0) => large", "(core 20001) => bad", "(value a) => none", "(free) => free 201",
		"(declare b 1) => ok", "(equal b #b0) => id 2", "(equal b #b1) => id 3", "(check 0) => unsat 0", "(core 0) => large", "(core 20000) => large")
	checkStory(t, "(declare a 200) => ok", "(unlike a (left 1 a)) => id 1", "(slices) => slices 200", "(check 0) => many 0", "(check 1) => sat 1", "(core 0) => many", "(core 1) => sat", "(value (part 199 198 a)) => #b10", "(declare b 1) => ok", "(value (part 199 198 a)) => none", "(check 20000) => large", "(value b) => none")
}

func TestScriptVisits(t *testing.T) {
	var lines []string
	for i := range 5 {
		lines = append(lines, fmt.Sprintf("(declare v%d 2) => ok", i))
	}
	id := 0
	for i := range 5 {
		for j := range i {
			id++
			lines = append(lines, fmt.Sprintf("(unlike v%d v%d) => id %d", i, j, id))
		}
	}
	checkStory(t, append(lines, "(check 0) => many 0", "(check 1) => many 1", "(check 74) => many 74", "(check 75) => unsat 75", "(check 76) => unsat 75", "(check 20000) => unsat 75", "(check 20001) => bad", "(check 1000000) => bad",
		"(core 0) => many", "(core 74) => many", "(core 75) => core 1 2 3 4 5 6 7 8 9 10", "(core 20000) => core 1 2 3 4 5 6 7 8 9 10", "(core 20001) => bad", "(value v0) => none", "(free) => free 10", "(slices) => slices 5")...)
	// four of them have values
	four := append(slices.Clone(lines[:4]), lines[5:11]...)
	checkStory(t, append(four, "(check 5) => many 5", "(value v3) => none", "(check 6) => sat 6", "(value (cat v3 v2 v1 v0)) => #xe4", "(core 5) => many", "(core 6) => sat", "(check 5) => many 5", "(value (cat v3 v2 v1 v0)) => #xe4", "(check 20001) => bad", "(value v3) => #b11")...)
}

func TestScriptNormal(t *testing.T) {
	checkStory(t, "(declare a 4) => ok", "(declare b 2) => ok", "(normal a) => a", "(normal (part 3 0 a)) => a", "(normal (part 2 1 a)) => (part 2 1 a)", "(normal #b0101) => #x5", "(normal (rep 2 #b01)) => #x5", "(normal (left 1 a)) => (cat (part 2 0 a) (part 3 3 a))", "(normal (sign 2 b)) => (cat (part 1 1 b) (part 1 1 b) b)", "(normal (zero 3 b)) => (cat #b000 b)", "(normal (cat b (cat #b1 #b0) (cat #b11 a))) => (cat b #xb a)", "(normal ()) => bad", "(normal c) => bad", "(equal a #x0) => id 1", "(normal a) => a", "(equal a #x1) => id 2", "(normal a) => a", "(normal (rep 0 a)) => bad")
	// a text of 20000 bytes, and of more; the session may be as it is
	parts := "(cat (part 0 0 a) (rep 768 (cat (part 2 2 a) (part 0 0 a))))"
	row := "(part 0 0 a)" + strings.Repeat(" (part 2 2 a) (part 0 0 a)", 768)
	for _, c := range []struct{ ahead, want string }{
		{" b b b b b b b", "(cat b b b b b b b " + row + ")"}, {" b b b b b b cc", "bad"}, {" b b b b b b b b", "bad"}, {" b b b b b b", "(cat b b b b b b " + row + ")"}, {" b b b b b cc", "(cat b b b b b cc " + row + ")"},
	} {
		checkStory(t, "(declare a 3) => ok", "(declare b 1) => ok", "(declare cc 1) => ok", "(normal (cat"+c.ahead+" "+parts+")) => "+c.want, "(normal a) => a")
	}
	if length := len("(cat b b b b b b b " + row + ")"); length != 20000 {
		t.Error(length)
	}
	checkStory(t, "(declare a 3) => ok", "(normal "+formed+") => bad", "(normal "+formless+") => bad")
	// a term of 399 nodes, whose normal one would have 419
	var lines []string
	turns := "(cat"
	for v := range 20 {
		lines = append(lines, fmt.Sprintf("(declare v%d 11) => ok", v))
		for n := 1; n <= 10 && (v < 19 || n < 10); n++ {
			turns += fmt.Sprintf(" (left %d v%d)", n, v)
		}
	}
	checkStory(t, append(lines, "(normal "+turns+")) => bad", "(normal (part 900 0 "+turns+"))) => "+normalByPicture(manyVs(20, 11), readTerm(t, manyVs(20, 11), "(part 900 0 "+turns+"))")), "(same "+turns+") "+turns+")) => yes")...)
}

func manyVs(count int, width int64) []impl.Decl {
	var decls []impl.Decl
	for v := range count {
		decls = append(decls, impl.Decl{Name: fmt.Sprint("v", v), Width: width})
	}
	return decls
}
