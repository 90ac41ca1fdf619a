package tests

import (
	"fmt"
	"strings"
	"testing"

	"loop.example/g00081/impl"
)

// readByDefinition goes through a text byte by byte, as the document tells it,
// with no more than what stands around the byte.
func readByDefinition(text string) (impl.Tree, int64, int64) {
	if len(text) > 20000 {
		return impl.Tree{}, impl.TrLong, 0
	}
	var nodes []impl.Node
	var around []int
	comment, word := false, false
	for at := range len(text) {
		c := text[at]
		if c != 10 && (c < 32 || c > 126) {
			return impl.Tree{}, impl.TrByte, int64(at)
		}
		comment = c == ';' || comment && c != 10
		inside := !comment && wordByte(c)
		begins := !comment && c == '(' || inside && !word
		word = inside
		if !comment && c == ')' {
			if len(around) == 0 {
				return impl.Tree{}, impl.TrClose, int64(at)
			}
			around = around[:len(around)-1]
		}
		if inside && !begins {
			nodes[len(nodes)-1].Text += text[at : at+1]
		}
		if !begins {
			continue
		}
		switch {
		case len(around) == 0 && len(nodes) > 0:
			return impl.Tree{}, impl.TrMore, int64(at)
		case len(around) > 100:
			return impl.Tree{}, impl.TrDeep, int64(at)
		case len(nodes) == 2000:
			return impl.Tree{}, impl.TrMany, int64(at)
		}
		if len(around) > 0 {
			parent := &nodes[around[len(around)-1]]
			parent.Kids = append(parent.Kids, int64(len(nodes)))
		}
		if c == '(' {
			around = append(around, len(nodes))
			nodes = append(nodes, impl.Node{})
		} else {
			nodes = append(nodes, impl.Node{Text: text[at : at+1]})
		}
	}
	switch {
	case len(around) > 0:
		return impl.Tree{}, impl.TrOpen, int64(len(text))
	case len(nodes) == 0:
		return impl.Tree{}, impl.TrNone, int64(len(text))
	}
	return impl.Tree{Nodes: nodes}, 0, 0
}

func checkText(t *testing.T, text string) {
	t.Helper()
	tree, code, at := impl.ReadTree(text)
	want, wantCode, wantAt := readByDefinition(text)
	if code != wantCode || at != wantAt || !sameTree(tree, want) {
		t.Fatalf("%q is read as %v, %d, %d, want %v, %d, %d", short(text), tree, code, at, want, wantCode, wantAt)
	}
	if code != 0 {
		return
	}
	if !impl.TreeOk(tree) {
		t.Fatalf("what is read of %q is not right: %v", short(text), tree)
	}
	written := impl.WriteTree(tree)
	if back, code, at := impl.ReadTree(written); code != 0 || at != 0 || !sameTree(back, tree) {
		t.Fatalf("%q is written %q, and that is read as %v, %d, %d", short(text), short(written), back, code, at)
	}
}

func TestReadTreeOfAllShortTexts(t *testing.T) {
	for _, text := range allTexts("a(); \n\t", 6) {
		checkText(t, text)
	}
}

func TestReadTreeOfThrownTexts(t *testing.T) {
	pieces := []string{"a", "bc", "(", "(", "(", ")", ")", " ", " ", "\n", ";", "; )(\n", ";x\n", "#b01", "~", "!", "\x1f", "\x7f", "\xff", "\r"}
	d := dice{state: 3}
	for i := range 40000 {
		kinds := len(pieces)
		if i%4 > 0 {
			kinds -= 4
		}
		text := "("
		for range d.below(40) {
			text += pieces[d.below(kinds)]
		}
		for range strings.Count(text, "(") - strings.Count(text, ")") {
			text += ")"
		}
		checkText(t, text)
	}
}

func TestReadTreeOfEveryByte(t *testing.T) {
	for c := range 256 {
		s := string([]byte{byte(c)})
		for _, text := range []string{s, "a" + s, s + "a", "a" + s + "b", "(" + s + ")", "(a" + s + "b)", "a;" + s, "a;b" + s + "c\n", ";" + s + "\na", "(a;" + s + "\nb)", "a " + s, "(a)" + s} {
			checkText(t, text)
		}
	}
}

// told is a text, and the code and place that the document asks for.
type told struct {
	what     string
	text     string
	code, at int64
}

func checkTold(t *testing.T, list []told) {
	t.Helper()
	for _, c := range list {
		tree, code, at := impl.ReadTree(c.text)
		if code != c.code || at != c.at {
			t.Errorf("%s: %d at %d, want %d at %d", c.what, code, at, c.code, c.at)
		}
		if code != 0 && len(tree.Nodes) != 0 {
			t.Errorf("%s: a tree beside a code", c.what)
		}
		checkText(t, c.text)
	}
}

func TestReadTreeTellsEachFault(t *testing.T) {
	flat := "(" + strings.Repeat("a ", 1999)
	deep := strings.Repeat("(", 101)
	checkTold(t, []told{
		{"too long", strings.Repeat(" ", 20001), impl.TrLong, 0},
		{"a tab", "a\tb", impl.TrByte, 1},
		{"a carriage return", "(a\r\n)", impl.TrByte, 2},
		{"a byte at the start", "\x00a", impl.TrByte, 0},
		{"a byte in a comment", "a ;b\tc\n", impl.TrByte, 4},
		{"a byte at the end of a comment", "a;\xc3", impl.TrByte, 2},
		{"a byte behind the end of a text", "(a)\x7f", impl.TrByte, 3},
		{"the byte 128", "(\x80)", impl.TrByte, 1},
		{"closes nothing", ")", impl.TrClose, 0},
		{"closes nothing any more", "(a) )", impl.TrClose, 4},
		{"closes nothing behind an atom", "a)", impl.TrClose, 1},
		{"a second atom", "a b", impl.TrMore, 2},
		{"a second list", "()()", impl.TrMore, 2},
		{"a list behind an atom", "a(b)", impl.TrMore, 1},
		{"an atom behind a list", "(b)a", impl.TrMore, 3},
		{"an atom behind a comment", "a;b\nc", impl.TrMore, 4},
		{"an atom too deep", deep + "a", impl.TrDeep, 101},
		{"a list too deep", deep + "(", impl.TrDeep, 101},
		{"a list too deep behind another one", "(()" + strings.Repeat("(", 101), impl.TrDeep, 103},
		{"an atom too many", flat + "b)", impl.TrMany, 3999},
		{"a list too many", flat + "())", impl.TrMany, 3999},
		{"not closed", "(a", impl.TrOpen, 2},
		{"one of two not closed", "((a)  ", impl.TrOpen, 6},
		{"closed in a comment", "(a;)", impl.TrOpen, 4},
		{"nothing", "", impl.TrNone, 0},
		{"blanks alone", " \n ", impl.TrNone, 3},
		{"a comment alone", ";(a)", impl.TrNone, 4},
		{"comments alone", ";a\n;b\n", impl.TrNone, 6},
	})
}

func TestReadTreeTellsTheFirstOfTwoFaults(t *testing.T) {
	flat := "(" + strings.Repeat("a ", 1999)
	deep := strings.Repeat("(", 101)
	full := "(" + strings.Repeat("a ", 1899) + strings.Repeat("(", 100)
	checkTold(t, []told{
		{"too long, and a byte", "\t" + strings.Repeat(" ", 20000), impl.TrLong, 0},
		{"too long, and closes nothing", ")" + strings.Repeat("a ", 10000), impl.TrLong, 0},
		{"too long, and not closed", strings.Repeat("(", 20001), impl.TrLong, 0},
		{"closes nothing, then a byte", ")\t", impl.TrClose, 0},
		{"a byte, then closes nothing", "\t)", impl.TrByte, 0},
		{"more, then a byte within it", "a b\t", impl.TrMore, 2},
		{"a byte, then more", "a\t b", impl.TrByte, 1},
		{"more, then closes nothing", "a b)", impl.TrMore, 2},
		{"closes nothing, then more", "a) b", impl.TrClose, 1},
		{"not closed, and a byte", "(a\t", impl.TrByte, 2},
		{"no tree, and a byte", " ;\t", impl.TrByte, 2},
		{"no tree, and closes nothing", ";)\n)", impl.TrClose, 3},
		{"too deep, then a byte", deep + "a\t", impl.TrDeep, 101},
		{"a byte, then too deep", deep + "\ta", impl.TrByte, 101},
		{"too deep, and not closed", deep + "a", impl.TrDeep, 101},
		{"too many, then too deep", flat + strings.Repeat("(", 200), impl.TrMany, 3999},
		{"too many, and a byte within it", flat + "b\t", impl.TrMany, 3999},
		{"too deep, and too many, at one place", full + "a", impl.TrDeep, 3899},
		{"deep and full, but one less deep", "(" + strings.Repeat("a ", 1900) + strings.Repeat("(", 99) + "a", impl.TrMany, 3900},
		{"more, and too many, at one place", flat + ") b", impl.TrMore, 4001},
		{"more, and too many, a list", flat + ")(", impl.TrMore, 4000},
		{"too many, then closes nothing", flat + "b))", impl.TrMany, 3999},
	})
}

func TestReadTreeAtItsLimits(t *testing.T) {
	pad := func(text string, length int) string { return text + strings.Repeat(" ", length-len(text)) }
	checkTold(t, []told{
		{"20000 bytes", pad("(a b)", 20000), 0, 0},
		{"20001 bytes", pad("(a b)", 20001), impl.TrLong, 0},
		{"an atom of 20000", strings.Repeat("a", 20000), 0, 0},
		{"an atom of 20001", strings.Repeat("a", 20001), impl.TrLong, 0},
		{"a comment of 20000", "a;" + strings.Repeat("b", 19998), 0, 0},
		{"20000 blanks", strings.Repeat(" ", 20000), impl.TrNone, 20000},
		{"20000 bytes, not closed", pad("(a", 20000), impl.TrOpen, 20000},
		{"20000 bytes, the last one wrong", pad("(a)", 19999) + "\t", impl.TrByte, 19999},
		{"2000 nodes", "(" + strings.Repeat("a ", 1999) + ")", 0, 0},
		{"2001 nodes", "(" + strings.Repeat("a ", 2000) + ")", impl.TrMany, 3999},
		{"2000 lists", "(" + strings.Repeat("()", 1999) + ")", 0, 0},
		{"2001 lists", "(" + strings.Repeat("()", 2000) + ")", impl.TrMany, 3999},
		{"100 lists around an atom", strings.Repeat("(", 100) + "a" + strings.Repeat(")", 100), 0, 0},
		{"101 lists around an atom", strings.Repeat("(", 101) + "a" + strings.Repeat(")", 101), impl.TrDeep, 101},
		{"100 lists around a list", strings.Repeat("(", 101) + strings.Repeat(")", 101), 0, 0},
		{"101 lists around a list", strings.Repeat("(", 102) + strings.Repeat(")", 102), impl.TrDeep, 101},
		{"deep again and again", "(" + strings.Repeat(strings.Repeat("(", 99)+"a"+strings.Repeat(")", 99), 3) + ")", 0, 0},
	})
	for _, length := range []int{1 << 20, 1<<20 + 1} {
		checkTold(t, []told{{fmt.Sprint(length, " bytes"), strings.Repeat("(", length), impl.TrLong, 0}})
	}
}

func TestLimitsAndCodes(t *testing.T) {
	for place, c := range [][2]int64{{impl.MaxWidth, 4096}, {impl.MaxNodes, 2000}, {impl.MaxDeep, 100}, {impl.MaxText, 20000}, {impl.TrLong, 1}, {impl.TrByte, 2}, {impl.TrClose, 3}, {impl.TrMore, 4}, {impl.TrDeep, 5}, {impl.TrMany, 6}, {impl.TrOpen, 7}, {impl.TrNone, 8}} {
		if c[0] != c[1] {
			t.Errorf("constant %d is %d, want %d", place, c[0], c[1])
		}
	}
}

func TestReadTreeReads(t *testing.T) {
	for _, c := range []struct {
		text string
		want shape
	}{
		{"a", atom("a")}, {" \n a \n", atom("a")}, {"()", list()}, {"( \n)", list()}, {"(a(b)c)", list(atom("a"), list(atom("b")), atom("c"))},
		{"(a\nb  c)", list(atom("a"), atom("b"), atom("c"))}, {"(a;b\nc)", list(atom("a"), atom("c"))}, {"a;b", atom("a")}, {";a\nb", atom("b")}, {"(;;)(\n;\na);", list(atom("a"))},
		{"#x0f", atom("#x0f")}, {"(\"a' !~)", list(atom("\"a'"), atom("!~"))}, {"(()(()))", list(list(), list(list()))},
	} {
		tree, code, at := impl.ReadTree(c.text)
		if code != 0 || at != 0 || !sameTree(tree, treeOfShape(c.want)) {
			t.Errorf("%q: %v, %d, %d", c.text, tree, code, at)
		}
	}
}
