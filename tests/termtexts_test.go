package tests

import (
	"fmt"
	"slices"
	"strconv"
	"strings"
	"testing"

	"loop.example/g00081/impl"
)

// What may stand at a place of a tree.
const (
	inTerm = iota + 1
	inWord
	inNumber
)

// readTermByDefinition tells all that stands at each place first, and then
// looks for faults in the document's order, one kind behind the other.
func readTermByDefinition(decls []impl.Decl, text string) (impl.Term, int64, int64) {
	tree, code, at := impl.ReadTree(text)
	if code != 0 {
		return impl.Term{}, code, at
	}
	if !rightDecls(decls) {
		return impl.Term{}, impl.TmDecls, 0
	}
	roles := make([]int, len(tree.Nodes))
	roles[0] = inTerm
	for place := range tree.Nodes {
		if code := faultAt(decls, tree, place, roles); code != 0 {
			return impl.Term{}, code, int64(place)
		}
	}
	var x impl.Term
	var places []int64
	gather(decls, tree, 0, &x, &places)
	if len(x.Nodes) > 400 {
		return impl.Term{}, impl.TmMany, 0
	}
	var widths []int64
	for i, node := range x.Nodes {
		var kids []int64
		for _, kid := range node.Kids {
			kids = append(kids, widths[kid])
		}
		width := nodeByTable(decls, node, kids)
		switch {
		case width == 0:
			return impl.Term{}, impl.TmRange, places[i]
		case width > 4096:
			return impl.Term{}, impl.TmWide, places[i]
		}
		widths = append(widths, width)
	}
	return x, 0, 0
}

// faultAt tells that of one place, and gives the Kids of a list their roles.
func faultAt(decls []impl.Decl, tree impl.Tree, place int, roles []int) int64 {
	node := tree.Nodes[place]
	known := func(decl impl.Decl) bool { return decl.Name == node.Text }
	switch role := roles[place]; {
	case role == inWord:
		return 0
	case role == inNumber:
		if n, err := strconv.Atoi(node.Text); err != nil || n < 0 || n > 4096 || strconv.Itoa(n) != node.Text {
			return impl.TmValue
		}
		return 0
	case node.Text == "":
		return listFault(tree, node.Kids, roles)
	case strings.HasPrefix(node.Text, "#"):
		if _, ok := impl.ReadBits(node.Text); !ok {
			return impl.TmValue
		}
		return 0
	case !nameByDefinition(node.Text):
		return impl.TmForm
	case !slices.ContainsFunc(decls, known):
		return impl.TmName
	}
	return 0
}

func listFault(tree impl.Tree, kids []int64, roles []int) int64 {
	if len(kids) == 0 {
		return impl.TmForm
	}
	numbers := map[string]int{"cat": 0, "part": 2, "zero": 1, "sign": 1, "left": 1, "right": 1, "rep": 1}
	word := tree.Nodes[kids[0]].Text
	count, ok := numbers[word]
	behind := kids[1:]
	if !ok || word == "cat" && len(behind) < 2 || word != "cat" && len(behind) != count+1 {
		return impl.TmForm
	}
	roles[kids[0]] = inWord
	for i, kid := range behind {
		roles[kid] = inTerm
		if i < count {
			roles[kid] = inNumber
			if tree.Nodes[kid].Text == "" {
				return impl.TmForm
			}
		}
	}
	return 0
}

func gather(decls []impl.Decl, tree impl.Tree, place int64, x *impl.Term, places *[]int64) int64 {
	node := tree.Nodes[place]
	var out impl.TNode
	switch {
	case node.Text == "":
		out = gatherList(decls, tree, node.Kids, x, places)
	case node.Text[0] == '#':
		out.Op = impl.TmBits
		out.Value, _ = impl.ReadBits(node.Text)
	default:
		out = variable(int64(slices.IndexFunc(decls, func(d impl.Decl) bool { return d.Name == node.Text })))
	}
	x.Nodes = append(x.Nodes, out)
	*places = append(*places, place)
	return int64(len(x.Nodes) - 1)
}

func gatherList(decls []impl.Decl, tree impl.Tree, kids []int64, x *impl.Term, places *[]int64) impl.TNode {
	out := impl.TNode{Op: int64(slices.Index(opWords, tree.Nodes[kids[0]].Text))}
	number := func(i int) int64 {
		n, _ := strconv.ParseInt(tree.Nodes[kids[i]].Text, 10, 64)
		return n
	}
	first := 2
	switch out.Op {
	case impl.TmCat:
		first = 1
	case impl.TmPart:
		out.A, out.B, first = number(1), number(2), 3
	default:
		out.A = number(1)
	}
	for _, kid := range kids[first:] {
		out.Kids = append(out.Kids, gather(decls, tree, kid, x, places))
	}
	return out
}

// checkRead tells whether there is a term, when it is read as the document asks.
func checkRead(t *testing.T, decls []impl.Decl, text string) (impl.Term, bool) {
	t.Helper()
	x, code, at := impl.ReadTerm(decls, text)
	want, wantCode, wantAt := readTermByDefinition(decls, text)
	if code != wantCode || at != wantAt || !sameTerm(x, want) {
		t.Fatalf("%q is read as %v, %d, %d, want %v, %d, %d", short(text), x, code, at, want, wantCode, wantAt)
	}
	return x, code == 0
}

func checkTermText(t *testing.T, decls []impl.Decl, text string) {
	t.Helper()
	x, ok := checkRead(t, decls, text)
	if !ok {
		return
	}
	checkTerm(t, decls, x)
	tree, _, _ := impl.ReadTree(text)
	if got := impl.WriteTerm(decls, x); !strings.Contains(text, "#") && got != impl.WriteTree(tree) {
		t.Fatalf("%q comes back as %q", short(text), short(got))
	}
	again, code, at := impl.ReadTerm(decls, impl.WriteTerm(decls, x))
	if code != 0 || at != 0 || !sameTerm(again, x) {
		t.Fatalf("%q is written and read as %v, %d, %d", short(text), again, code, at)
	}
}

func checkToldTerms(t *testing.T, decls []impl.Decl, list []told) {
	t.Helper()
	for _, c := range list {
		x, code, at := impl.ReadTerm(decls, c.text)
		if code != c.code || at != c.at {
			t.Errorf("%s %q: %d at %d, want %d at %d", c.what, short(c.text), code, at, c.code, c.at)
		}
		if code != 0 && len(x.Nodes) != 0 {
			t.Errorf("%s: a term beside a code", c.what)
		}
		checkTermText(t, decls, c.text)
	}
}

func TestReadTermReads(t *testing.T) {
	decls := someDecls()
	for _, c := range []struct {
		text string
		want impl.Term
	}{
		{"a", term(variable(0))},
		{"cat", term(variable(3))},
		{"(cat cat cat)", term(variable(3), variable(3), cat(0, 1))},
		{"#b01", term(constant("01"))},
		{"#x0f", term(constant("00001111"))},
		{"#b0101", term(constant("0101"))},
		{" (part 3 0\n a) ; all of it", term(variable(0), part(3, 0, 0))},
		{"(part 2 2(cat b c))", term(variable(1), variable(2), cat(0, 1), part(2, 2, 2))},
		{"(cat b (part 2 1 a) #b1)", term(variable(1), variable(0), part(2, 1, 1), constant("1"), cat(0, 2, 3))},
		{"(zero 0 (sign 1 (left 2 (right 3 (rep 4 c)))))", term(variable(2), one(impl.TmRep, 4, 0), one(impl.TmRight, 3, 1), one(impl.TmLeft, 2, 2), one(impl.TmSign, 1, 3), one(impl.TmZero, 0, 4))},
		{"(left 4096 (right 4096 x9))", term(variable(4), one(impl.TmRight, 4096, 0), one(impl.TmLeft, 4096, 1))},
	} {
		x, code, at := impl.ReadTerm(decls, c.text)
		if code != 0 || at != 0 || !sameTerm(x, c.want) {
			t.Errorf("%q is read as %v, %d, %d", c.text, x, code, at)
		}
		checkTermText(t, decls, c.text)
	}
}

func TestReadTermTellsEachFault(t *testing.T) {
	decls := someDecls()
	checkToldTerms(t, decls, []told{
		{"too long", strings.Repeat(" ", 20001), impl.TrLong, 0},
		{"a byte", "(cat a\tb)", impl.TrByte, 6},
		{"closes nothing", "a)", impl.TrClose, 1},
		{"more", "a b", impl.TrMore, 2},
		{"too deep", strings.Repeat("(zero 0 ", 101) + "a", impl.TrDeep, 808 - 7},
		{"too many in the tree", "(cat" + strings.Repeat(" a", 1999) + ")", impl.TrMany, 4 + 2*1998 + 1},
		{"not closed", "(cat a b", impl.TrOpen, 8},
		{"no tree", " ;a", impl.TrNone, 3},
		{"an empty list", "()", impl.TmForm, 0},
		{"an empty list within", "(cat a ())", impl.TmForm, 3},
		{"a word alone", "(cat)", impl.TmForm, 0},
		{"a cat of one", "(cat a)", impl.TmForm, 0},
		{"a word that is none", "(dog a b)", impl.TmForm, 0},
		{"a name as the word", "(a b c)", impl.TmForm, 0},
		{"a word with a capital", "(Cat a b)", impl.TmForm, 0},
		{"the beginning of a word", "(ca a b)", impl.TmForm, 0},
		{"more than a word", "(catt a b)", impl.TmForm, 0},
		{"a list as the word", "((cat) a b)", impl.TmForm, 0},
		{"a Bits as the word", "(#b0 a b)", impl.TmForm, 0},
		{"a part of nothing", "(part 1 0)", impl.TmForm, 0},
		{"a part of two", "(part 1 0 a b)", impl.TmForm, 0},
		{"a part without B", "(part 1 a)", impl.TmForm, 0},
		{"a part with a list for A", "(part (a) 0 a)", impl.TmForm, 0},
		{"a part with a list for B", "(part 1 () a)", impl.TmForm, 0},
		{"a zero of nothing", "(zero 1)", impl.TmForm, 0},
		{"a zero of two", "(zero 1 a b)", impl.TmForm, 0},
		{"a zero with a list for A", "(zero (zero 1 a) a)", impl.TmForm, 0},
		{"a sign without A", "(sign a)", impl.TmForm, 0},
		{"a left of two", "(left 1 a a)", impl.TmForm, 0},
		{"a right with a list for A", "(right () a)", impl.TmForm, 0},
		{"a rep of two", "(cat a (rep 1 2 a))", impl.TmForm, 3},
		{"a number where a term stands", "(cat a 1)", impl.TmForm, 3},
		{"a capital", "A", impl.TmForm, 0},
		{"a name of 13 bytes", "abcdefghijklm", impl.TmForm, 0},
		{"a name of 12 bytes", "abcdefghijkl", impl.TmName, 0},
		{"a sign in a name", "(zero 1 a-b)", impl.TmForm, 3},
		{"a name that is not declared", "d", impl.TmName, 0},
		{"a word as a name that is not declared", "(cat a part)", impl.TmName, 3},
		{"the beginning of a name", "x", impl.TmName, 0},
		{"more than a name", "(rep 1 x99)", impl.TmName, 3},
		{"a sign alone", "#", impl.TmValue, 0},
		{"no digits", "(cat a #b)", impl.TmValue, 3},
		{"a wrong digit", "#b2", impl.TmValue, 0},
		{"a capital digit", "#xA", impl.TmValue, 0},
		{"a Bits too wide", "#b" + strings.Repeat("0", 4097), impl.TmValue, 0},
		{"a Bits of 4096", "#b" + strings.Repeat("0", 4096), 0, 0},
		{"a Bits of 4096 in fours", "#x" + strings.Repeat("0", 1024), 0, 0},
		{"a Bits of 4100 in fours", "#x" + strings.Repeat("0", 1025), impl.TmValue, 0},
		{"A is a name", "(zero a a)", impl.TmValue, 2},
		{"A is below 0", "(zero -1 a)", impl.TmValue, 2},
		{"A has a sign", "(zero +1 a)", impl.TmValue, 2},
		{"A has a nought ahead", "(zero 01 a)", impl.TmValue, 2},
		{"A is 00", "(zero 00 a)", impl.TmValue, 2},
		{"A is 4097", "(left 4097 a)", impl.TmValue, 2},
		{"A is 4096", "(left 4096 a)", 0, 0},
		{"A is 40960", "(left 40960 a)", impl.TmValue, 2},
		{"A is far too great", "(left 18446744073709551617 a)", impl.TmValue, 2},
		{"A is a Bits", "(left #b1 a)", impl.TmValue, 2},
		{"B is 4097", "(part 1 4097 a)", impl.TmValue, 3},
		{"B is a name", "(part 1 b a)", impl.TmValue, 3},
		{"A is above the width", "(part 4 0 a)", impl.TmRange, 0},
		{"B is above A", "(part 1 2 a)", impl.TmRange, 0},
		{"A and B are above the width", "(cat a (part 4096 4096 a))", impl.TmRange, 3},
		{"no times", "(rep 0 a)", impl.TmRange, 0},
		{"a cat too wide", "(cat a (zero 4092 a))", impl.TmWide, 0},
		{"a zero too wide", "(zero 4093 a)", impl.TmWide, 0},
		{"a sign too wide", "(cat a (sign 4096 c))", impl.TmWide, 3},
		{"a sign of 4096", "(sign 4095 c)", 0, 0},
		{"a rep too wide", "(rep 1025 a)", impl.TmWide, 0},
		{"a rep of 4096", "(rep 1024 a)", 0, 0},
		{"a rep of a rep", "(rep 4096 (rep 4096 c))", impl.TmWide, 0},
	})
}

func TestReadTermTellsTheFirstOfTwoFaults(t *testing.T) {
	decls := someDecls()
	many := "(cat" + strings.Repeat(" c", 400) + ")"
	checkToldTerms(t, decls, []told{
		{"not closed, and no form", "(dog", impl.TrOpen, 4},
		{"more, and no name", "d e", impl.TrMore, 2},
		{"two names", "(cat d e)", impl.TmName, 2},
		{"no name, then no form", "(cat d (dog))", impl.TmName, 2},
		{"no form, then no name", "(cat (dog) d)", impl.TmForm, 2},
		{"a list ahead of what is in it", "(dog d)", impl.TmForm, 0},
		{"a wrong number of terms ahead of what is in it", "(zero x d e)", impl.TmForm, 0},
		{"A ahead of B", "(part x y d)", impl.TmValue, 2},
		{"B ahead of the term", "(part 1 y d)", impl.TmValue, 3},
		{"the term behind both", "(part 1 0 d)", impl.TmName, 4},
		{"A ahead of the term", "(zero x d)", impl.TmValue, 2},
		{"A ahead of a list", "(zero x (dog))", impl.TmValue, 2},
		{"a deep fault ahead of a later one", "(cat (zero 1 (rep 1 #b2)) A)", impl.TmValue, 8},
		{"no value, then no name", "(cat #b d)", impl.TmValue, 2},
		{"a bound, then no name", "(cat (part 9 0 a) d)", impl.TmName, 7},
		{"a bound, then no form", "(part 9 0 (cat a (dog)))", impl.TmForm, 7},
		{"too wide, then no value", "(cat (rep 4096 a) #b)", impl.TmValue, 6},
		{"a wrong number, and a bound", "(cat (rep 0 a) (rep 4097 a))", impl.TmValue, 8},
		{"too many, and a bound", "(cat (rep 0 a) " + many + ")", impl.TmMany, 0},
		{"too many, and no name", "(cat d " + many + ")", impl.TmName, 2},
		{"too many, and no name at the end", "(cat " + many + " d)", impl.TmName, 404},
		{"a bound, then too wide", "(cat (rep 0 a) (rep 4096 a))", impl.TmRange, 2},
		{"too wide, then a bound", "(cat (rep 4096 a) (rep 0 a))", impl.TmWide, 2},
		{"a bound within what is too wide", "(rep 4096 (cat a (part 4 0 a)))", impl.TmRange, 6},
		{"too wide within a bound", "(part 1 2 (rep 4096 a))", impl.TmWide, 4},
		{"the inner one of two", "(part 9 9 (part 9 8 a))", impl.TmRange, 4},
		{"Kids from the left", "(cat (left 1 (rep 0 a)) (rep 0 a))", impl.TmRange, 5},
		{"too wide twice", "(cat (rep 4096 b) (rep 4096 b))", impl.TmWide, 2},
	})
	checkToldTerms(t, []impl.Decl{{Name: "a", Width: 0}}, []told{
		{"not closed, and decls", "(cat a a", impl.TrOpen, 8},
		{"nothing, and decls", "", impl.TrNone, 0},
		{"decls, and no form", "(dog)", impl.TmDecls, 0},
		{"decls, and a name", "(cat b b)", impl.TmDecls, 0},
		{"decls alone", "#b0", impl.TmDecls, 0},
	})
}

func TestReadTermAtItsLimits(t *testing.T) {
	decls := someDecls()
	pad := func(text string, length int) string { return text + strings.Repeat(" ", length-len(text)) }
	around := func(count int) string { return strings.Repeat("(left 1 ", count) + "a" + strings.Repeat(")", count) }
	checkToldTerms(t, decls, []told{
		{"20000 bytes", pad("(cat a b)", 20000), 0, 0},
		{"20001 bytes", pad("(cat a b)", 20001), impl.TrLong, 0},
		{"400 nodes", "(cat" + strings.Repeat(" c", 399) + ")", 0, 0},
		{"401 nodes", "(cat" + strings.Repeat(" c", 400) + ")", impl.TmMany, 0},
		{"1998 names", "(cat" + strings.Repeat(" c", 1998) + ")", impl.TmMany, 0},
		{"400 nodes with numbers", "(cat" + strings.Repeat(" (part 0 0 c)", 199) + " c)", 0, 0},
		{"401 nodes with numbers", "(cat" + strings.Repeat(" (part 0 0 c)", 200) + ")", impl.TmMany, 0},
		{"100 lists around", around(100), 0, 0},
		{"101 lists around", around(101), impl.TrDeep, 801},
	})
	for _, width := range []int{1, 4096} {
		decls := []impl.Decl{{Name: "abcdefghijkl", Width: int64(width)}}
		checkToldTerms(t, decls, []told{
			{"the name", "abcdefghijkl", 0, 0},
			{"less of it", "abcdefghijk", impl.TmName, 0},
			{"its last bit", fmt.Sprintf("(part %d %d abcdefghijkl)", width-1, width-1), 0, 0},
			{"as often as may be", fmt.Sprintf("(rep %d abcdefghijkl)", 4096/width), 0, 0},
			{"once more", fmt.Sprintf("(cat (rep %d abcdefghijkl) abcdefghijkl)", 4096/width), impl.TmWide, 0},
		})
	}
	for place, decl := range manyDecls(60, 1) {
		x, code, at := impl.ReadTerm(manyDecls(60, 1), decl.Name)
		if code != 0 || at != 0 || !sameTerm(x, term(variable(int64(place)))) {
			t.Errorf("%s is read as %v, %d, %d", decl.Name, x, code, at)
		}
	}
}

func TestReadTermOfAllNumbers(t *testing.T) {
	decls := someDecls()
	for n := range 4200 {
		for _, form := range []string{"(left %d a)", "(right %d a)", "(zero %d c)", "(sign %d c)", "(rep %d b)", "(part %d 0 w)", "(part 64 %d w)"} {
			checkRead(t, decls, fmt.Sprintf(form, n))
		}
	}
}

func TestReadTermOfThrownTexts(t *testing.T) {
	d := dice{state: 17}
	decls := someDecls()
	odd := []string{"()", "(dog a)", "A", "d", "#b", "#b2", "-1", "4097", "01", "4096", "0", "9", "(cat)", "(cat a)", "part", "(part 1 0)", "(rep 0 a)", "(rep 4096 w)", "(part 2 3 a)", "(zero 1 a b)"}
	for range 20000 {
		text := impl.WriteTerm(decls, thrownTerm(&d, decls, 9))
		words := strings.Fields(strings.ReplaceAll(strings.ReplaceAll(text, "(", " ( "), ")", " ) "))
		for range d.below(4) {
			at := d.below(len(words))
			switch d.below(4) {
			case 0:
				words[at] = odd[d.below(len(odd))]
			case 1:
				words = slices.Insert(words, at, odd[d.below(len(odd))])
			case 2:
				if words[at] != "(" && words[at] != ")" && len(words) > 1 {
					words = slices.Delete(words, at, at+1)
				}
			default:
				words[at] = words[d.below(len(words))]
			}
		}
		checkTermText(t, decls, strings.Join(words, " "))
	}
}

func TestReadTermOfEveryByte(t *testing.T) {
	decls := someDecls()
	for c := range 256 {
		s := string([]byte{byte(c)})
		for _, form := range []string{"?", "a?", "?a", "(left ? a)", "(left 1? a)", "(left ?1 a)", "(cat a ?)", "(ca? a b)", "#?0", "#b?", "#x?", "(part 1 ? a)"} {
			checkTermText(t, decls, strings.ReplaceAll(form, "?", s))
		}
	}
}
