package tests

import (
	"fmt"
	"math"
	"slices"
	"strings"
	"testing"

	"loop.example/g00081/impl"
)

func manyDecls(count int, width int64) []impl.Decl {
	var decls []impl.Decl
	for i := range count {
		decls = append(decls, impl.Decl{Name: fmt.Sprint("v", i), Width: width})
	}
	return decls
}

func checkDecls(t *testing.T, what string, decls []impl.Decl) {
	t.Helper()
	want := rightDecls(decls)
	if impl.DeclsOk(decls) != want {
		t.Fatalf("%s: told %v of %v", what, !want, decls)
	}
	x := term(constant("01"))
	if got := impl.WidthOf(decls, x); (got == 2) != want {
		t.Fatalf("%s: width %d", what, got)
	}
	_, code, at := impl.ReadTerm(decls, "#b01")
	if (code == 0) != want || !want && code != impl.TmDecls || at != 0 {
		t.Fatalf("%s: a term is read with %d at %d", what, code, at)
	}
	if !want {
		checkWrongTerm(t, decls, x)
		if impl.ValuesOk(decls, make([]impl.Bits, len(decls))) || impl.LiteralsOk(decls, nil) || impl.FirstFails(decls, nil, nil) != -1 {
			t.Fatalf("%s: values or literals are right", what)
		}
	}
}

func TestDeclsOkByCountAndWidth(t *testing.T) {
	for _, c := range []struct {
		count int
		width int64
		want  bool
	}{{0, 1, true}, {1, 1, true}, {59, 1, true}, {60, 1, true}, {61, 1, false}, {1000, 1, false}, {1, 4096, true}, {1, 4097, false}, {1, 0, false}, {1, -1, false}, {4, 4096, true}, {5, 4096, false}, {5, 4000, true}, {60, 333, true}, {60, 334, false}, {1, math.MaxInt64, false}, {2, math.MaxInt64, false}, {2, math.MinInt64, false}, {4, 1 << 62, false}} {
		decls := manyDecls(c.count, c.width)
		if impl.DeclsOk(decls) != c.want {
			t.Errorf("%d of width %d: want %v", c.count, c.width, c.want)
		}
		checkDecls(t, fmt.Sprint(c), decls)
	}
	all := append(manyDecls(4, 4096), impl.Decl{Name: "rest", Width: 3616})
	checkDecls(t, "20000 bits", all)
	if !impl.DeclsOk(all) {
		t.Error("20000 bits in all are right")
	}
	all[4].Width++
	checkDecls(t, "20001 bits", all)
	if impl.DeclsOk(all) {
		t.Error("20001 bits in all are too many")
	}
	if !impl.DeclsOk(nil) || !impl.DeclsOk([]impl.Decl{}) {
		t.Error("no decls are right")
	}
}

func TestDeclsOkByWidthOfEach(t *testing.T) {
	for place := range 3 {
		for _, width := range []int64{math.MinInt64, -4096, -1, 0, 1, 2, 4095, 4096, 4097, 1 << 32, math.MaxInt64} {
			decls := manyDecls(3, 7)
			decls[place].Width = width
			checkDecls(t, fmt.Sprint(place, " ", width), decls)
		}
	}
}

func TestDeclsOkByName(t *testing.T) {
	for _, c := range []struct {
		name string
		want bool
	}{{"a", true}, {"z", true}, {"a0", true}, {"z9", true}, {"cat", true}, {"abcdefghijkl", true}, {"abcdefghijklm", false}, {"a12345678901", true}, {"a123456789012", false}, {"", false}, {"0", false}, {"9a", false}, {"A", false}, {"aB", false}, {"a_b", false}, {"a b", false}, {"#b0", false}, {"é", false}, {"a\x00", false}, {strings.Repeat("a", 1<<16), false}} {
		for _, decls := range [][]impl.Decl{{{Name: c.name, Width: 1}}, {{Name: "first", Width: 1}, {Name: c.name, Width: 1}}, {{Name: c.name, Width: 1}, {Name: "last", Width: 1}}} {
			if impl.DeclsOk(decls) != c.want {
				t.Errorf("%q: want %v", short(c.name), c.want)
			}
		}
	}
	for c := range 256 {
		for _, name := range []string{string([]byte{byte(c)}), "a" + string([]byte{byte(c)}), "a" + string([]byte{byte(c)}) + "b"} {
			checkDecls(t, name, []impl.Decl{{Name: name, Width: 3}})
		}
	}
}

func TestDeclsOkWantsUnlikeNames(t *testing.T) {
	for i := range 60 {
		for _, j := range []int{0, 1, 30, 58, 59} {
			decls := manyDecls(60, 1)
			decls[i].Name = decls[j].Name
			if got := impl.DeclsOk(decls); got != (i == j) {
				t.Errorf("%d named as %d: told %v", i, j, got)
			}
		}
	}
	checkDecls(t, "the same twice", []impl.Decl{{Name: "a", Width: 1}, {Name: "a", Width: 1}})
	checkDecls(t, "the same name of two widths", []impl.Decl{{Name: "a", Width: 1}, {Name: "b", Width: 1}, {Name: "a", Width: 2}})
	checkDecls(t, "one the beginning of another one", []impl.Decl{{Name: "a", Width: 1}, {Name: "ab", Width: 1}, {Name: "abc", Width: 2}})
}

func TestEachOpByItself(t *testing.T) {
	decls := someDecls()
	for _, c := range []struct {
		x    impl.Term
		text string
	}{
		{term(variable(0)), "a"},
		{term(variable(3)), "cat"},
		{term(constant("0101")), "#x5"},
		{term(constant("01010")), "#b01010"},
		{term(variable(1), constant("1"), cat(0, 1)), "(cat b #b1)"},
		{term(variable(1), variable(0), variable(2), cat(1, 0, 2)), "(cat a b c)"},
		{term(variable(0), part(2, 1, 0)), "(part 2 1 a)"},
		{term(variable(0), part(3, 0, 0)), "(part 3 0 a)"},
		{term(variable(0), one(impl.TmZero, 0, 0)), "(zero 0 a)"},
		{term(variable(0), one(impl.TmZero, 4092, 0)), "(zero 4092 a)"},
		{term(variable(0), one(impl.TmSign, 12, 0)), "(sign 12 a)"},
		{term(variable(0), one(impl.TmLeft, 4096, 0)), "(left 4096 a)"},
		{term(variable(0), one(impl.TmRight, 10, 0)), "(right 10 a)"},
		{term(variable(0), one(impl.TmRep, 1024, 0)), "(rep 1024 a)"},
		{term(variable(0), cat(0, 0)), "(cat a a)"},
		{term(variable(0), part(1, 0, 0), one(impl.TmLeft, 1, 0), cat(1, 2, 1)), "(cat (part 1 0 a) (left 1 a) (part 1 0 a))"},
	} {
		if got := impl.WriteTerm(decls, c.x); got != c.text {
			t.Errorf("written %q, want %q", got, c.text)
		}
		checkTerm(t, decls, c.x)
		back, code, at := impl.ReadTerm(decls, c.text)
		if code != 0 || at != 0 || impl.WriteTerm(decls, back) != c.text {
			t.Errorf("%q: read as %v, %d, %d", c.text, back, code, at)
		}
	}
}

func TestWidthOfByEachWidthAndNumber(t *testing.T) {
	numbers := append(slices.Clone(farPlaces), -4096, 0, 1, 2, 3, 63, 64, 65, 2047, 2048, 2049, 4094, 4095, 4096, 4097)
	for _, width := range []int64{1, 2, 3, 64, 65, 2048, 4095, 4096} {
		decls := []impl.Decl{{Name: "a", Width: width}}
		for _, a := range append(numbers, width-1, width, width+1, 4096-width, 4097-width, 4096/width, 4096/width+1) {
			for op := int64(impl.TmPart); op <= impl.TmRep; op++ {
				checkWidth(t, decls, term(variable(0), one(op, a, 0)))
			}
			for _, b := range numbers {
				checkWidth(t, decls, term(variable(0), part(a, b, 0)))
				checkWidth(t, decls, term(variable(0), part(b, a, 0)))
			}
		}
	}
}

func checkWidth(t *testing.T, decls []impl.Decl, x impl.Term) {
	t.Helper()
	want := int64(-1)
	if widths := widthsByTable(decls, x); widths != nil {
		want = lastOf(widths)
	}
	if got := impl.WidthOf(decls, x); got != want {
		t.Fatalf("width %d of %v by %v, want %d", got, x, decls, want)
	}
}

func TestWidthOfCats(t *testing.T) {
	decls := []impl.Decl{{Name: "a", Width: 1}, {Name: "b", Width: 2048}, {Name: "c", Width: 4096}}
	ones := func(count int) impl.Term { return term(variable(0), cat(make([]int64, count)...)) }
	for _, c := range []struct {
		x    impl.Term
		want int64
	}{
		{ones(0), -1}, {ones(1), -1}, {ones(2), 2}, {ones(3), 3}, {ones(4095), 4095}, {ones(4096), 4096}, {ones(4097), -1}, {ones(1 << 20), -1},
		{term(variable(1), cat(0, 0)), 4096}, {term(variable(1), variable(0), cat(0, 0, 1)), -1}, {term(variable(1), variable(0), cat(1, 0, 0)), -1},
		{term(variable(2), variable(0), cat(0, 1)), -1}, {term(variable(2), cat(0, 0)), -1}, {term(variable(2), variable(0), part(4094, 0, 0), cat(2, 1)), 4096},
	} {
		if got := impl.WidthOf(decls, c.x); got != c.want {
			t.Errorf("width %d, want %d", got, c.want)
		}
	}
}

func TestTermsOfManyNodes(t *testing.T) {
	decls := someDecls()
	for _, c := range []struct {
		nodes int
		want  int64
	}{{1, 4}, {2, 4}, {399, 4}, {400, 4}, {401, -1}, {402, -1}, {4000, -1}} {
		x := chain(variable(0), c.nodes-1)
		if got := impl.WidthOf(decls, x); got != c.want {
			t.Errorf("%d nodes: width %d, want %d", c.nodes, got, c.want)
		}
		checkTerm(t, decls, x)
	}
	if got := impl.WidthOf(decls, impl.Term{}); got != -1 {
		t.Errorf("no nodes: width %d", got)
	}
	checkTerm(t, decls, impl.Term{})
	checkTerm(t, decls, impl.Term{Nodes: []impl.TNode{}})
	checkTerm(t, decls, impl.Term{Nodes: []impl.TNode{{}}})
}

func TestTermsOneStepFromRight(t *testing.T) {
	decls := someDecls()
	for _, x := range []impl.Term{
		term(variable(1)),
		term(constant("101")),
		term(variable(0), variable(1), cat(0, 1)),
		term(variable(0), cat(0, 0), part(6, 2, 1)),
		term(variable(4), one(impl.TmZero, 1, 0), one(impl.TmLeft, 70, 1)),
		term(variable(5), one(impl.TmSign, 2, 0), one(impl.TmRight, 70, 1)),
		term(constant("10"), one(impl.TmRep, 3, 0), variable(2), cat(1, 2, 0)),
	} {
		for _, wrong := range wrongTerms(x) {
			checkTerm(t, decls, wrong)
		}
	}
}

func TestThrownTerms(t *testing.T) {
	d := dice{state: 11}
	decls := someDecls()
	for range 3000 {
		x := thrownTerm(&d, decls, 14)
		checkTerm(t, decls, x)
		checkComesBack(t, decls, x)
		wrong := wrongTerms(x)
		for range 3 {
			checkTerm(t, decls, wrong[d.below(len(wrong))])
		}
	}
}

// checkComesBack reads the text of a term and writes it again.
func checkComesBack(t *testing.T, decls []impl.Decl, x impl.Term) {
	t.Helper()
	text := impl.WriteTerm(decls, x)
	back, ok := checkRead(t, decls, text)
	if !ok {
		return
	}
	if got := impl.WriteTerm(decls, back); got != text {
		t.Fatalf("%q comes back as %q", short(text), short(got))
	}
	if s, u := impl.Share(decls, x), impl.Share(decls, back); impl.WriteTerm(decls, s) != impl.WriteTerm(decls, u) || len(s.Nodes) != len(u.Nodes) {
		t.Fatalf("%q: shared it is %v, read and shared %v", short(text), s, u)
	}
}

func TestWriteTermAtItsLength(t *testing.T) {
	for _, length := range []int{19998, 19999, 20000, 20001, 20002} {
		for around := range 4 {
			checkLength(t, length, around)
		}
	}
}

// checkLength writes a cat of many names, with lists of one term around it, in just so many bytes.
func checkLength(t *testing.T, length, around int) {
	t.Helper()
	const each, before = " ccccccccc", "(left 1 "
	bare := length - around*(len(before)+len(")"))
	count := (bare - len("(cat )") - 1) / len(each)
	last := strings.Repeat("d", bare-len("(cat )")-count*len(each))
	decls := []impl.Decl{{Name: each[1:], Width: 1}, {Name: last, Width: 1}}
	x := term(variable(0), variable(1), cat(append(make([]int64, count), 1)...))
	for i := range around {
		x.Nodes = append(x.Nodes, one(impl.TmLeft, 1, int64(2+i)))
	}
	want := strings.Repeat(before, around) + "(cat" + strings.Repeat(each, count) + " " + last + ")" + strings.Repeat(")", around)
	if len(want) != length {
		t.Fatalf("%d bytes, not %d", len(want), length)
	}
	if length > 20000 {
		want = ""
	}
	if got := impl.WriteTerm(decls, x); got != want {
		t.Errorf("%d bytes: written with %d", length, len(got))
	}
	checkTerm(t, decls, x)
}

func TestTermsWhoseTextsHaveNoEnd(t *testing.T) {
	decls := someDecls()
	x := term(variable(0))
	for len(x.Nodes) < 399 {
		last := int64(len(x.Nodes) - 1)
		x.Nodes = append(x.Nodes, cat(last, last), part(5, 2, last+1))
	}
	if got := impl.WidthOf(decls, x); got != 4 {
		t.Errorf("width %d", got)
	}
	if got := impl.WriteTerm(decls, x); got != "" {
		t.Errorf("written with %d bytes", len(got))
	}
	if got := impl.Share(decls, x); !sameTerm(got, x) {
		t.Errorf("shared it has %d nodes", len(got.Nodes))
	}
	if got := impl.VarsOf(decls, x); !slices.Equal(got, []int64{0}) {
		t.Errorf("vars %v", got)
	}
	twice := term(variable(0), variable(0))
	for len(twice.Nodes) < 397 {
		last := int64(len(twice.Nodes) - 1)
		twice.Nodes = append(twice.Nodes, cat(last, last-1), cat(last-1, last), part(5, 2, last+1), part(5, 2, last+2))
	}
	twice.Nodes = append(twice.Nodes, cat(int64(len(twice.Nodes)-1), int64(len(twice.Nodes)-2)))
	if got := impl.Share(decls, twice); len(got.Nodes) != 1+2*99+1 || impl.WidthOf(decls, got) != 8 {
		t.Errorf("shared it has %d nodes of %d", len(got.Nodes), len(twice.Nodes))
	}
	back, ok := impl.Replace(decls, x, 0, term(variable(1), one(impl.TmRep, 2, 0)))
	if !ok || len(back.Nodes) != len(x.Nodes)+1 || impl.WidthOf(decls, back) != 4 {
		t.Errorf("replaced: %v with %d nodes", ok, len(back.Nodes))
	}
}

// A right term has a text whether or not a tree may have that many lists
// around a node, or that many nodes: only its length is bounded.
func TestWriteTermOfDeepAndWideTerms(t *testing.T) {
	decls := someDecls()
	for _, around := range []int{99, 100, 101, 102, 399} {
		x := chain(variable(0), around)
		want := strings.Repeat("(zero 0 ", around) + "a" + strings.Repeat(")", around)
		if got := impl.WriteTerm(decls, x); got != want {
			t.Errorf("%d lists around: %q", around, short(got))
		}
		_, code, at := impl.ReadTerm(decls, want)
		if around <= 100 && code != 0 || around > 100 && (code != impl.TrDeep || at != 8*101-7) {
			t.Errorf("%d lists around: read with %d at %d", around, code, at)
		}
	}
	wide := term(variable(2), cat(make([]int64, 4000)...))
	want := "(cat" + strings.Repeat(" c", 4000) + ")"
	if got := impl.WriteTerm(decls, wide); got != want {
		t.Errorf("4000 Kids: %q", short(got))
	}
}

func TestTermCodes(t *testing.T) {
	for place, c := range [][2]int64{{impl.MaxDecls, 60}, {impl.MaxTotal, 20000}, {impl.MaxTerm, 400}, {impl.TmVar, 1}, {impl.TmBits, 2}, {impl.TmCat, 3}, {impl.TmPart, 4}, {impl.TmZero, 5}, {impl.TmSign, 6}, {impl.TmLeft, 7}, {impl.TmRight, 8}, {impl.TmRep, 9}, {impl.TmDecls, 10}, {impl.TmForm, 11}, {impl.TmName, 12}, {impl.TmValue, 13}, {impl.TmMany, 14}, {impl.TmRange, 15}, {impl.TmWide, 16}, {impl.MaxLiterals, 60}} {
		if c[0] != c[1] {
			t.Errorf("constant %d is %d, want %d", place, c[0], c[1])
		}
	}
}
