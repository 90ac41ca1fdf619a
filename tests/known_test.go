package tests

import (
	"fmt"
	"math"
	"slices"
	"strings"
	"testing"

	"loop.example/g00081/impl"
)

func class(slices ...int64) impl.Class { return impl.Class{Slices: slices} }

func fixedClass(row string, slices ...int64) impl.Class {
	return impl.Class{Slices: slices, Fixed: true, Value: bitsOfRow(row)}
}

func TestClassAtTellsTheFirst(t *testing.T) {
	const least, most = math.MinInt64, math.MaxInt64
	cl := impl.Classes{List: []impl.Class{class(3, 1), {}, class(0, 2, 2), fixedClass("1", 2, 1, 5), class(-1, most), class(least, 5)}}
	for _, c := range [][2]int64{{3, 0}, {1, 0}, {0, 2}, {2, 2}, {5, 3}, {-1, 4}, {most, 4}, {least, 5}, {4, -1}, {-2, -1}, {6, -1}, {most - 1, -1}, {least + 1, -1}} {
		if got := impl.ClassAt(cl, c[0]); got != c[1] {
			t.Errorf("the slice %d is at %d, want %d", c[0], got, c[1])
		}
	}
	for _, none := range []impl.Classes{{}, {List: []impl.Class{{}}}, {Clash: []int64{0, 1}}, {List: []impl.Class{class(7)}, Cuts: cutsOf(at(0))}} {
		for _, slice := range []int64{0, 1, -1, least, most} {
			if got := impl.ClassAt(none, slice); got != -1 {
				t.Errorf("the slice %d of %v is at %d", slice, none, got)
			}
		}
	}
}

func wantNoKnown(t *testing.T, what string, got []impl.Known, ok bool) {
	t.Helper()
	if ok || len(got) != 0 {
		t.Fatalf("%s: %v, %v, want nothing and false", what, got, ok)
	}
}

// checkKnown is asked of right terms, and of classes whose cuts are right.
func checkKnown(t *testing.T, decls []impl.Decl, cl impl.Classes, x impl.Term) bool {
	t.Helper()
	got, ok := impl.TermClasses(decls, cl, x)
	want, wantOk := knownByPicture(decls, cl, x)
	if ok != wantOk || !slices.EqualFunc(got, want, sameKnown) {
		t.Fatalf("%v by %v: %v, %v, want %v, %v", x, cl, got, ok, want, wantOk)
	}
	return ok
}

// knownText writes what is known short, the lowest first: "0 = 10/2, 1/2, = 1/1".
func knownText(list []impl.Known) string {
	var texts []string
	for _, k := range list {
		text := ""
		if k.Class != -1 {
			text = fmt.Sprint(k.Class, " ")
		}
		if k.Value.Width != 0 {
			text += "= " + rowOfBits(k.Value)
		}
		texts = append(texts, fmt.Sprint(strings.TrimSpace(text), "/", k.Width))
	}
	return strings.Join(texts, ", ")
}

func TestTermClassesByHand(t *testing.T) {
	decls := fourAndOne()
	// a is b, c is 10, e is a above 01, and d is not known
	cl, _ := impl.ClassesOf(decls, readLiterals(t, decls, "a = b", "c = #b10", "e = (cat a #b01)"), impl.Cuts{At: make([][]int64, 5)})
	if text := classesText(cl); text != "0 1 5 | 2 = 10 | 3 | 4 = 01" {
		t.Fatal(text)
	}
	for _, c := range []struct{ text, want string }{
		{"a", "0/2"}, {"b", "0/2"}, {"c", "1 = 10/2"}, {"d", "2/2"}, {"e", "3 = 01/2, 0/2"}, {"#b1", "= 1/1"}, {"#b0000", "= 0000/4"}, {"(cat #b1 #b00)", "= 100/3"},
		{"(cat a b)", "0/2, 0/2"}, {"(cat c d)", "2/2, 1 = 10/2"}, {"(cat e e)", "3 = 01/2, 0/2, 3 = 01/2, 0/2"}, {"(rep 2 c)", "1 = 10/2, 1 = 10/2"}, {"(left 2 e)", "0/2, 3 = 01/2"}, {"(part 3 2 e)", "0/2"}, {"(part 1 0 e)", "3 = 01/2"}, {"(cat (part 3 2 e) (part 1 0 e))", "3 = 01/2, 0/2"}, {"(part 3 2 (cat a d))", "0/2"},
		// constants between slices, each as long as it is
		{"(cat c #b1 a)", "0/2, = 1/1, 1 = 10/2"}, {"(cat #b110 a #b0 #b1 d #b1)", "= 1/1, 2/2, = 01/2, 0/2, = 110/3"}, {"(cat #b1 e #b0)", "= 0/1, 3 = 01/2, 0/2, = 1/1"}, {"(zero 3 a)", "0/2, = 000/3"}, {"(sign 2 (cat #b1 c))", "1 = 10/2, = 111/3"}, {"(rep 2 (cat #b1 a #b0))", "= 0/1, 0/2, = 01/2, 0/2, = 1/1"}, {"(left 1 (cat #b1 a #b0))", "= 01/2, 0/2"}, {"(cat c #b10 c)", "1 = 10/2, = 10/2, 1 = 10/2"},
	} {
		x := readTerm(t, decls, c.text)
		got, ok := impl.TermClasses(decls, cl, x)
		if !ok || knownText(got) != c.want {
			t.Errorf("%s: %s, %v, want %s", c.text, knownText(got), ok, c.want)
		}
		checkKnown(t, decls, cl, x)
	}
	// segments that begin or end where nothing is cut
	for _, text := range []string{"(part 0 0 a)", "(part 1 1 a)", "(left 1 a)", "(sign 1 a)", "(part 2 0 e)", "(part 3 1 e)", "(part 2 1 e)", "(part 2 2 e)", "(left 1 e)", "(right 1 e)", "(cat a (part 0 0 d))", "(cat (part 1 1 d) a)", "(cat c #b1 (part 3 3 e))", "(part 1 0 (cat a d #b1))"} {
		x := readTerm(t, decls, text)
		got, ok := impl.TermClasses(decls, cl, x)
		wantNoKnown(t, text, got, ok)
		checkKnown(t, decls, cl, x)
	}
}

// TermClasses takes the List as it is told.
func TestTermClassesOfOtherLists(t *testing.T) {
	decls := []impl.Decl{{Name: "a", Width: 2}, {Name: "b", Width: 4}} // with b cut at 1: slices 0, 1, 2
	cuts := cutsOf(nil, at(1))
	odd := impl.Class{Slices: []int64{0}, Value: bitsOfRow("11")}
	bare := impl.Class{Slices: []int64{1}, Fixed: true}
	wide := impl.Class{Slices: []int64{1}, Fixed: true, Value: impl.Bits{Width: -3, Words: []uint64{5, 6}}}
	for _, c := range []struct {
		what string
		list []impl.Class
		text string
		want string
	}{
		{"each for itself", []impl.Class{class(0), class(1), class(2)}, "(cat b a)", "0/2, 1/1, 2/3"}, {"another order", []impl.Class{class(2), class(1), class(0)}, "(cat b a)", "2/2, 1/1, 0/3"}, {"one class of unlike widths", []impl.Class{class(2, 0, 1)}, "(cat b a)", "0/2, 0/1, 0/3"},
		{"a slice twice", []impl.Class{class(1), fixedClass("1", 1), class(2, 2), class(0)}, "b", "0/1, 2/3"}, {"a slice twice, fixed first", []impl.Class{fixedClass("1", 1), class(1), class(2)}, "b", "0 = 1/1, 2/3"}, {"empty classes", []impl.Class{{}, class(0), {}}, "a", "1/2"}, {"slices that are none", []impl.Class{class(-1, math.MinInt64, 3, math.MaxInt64), class(9, 0)}, "(cat #b1 a)", "1/2, = 1/1"},
		{"a missing one that is not asked for", []impl.Class{class(0)}, "(cat a #b1)", "= 1/1, 0/2"}, {"nothing for a constant", nil, "#b01", "= 01/2"}, {"a Value that is not Fixed", []impl.Class{odd}, "a", "0/2"},
	} {
		cl := impl.Classes{Cuts: cuts, List: c.list}
		x := readTerm(t, decls, c.text)
		got, ok := impl.TermClasses(decls, cl, x)
		if !ok || knownText(got) != c.want {
			t.Errorf("%s: %s, %v, want %s", c.what, knownText(got), ok, c.want)
		}
		checkKnown(t, decls, cl, x)
	}
	for _, list := range [][]impl.Class{{bare, class(2)}, {wide, class(2)}} {
		cl := impl.Classes{Cuts: cuts, List: list, Clash: []int64{1}}
		if !checkKnown(t, decls, cl, readTerm(t, decls, "b")) {
			t.Errorf("%v is refused", list)
		}
	}
	for _, c := range []struct {
		what string
		list []impl.Class
		text string
	}{
		{"nothing", nil, "a"}, {"an empty class", []impl.Class{{}}, "a"}, {"another slice", []impl.Class{class(1, 2)}, "a"}, {"the first is missing", []impl.Class{class(2)}, "b"}, {"the last is missing", []impl.Class{class(1), class(0)}, "b"}, {"missing behind others", []impl.Class{class(0, 1)}, "(cat b #b1 a)"}, {"missing ahead of others", []impl.Class{class(1, 2)}, "(cat b #b1 a)"}, {"a neighbour", []impl.Class{class(-1, 1)}, "a"}, {"far ones", []impl.Class{class(math.MinInt64, math.MaxInt64, 1<<32)}, "a"},
	} {
		cl := impl.Classes{Cuts: cuts, List: c.list}
		x := readTerm(t, decls, c.text)
		got, ok := impl.TermClasses(decls, cl, x)
		wantNoKnown(t, c.what, got, ok)
		checkKnown(t, decls, cl, x)
	}
}

func TestTermClassesOfThrownTerms(t *testing.T) {
	d := dice{state: 111}
	decls := []impl.Decl{{Name: "a", Width: 7}, {Name: "b", Width: 5}, {Name: "c", Width: 4}, {Name: "d", Width: 1}, {Name: "e", Width: 66}}
	told := [2]int{}
	for range 3000 {
		x, _ := thrownSides(&d, decls, 1+d.below(6))
		cuts := thrownMarks(&d, decls, 2+d.below(9)).cuts()
		if d.below(2) > 0 { // so that the term's own segments are cut
			cuts, _ = impl.CloseCuts(decls, []impl.Literal{literal(1, true, x, x)}, cuts)
		}
		cl, ok := impl.ClassesOf(decls, thrownLiterals(&d, decls, d.below(3), 3), cuts)
		if !ok {
			t.Fatalf("no classes by %v", cuts)
		}
		if d.below(4) == 0 {
			spoilClasses(&d, &cl)
		}
		if checkKnown(t, decls, cl, x) {
			told[1]++
		} else {
			told[0]++
		}
	}
	if told[0] < 500 || told[1] < 500 {
		t.Errorf("too seldom: %v", told)
	}
}

// spoilClasses leaves the cuts right.
func spoilClasses(d *dice, cl *impl.Classes) {
	if len(cl.List) == 0 {
		return
	}
	place, other := d.below(len(cl.List)), d.below(len(cl.List))
	c := &cl.List[place]
	switch d.below(5) {
	case 0:
		cl.List = slices.Delete(cl.List, place, place+1)
	case 1:
		c.Slices = c.Slices[:len(c.Slices)-1]
	case 2:
		c.Slices = append(c.Slices, cl.List[other].Slices...)
	case 3:
		c.Fixed = !c.Fixed
	default:
		cl.List[place], cl.List[other] = cl.List[other], cl.List[place]
	}
}

// What is known of a term's bits is so by all values by which the equalities hold.
func TestTermClassesByAllValues(t *testing.T) {
	d := dice{state: 112}
	decls := []impl.Decl{{Name: "a", Width: 3}, {Name: "b", Width: 2}, {Name: "c", Width: 2}, {Name: "d", Width: 1}}
	values := 0
	for range 300 {
		x, _ := thrownSides(&d, decls, 4)
		list := append(thrownLiterals(&d, decls, 1+d.below(3), 2), literal(1000000, false, x, x))
		cl, ok := impl.ClassesOf(decls, list, thrownMarks(&d, decls, 9).cuts())
		if !ok || len(cl.Clash) > 0 {
			continue
		}
		known, ok := impl.TermClasses(decls, cl, x)
		if !ok {
			t.Fatalf("nothing is known of %v by %v", x, cl)
		}
		for _, rows := range valuesOfAll(decls, equalitiesOf(list, nil)) {
			values++
			checkKnownBits(t, known, lastOf(rowsByTable(rows, x)))
		}
	}
	if values < 1000 {
		t.Errorf("%d values: too few", values)
	}
}

// checkKnownBits holds a term's row against what is known of it; parts of one class are the same.
func checkKnownBits(t *testing.T, known []impl.Known, row string) {
	t.Helper()
	words := make(map[int64]string)
	end := int64(len(row))
	for _, k := range known {
		word := row[end-k.Width : end]
		end -= k.Width
		if k.Value.Width != 0 && rowOfBits(k.Value) != word {
			t.Fatalf("%s in %s is not %v", word, row, k)
		}
		if first, ok := words[k.Class]; k.Class >= 0 && ok && first != word {
			t.Fatalf("%s and %s in %s are of one class", first, word, row)
		}
		words[k.Class] = word
	}
	if end != 0 {
		t.Fatalf("%d bits of %s are not told of", end, row)
	}
}

func TestTermClassesRefuse(t *testing.T) {
	decls := someDecls() // a 4, b 2, c 1, cat 3, x9 64, w 65
	cl, _ := impl.ClassesOf(decls, nil, impl.Cuts{At: make([][]int64, 6)})
	a := term(variable(0))
	if !checkKnown(t, decls, cl, a) {
		t.Fatal("a is known")
	}
	refused := func(what string, decls []impl.Decl, cl impl.Classes, x impl.Term) {
		t.Helper()
		got, ok := impl.TermClasses(decls, cl, x)
		wantNoKnown(t, what, got, ok)
	}
	for _, c := range []impl.Cuts{{}, cutsOf(nil), {At: make([][]int64, 5)}, {At: make([][]int64, 7)}, cutsOf(at(0), nil, nil, nil, nil, nil), cutsOf(nil, at(2), nil, nil, nil, nil), cutsOf(nil, nil, nil, nil, at(2, 2), nil), cutsOf(nil, nil, nil, nil, at(2, 1), nil), cutsOf(nil, nil, at(1), nil, nil, nil), cutsOf(nil, nil, nil, nil, nil, at(65)), cutsOf(at(math.MinInt64), nil, nil, nil, nil, nil), cutsOf(nil, nil, nil, nil, nil, at(1, math.MaxInt64))} {
		wrong := impl.Classes{Cuts: c, List: cl.List}
		refused("wrong cuts", decls, wrong, a)
		refused("wrong cuts", decls, wrong, term(constant("1")))
	}
	for _, wrong := range [][]impl.Decl{{{Name: "a", Width: 0}}, {{Name: "A", Width: 4}}, {{Name: "a", Width: 4}, {Name: "a", Width: 4}}, {{Name: "a", Width: 4097}}, manyDecls(61, 2), manyDecls(60, 334)} {
		refused("wrong decls", wrong, impl.Classes{Cuts: impl.Cuts{At: make([][]int64, len(wrong))}, List: cl.List}, term(constant("1")))
	}
	refused("decls for none", nil, impl.Classes{}, a)
	for _, x := range wrongTerms(term(variable(0), variable(1), constant("01"), cat(0, 1, 2))) {
		if widthsByTable(decls, x) == nil {
			refused("a wrong term", decls, cl, x)
		} else {
			checkKnown(t, decls, cl, x)
		}
	}
	refused("no term", decls, cl, impl.Term{})
	for _, x := range []impl.Term{term(variable(2), one(impl.TmRep, 2001, 0)), term(variable(2), one(impl.TmRep, 2001, 0), part(3, 0, 1)), term(variable(2), one(impl.TmSign, 2000, 0))} {
		refused("no flat form", decls, cl, x)
		checkKnown(t, decls, cl, x)
	}
	if got, ok := impl.TermClasses(decls, cl, term(variable(2), one(impl.TmRep, 2000, 0))); !ok || len(got) != 2000 {
		t.Errorf("2000 segments: %d, %v", len(got), ok)
	}
	if got, ok := impl.TermClasses(nil, impl.Classes{}, term(constant("01"))); !ok || knownText(got) != "= 01/2" {
		t.Errorf("no decls: %v, %v", got, ok)
	}
	clash, _ := impl.ClassesOf(decls, readLiterals(t, decls, "#b1 = #b0"), impl.Cuts{At: make([][]int64, 6)})
	refused("classes of a clash", decls, clash, a)
	checkKnown(t, decls, clash, term(constant("1")))
}

func TestTermClassesOfWideWords(t *testing.T) {
	decls := []impl.Decl{{Name: "a", Width: 4096}, {Name: "b", Width: 4096}}
	cl, ok := impl.ClassesOf(decls, readLiterals(t, decls, "a = (left 1 a)", "b = (left 64 b)", "(part 0 0 b) = #b1"), cutsOf(nil, nil))
	if !ok || len(cl.Clash) != 0 || len(cl.List) != 3 {
		t.Fatalf("%v, %d classes", ok, len(cl.List))
	}
	for _, c := range []struct {
		text  string
		count int
	}{
		{"a", 4096}, {"b", 128}, {"(part 4095 4095 a)", 1}, {"(part 0 0 b)", 1}, {"(left 1 b)", 0}, {"(left 64 b)", 128}, {"(left 77 a)", 4096}, {"(cat #x1 (part 4091 0 a))", 4093}, {"(cat (part 2047 0 b) (part 2047 0 a))", 2048 + 64},
	} {
		x := readTerm(t, decls, c.text)
		got, ok := impl.TermClasses(decls, cl, x)
		if len(got) != c.count || ok != (c.count > 0) {
			t.Errorf("%s: %d parts, %v, want %d", c.text, len(got), ok, c.count)
		}
		width := int64(0)
		for _, k := range got {
			width += k.Width
		}
		if ok && width != impl.WidthOf(decls, x) {
			t.Errorf("%s: %d bits are told of", c.text, width)
		}
	}
	got, _ := impl.TermClasses(decls, cl, readTerm(t, decls, "(part 64 0 b)"))
	if knownText(got) != "1 = 1/1, 2/63, 1 = 1/1" {
		t.Errorf("%s", knownText(got))
	}
}

func TestClassesKeep(t *testing.T) {
	d := dice{state: 113}
	decls := []impl.Decl{{Name: "a", Width: 9}, {Name: "b", Width: 6}, {Name: "c", Width: 1}, {Name: "d", Width: 70}}
	for range 300 {
		x := thrownTerm(&d, decls, 6)
		list := append(thrownLiterals(&d, decls, 1+d.below(4), 4), literal(1000000, d.below(2) == 0, x, x))
		cuts := thrownMarks(&d, decls, 5).cuts()
		keeps(t, impl.ClassesOf, decls, list, cuts)
		keeps(t, impl.ClassesOf, decls, list, impl.Cuts{At: append(cuts.At, at(1))})
		cl, _ := impl.ClassesOf(decls, list, cuts)
		keeps(t, impl.ClassAt, cl, int64(d.below(9)))
		keeps(t, impl.TermClasses, decls, cl, x)
		keeps(t, impl.TermClasses, decls, cl, term(constant("0110"), variable(1), cat(0, 1, 0)))
		for i := range cl.List {
			cl.List[i].Fixed, cl.List[i].Value = true, bitsOfRow("101")
		}
		keeps(t, impl.TermClasses, decls, cl, x)
	}
}
