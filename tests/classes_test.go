package tests

import (
	"fmt"
	"math"
	"slices"
	"strings"
	"testing"

	"loop.example/g00081/impl"
)

// classesText writes classes short: "0 3 = 10 | 1 2", or "clash 1 4".
func classesText(cl impl.Classes) string {
	numbers := func(list []int64) string { return strings.Trim(fmt.Sprint(list), "[]") }
	var texts []string
	for _, class := range cl.List {
		text := numbers(class.Slices)
		if class.Fixed {
			text += " = " + rowOfBits(class.Value)
		}
		texts = append(texts, text)
	}
	if len(cl.Clash) > 0 {
		texts = append(texts, "clash "+numbers(cl.Clash))
	}
	return strings.Join(texts, " | ")
}

func wantNoClasses(t *testing.T, what string, got impl.Classes, ok bool) {
	t.Helper()
	if ok || len(got.Cuts.At) != 0 || len(got.List) != 0 || len(got.Clash) != 0 {
		t.Fatalf("%s: %v, %v, want the zero value and false", what, got, ok)
	}
}

// checkClasses is asked of right literals and cuts.
func checkClasses(t *testing.T, decls []impl.Decl, list []impl.Literal, c impl.Cuts) impl.Classes {
	t.Helper()
	got, ok := impl.ClassesOf(decls, list, c)
	want, wantOk := classesByPicture(decls, list, c)
	if !wantOk {
		wantNoClasses(t, "a side without a form", got, ok)
		return got
	}
	if !ok || !sameClasses(got, want) {
		t.Fatalf("%v of %v from %v: %v, want %v", ok, list, c, got, want)
	}
	count := impl.Gauge(decls, got.Cuts)
	met := make([]int, count)
	for place, class := range got.List {
		for _, slice := range class.Slices {
			met[slice]++
			if at := impl.ClassAt(got, slice); at != int64(place) {
				t.Fatalf("the slice %d of %v is at %d", slice, got, at)
			}
		}
	}
	for _, none := range []int64{-1, count, math.MinInt64, math.MaxInt64} {
		if at := impl.ClassAt(got, none); at != -1 {
			t.Fatalf("the slice %d of %v is at %d", none, got, at)
		}
	}
	if len(got.Clash) == 0 && slices.ContainsFunc(met, func(n int) bool { return n != 1 }) {
		t.Fatalf("slices of %v are met %v times", got, met)
	}
	return got
}

func fourAndOne() []impl.Decl {
	return []impl.Decl{{Name: "a", Width: 2}, {Name: "b", Width: 2}, {Name: "c", Width: 2}, {Name: "d", Width: 2}, {Name: "e", Width: 4}}
}

type classesCase struct {
	texts []string
	want  string
}

func texts(list ...string) []string { return list }

func checkCases(t *testing.T, decls []impl.Decl, list []classesCase) {
	t.Helper()
	none := impl.Cuts{At: make([][]int64, len(decls))}
	for _, c := range list {
		got := checkClasses(t, decls, readLiterals(t, decls, c.texts...), none)
		if text := classesText(got); text != c.want {
			t.Errorf("%q: %s, want %s", c.texts, text, c.want)
		}
	}
}

func TestClassesOfByHand(t *testing.T) {
	decls := fourAndOne()
	checkCases(t, decls, []classesCase{
		{nil, "0 | 1 | 2 | 3 | 4"}, {texts("a = a"), "0 | 1 | 2 | 3 | 4"}, {texts("a ! b"), "0 | 1 | 2 | 3 | 4"}, {texts("#b10 = #b10"), "0 | 1 | 2 | 3 | 4"},
		{texts("a = b"), "0 1 | 2 | 3 | 4"}, {texts("d = a"), "0 3 | 1 | 2 | 4"}, {texts("d = b", "c = a"), "0 2 | 1 3 | 4"}, {texts("a = b", "c = d", "b = c"), "0 1 2 3 | 4"}, {texts("a = b", "b = c", "c = a"), "0 1 2 | 3 | 4"}, {texts("d = c", "c = b", "b = a"), "0 1 2 3 | 4"},
		// constants
		{texts("a = #b10"), "0 = 10 | 1 | 2 | 3 | 4"}, {texts("#b10 = a"), "0 = 10 | 1 | 2 | 3 | 4"}, {texts("a = b", "b = #b10"), "0 1 = 10 | 2 | 3 | 4"}, {texts("#b01 = d", "d = b"), "0 | 1 3 = 01 | 2 | 4"}, {texts("b = #b01", "a = b", "a = d"), "0 1 3 = 01 | 2 | 4"}, {texts("e = #x9"), "0 | 1 | 2 | 3 | 4 = 1001"}, {texts("a = b", "c = d", "c = #b00", "b = d"), "0 1 2 3 = 00 | 4"},
		// constants that are alike join nothing by themselves, and break nothing
		{texts("a = #b10", "b = #b10"), "0 = 10 | 1 = 10 | 2 | 3 | 4"}, {texts("a = #b10", "a = #b10"), "0 = 10 | 1 | 2 | 3 | 4"}, {texts("a = #b10", "b = #b10", "b = a"), "0 1 = 10 | 2 | 3 | 4"}, {texts("(cat a #b1) = (cat b #b1)"), "0 1 | 2 | 3 | 4"}, {texts("a = (cat #b1 #b0)", "a = (part 2 1 #b0101)"), "0 = 10 | 1 | 2 | 3 | 4"},
		// slices
		{texts("e = (cat a b)"), "0 5 | 1 4 | 2 | 3"}, {texts("e = (rep 2 a)"), "0 4 5 | 1 | 2 | 3"}, {texts("e = (left 2 e)"), "0 | 1 | 2 | 3 | 4 5"}, {texts("e = (left 1 e)"), "0 | 1 | 2 | 3 | 4 5 6 7"}, {texts("(sign 2 a) = e"), "0 5 | 1 6 7 8 | 2 | 3 | 4"}, {texts("(zero 2 a) = e"), "0 4 | 1 | 2 | 3 | 5 = 00"}, {texts("e = (cat a #b01)"), "0 5 | 1 | 2 | 3 | 4 = 01"}, {texts("(part 2 1 e) = #b10"), "0 | 1 | 2 | 3 | 4 | 5 = 10 | 6"},
		{texts("e = (cat a b)", "e = (cat c d)"), "0 2 5 | 1 3 4"}, {texts("e = (cat a b)", "e = (cat b a)", "c = #b11"), "0 1 4 5 | 2 = 11 | 3"}, {texts("(cat a b) = #b0110"), "0 = 01 | 1 = 10 | 2 | 3 | 4"}, {texts("(cat a b) = #b0110", "e = (cat b a)"), "0 4 = 01 | 1 5 = 10 | 2 | 3"}, {texts("a = (left 1 a)", "(part 1 1 a) = #b1"), "0 1 = 1 | 2 | 3 | 4 | 5"},
		// literals that are not Equal cut, and join nothing
		{texts("a = #b10", "a ! #b10", "b ! #b01", "c ! c"), "0 = 10 | 1 | 2 | 3 | 4"}, {texts("a ! #b10", "a = b", "b ! #b10", "#b1 ! #b0"), "0 1 | 2 | 3 | 4"}, {texts("e = (cat a b)", "(part 0 0 a) ! #b1"), "0 6 | 1 7 | 2 5 | 3 | 4"}, {texts("(part 0 0 a) ! (part 1 1 b)", "a = #b10", "b = c"), "0 = 0 | 1 = 1 | 2 4 | 3 5 | 6 | 7"},
	})
}

func TestClashesByHand(t *testing.T) {
	checkCases(t, fourAndOne(), []classesCase{
		// two constants in one piece
		{texts("#b10 = #b01"), "clash 1"}, {texts("(cat a #b10) = (cat b #b01)"), "clash 1"}, {texts("(cat #b10 a) = (cat #b01 b)"), "clash 1"}, {texts("a = b", "(cat #b1 a) = (cat #b0 b)"), "clash 2"}, {texts("a = #b10", "#b0 = #b0", "#b00 = #b01", "a = #b11"), "clash 3"}, {texts("(zero 1 a) = (cat #b1 b)"), "clash 1"},
		// a set that holds a constant, and the constant of the piece
		{texts("a = #b10", "a = #b01"), "clash 1 2"}, {texts("a = #b10", "#b01 = a"), "clash 1 2"}, {texts("#b10 = a", "#b01 = a"), "clash 1 2"}, {texts("#b10 = a", "b = a", "b = #b11"), "clash 1 2 3"}, {texts("#b10 = a", "b = a", "c = d", "e = #x0", "d = b", "#b11 = c"), "clash 1 2 3 5 6"}, {texts("a = #b00", "a = #b01", "b = #b10", "b = #b11"), "clash 1 2"}, {texts("b = c", "a = #b10", "b = d", "a = #b01", "d = #b01"), "clash 2 4"},
		// two sets that hold unlike constants, each of them first
		{texts("a = #b10", "c = d", "b = #b01", "a = b"), "clash 1 3 4"}, {texts("a = #b10", "c = d", "b = #b01", "b = a"), "clash 1 3 4"}, {texts("b = #b01", "c = d", "a = #b10", "a = b"), "clash 1 3 4"}, {texts("b = #b01", "c = d", "a = #b10", "b = a"), "clash 1 3 4"}, {texts("a = #b00", "b = #b11", "a = c", "b = d", "c = d"), "clash 1 2 3 4 5"}, {texts("a = c", "b = d", "b = #b11", "a = #b00", "a = b"), "clash 3 4 5"}, {texts("a = c", "b = d", "c = #b00", "d = #b11", "a = b"), "clash 1 2 3 4 5"},
		// of several constants in a set the one counts that came first
		{texts("a = #b00", "b = #b00", "a = b", "b = #b11"), "clash 1 3 4"}, {texts("b = #b00", "a = #b00", "a = b", "b = #b11"), "clash 1 4"}, {texts("a = #b00", "b = #b00", "a = b", "a = #b11"), "clash 1 4"}, {texts("b = #b00", "a = #b00", "a = b", "a = #b11"), "clash 1 3 4"}, {texts("a = #b00", "a = #b00", "a = #b11"), "clash 1 3"}, {texts("a = #b00", "a = b", "b = #b00", "b = #b11"), "clash 1 2 4"}, {texts("a = b", "b = #b00", "a = #b00", "a = #b11"), "clash 1 2 4"},
		{texts("a = #b00", "b = #b00", "c = b", "d = c", "d = a", "b = #b11"), "clash 1 3 4 5 6"}, {texts("c = d", "b = c", "a = #b00", "b = #b00", "d = a", "c = #b11"), "clash 1 3 5 6"}, {texts("c = d", "b = c", "b = #b00", "a = #b00", "d = a", "a = #b11"), "clash 1 2 3 5 6"},
		{texts("a = #b00", "b = #b00", "a = b", "c = #b11", "d = #b11", "c = d", "b = d"), "clash 1 3 4 6 7"}, {texts("c = #b11", "d = #b11", "c = d", "a = #b00", "b = #b00", "a = b", "b = d"), "clash 1 3 4 6 7"}, {texts("d = #b11", "c = #b11", "c = d", "b = #b00", "a = #b00", "a = b", "b = d"), "clash 1 4 7"}, {texts("d = #b11", "b = #b00", "c = #b11", "a = #b00", "c = d", "a = b", "a = c"), "clash 1 2 5 6 7"}, {texts("d = #b11", "b = #b00", "c = #b11", "a = #b00", "c = d", "a = b", "b = d"), "clash 1 2 7"},
		// with its piece, the lowest first
		{texts("(cat a b) = #b0000", "a = b", "a = #b11"), "clash 1 2 3"}, {texts("(cat b a) = #b0000", "a = b", "a = #b11"), "clash 1 3"}, {texts("a = #b11", "b = #b11", "(cat a b) = #b0000"), "clash 2 3"}, {texts("a = #b11", "b = #b11", "(cat b a) = #b0000"), "clash 1 3"}, {texts("#b0000 = (cat a b)", "c = #b00", "c = a", "a = #b01"), "clash 1 4"}, {texts("c = #b00", "#b0000 = (cat a b)", "c = a", "a = #b01"), "clash 1 3 4"},
		// in a later piece, by slices of others, and by a literal that stands on the way twice
		{texts("e = (cat a b)", "a = #b01", "e = #b0011", "a = b"), "clash 1 2 3"}, {texts("e = (cat a b)", "b = #b01", "e = #b0011"), "clash 1 2 3"}, {texts("(cat a b) = (cat c d)", "c = #b01", "b = #b00", "d = #b00", "a = #b00"), "clash 1 2 5"}, {texts("(cat a b) = (cat b c)", "a = #b01", "c = #b10"), "clash 1 2 3"}, {texts("e = (rep 2 a)", "e = #b0001"), "clash 1 2"}, {texts("e = (left 1 e)", "e = #b0001"), "clash 1 2"}, {texts("a = (left 1 a)", "a = #b01"), "clash 1 2"},
		// among literals that are not Equal
		{texts("a = #b10", "a ! #b10", "a ! b", "b = a", "b ! #b11", "b = #b11"), "clash 1 4 6"}, {texts("#b1 ! #b0", "#b1 = #b0"), "clash 2"}, {texts("a = #b10", "(part 0 0 b) ! (part 0 0 c)", "b = a", "b = #b11"), "clash 1 3 4"},
	})
}

// Ids are told as they are, not as places.
func TestClashTellsIds(t *testing.T) {
	decls := fourAndOne()
	list := readLiterals(t, decls, "a = #b10", "c = d", "b = #b01", "c = #b00", "a = b")
	for i, id := range []int64{5, 70, 800, 9000, 1000000} {
		list[i].Id = id
	}
	if got := classesText(checkClasses(t, decls, list, impl.Cuts{At: make([][]int64, 5)})); got != "clash 5 800 1000000" {
		t.Errorf("%s", got)
	}
}

func TestClassesOfByCuts(t *testing.T) {
	decls := fourAndOne()
	for _, c := range []struct {
		texts []string
		from  impl.Cuts
		cuts  impl.Cuts
		want  string
	}{
		{nil, cutsOf(at(1), nil, nil, nil, at(3)), cutsOf(at(1), nil, nil, nil, at(3)), "0 | 1 | 2 | 3 | 4 | 5 | 6"},
		{texts("a = b"), cutsOf(at(1), nil, nil, nil, nil), cutsOf(at(1), at(1), nil, nil, nil), "0 2 | 1 3 | 4 | 5 | 6"},
		{texts("e = #x9"), cutsOf(nil, nil, nil, nil, at(1)), cutsOf(nil, nil, nil, nil, at(1)), "0 | 1 | 2 | 3 | 4 = 1 | 5 = 100"},
		{texts("e = (cat a b)"), cutsOf(nil, at(1), nil, nil, nil), cutsOf(nil, at(1), nil, nil, at(1, 2)), "0 7 | 1 5 | 2 6 | 3 | 4"},
		{texts("a = #b10", "a = b", "b ! c"), cutsOf(nil, nil, at(1), nil, nil), cutsOf(at(1), at(1), at(1), nil, nil), "0 2 = 0 | 1 3 = 1 | 4 | 5 | 6 | 7"},
		// the same clash, but of another piece
		{texts("a = #b00", "b = #b10", "a = b"), cutsOf(at(1), nil, nil, nil, nil), cutsOf(at(1), at(1), nil, nil, nil), "clash 1 2 3"},
		{texts("a = #b00", "c = #b01", "a = #b10"), cutsOf(at(1), nil, nil, nil, nil), cutsOf(at(1), nil, nil, nil, nil), "clash 1 3"},
	} {
		got := checkClasses(t, decls, readLiterals(t, decls, c.texts...), c.from)
		if text := classesText(got); text != c.want || !sameCuts(got.Cuts, c.cuts) {
			t.Errorf("%q from %v: %s by %v, want %s", c.texts, c.from, text, got.Cuts, c.want)
		}
	}
	checkClasses(t, nil, nil, impl.Cuts{})
	one, two := term(constant("10")), term(constant("11"))
	if got := checkClasses(t, nil, []impl.Literal{literal(1, true, one, one)}, impl.Cuts{}); len(got.List) != 0 || len(got.Clash) != 0 {
		t.Errorf("no decls: %v", got)
	}
	if got := checkClasses(t, nil, []impl.Literal{literal(1, true, one, one), literal(9, true, two, one)}, impl.Cuts{}); classesText(got) != "clash 9" {
		t.Errorf("no decls: %v", got)
	}
}

func TestClassesOfThrownLiterals(t *testing.T) {
	d := dice{state: 101}
	decls := []impl.Decl{{Name: "a", Width: 13}, {Name: "b", Width: 9}, {Name: "c", Width: 8}, {Name: "d", Width: 1}, {Name: "e", Width: 70}}
	told := [2]int{}
	for range 1500 {
		list := thrownLiterals(&d, decls, d.below(9), 1+d.below(4))
		got := checkClasses(t, decls, list, thrownMarks(&d, decls, 2+d.below(60)).cuts())
		told[min(1, len(got.Clash))]++
	}
	if told[0] < 200 || told[1] < 200 {
		t.Errorf("too seldom: %v", told)
	}
}

// Short words and few constants: sets grow great and hold many constants ahead of the first clash.
func TestClashesOfThrownSets(t *testing.T) {
	d := dice{state: 102}
	decls := manyDecls(12, 2)
	lengths := make(map[int]int)
	for range 3000 {
		var list []impl.Literal
		seldom := 4 + d.below(40)
		for id := range int64(8 + d.below(35)) {
			row := "01"
			if d.below(seldom) == 0 {
				row = "11"
			}
			s, u := term(variable(int64(d.below(12)))), term(variable(int64(d.below(12))))
			if d.below(4) == 0 {
				u = term(constant(row))
			}
			if d.below(2) == 0 {
				s, u = u, s
			}
			list = append(list, literal(3*id+1, d.below(9) > 0, s, u))
		}
		got := checkClasses(t, decls, list, impl.Cuts{At: make([][]int64, 12)})
		lengths[len(got.Clash)]++
	}
	for length := range 7 {
		if length != 1 && lengths[length] < 50 {
			t.Errorf("%d clashes of %d Ids: too few", lengths[length], length)
		}
	}
}

func equalitiesOf(list []impl.Literal, ids []int64) []impl.Literal {
	var out []impl.Literal
	for _, l := range list {
		if l.Equal && (ids == nil || slices.Contains(ids, l.Id)) {
			out = append(out, l)
		}
	}
	return out
}

// valuesOfAll are the rows of all values by which literals hold.
func valuesOfAll(decls []impl.Decl, list []impl.Literal) [][]string {
	width := 0
	for _, decl := range decls {
		width += int(decl.Width)
	}
	var out [][]string
	for _, all := range allRows(width) {
		var rows []string
		for _, decl := range decls {
			rows, all = append(rows, all[:decl.Width]), all[decl.Width:]
		}
		if !slices.ContainsFunc(list, func(l impl.Literal) bool {
			return l.Equal != (lastOf(rowsByTable(rows, l.S)) == lastOf(rowsByTable(rows, l.T)))
		}) {
			out = append(out, rows)
		}
	}
	return out
}

func TestClassesByAllValues(t *testing.T) {
	d := dice{state: 103}
	decls := []impl.Decl{{Name: "a", Width: 3}, {Name: "b", Width: 2}, {Name: "c", Width: 2}, {Name: "d", Width: 1}}
	told := [2]int{}
	for range 400 {
		list := thrownLiterals(&d, decls, 1+d.below(4), 1+d.below(3))
		got, ok := impl.ClassesOf(decls, list, thrownMarks(&d, decls, 2+d.below(9)).cuts())
		if !ok {
			t.Fatalf("%v has no classes", list)
		}
		told[min(1, len(got.Clash))]++
		if len(got.Clash) > 0 {
			if rows := valuesOfAll(decls, equalitiesOf(list, got.Clash)); len(rows) > 0 {
				t.Fatalf("the clash %v of %v has the values %v", got.Clash, list, rows[0])
			}
			continue
		}
		checkClassValues(t, decls, got, valuesOfAll(decls, equalitiesOf(list, nil)))
	}
	if told[0] < 100 || told[1] < 50 {
		t.Errorf("too seldom: %v", told)
	}
}

// checkClassValues: what is in one class is the same by all values; what is
// not, is not, and a class that is not fixed has each of its words.
func checkClassValues(t *testing.T, decls []impl.Decl, cl impl.Classes, all [][]string) {
	t.Helper()
	parts := impl.SlicesOf(decls, cl.Cuts)
	word := func(rows []string, slice int64) string {
		s, row := parts[slice], rows[parts[slice].Var]
		end := int64(len(row)) - s.Low
		return row[end-s.Width : end]
	}
	unlike := make(map[[2]int]bool)
	words := make([]map[string]bool, len(cl.List))
	for i := range words {
		words[i] = make(map[string]bool)
	}
	for _, rows := range all {
		for i, class := range cl.List {
			first := word(rows, class.Slices[0])
			words[i][first] = true
			for _, slice := range class.Slices {
				if word(rows, slice) != first || class.Fixed && first != rowOfBits(class.Value) {
					t.Fatalf("%v by %v: the slice %d is %s", cl, rows, slice, word(rows, slice))
				}
			}
			for k, other := range cl.List[:i] {
				if first != word(rows, other.Slices[0]) {
					unlike[[2]int{k, i}] = true
				}
			}
		}
	}
	for i, class := range cl.List {
		width := parts[class.Slices[0]].Width
		if !class.Fixed && len(words[i]) != 1<<width || class.Fixed && len(words[i]) != 1 {
			t.Fatalf("%v: the class %d has the words %v", cl, i, words[i])
		}
		for k, other := range cl.List[:i] {
			if (!class.Fixed || !other.Fixed) && parts[other.Slices[0]].Width == width && !unlike[[2]int{k, i}] {
				t.Fatalf("%v: the classes %d and %d are always the same", cl, k, i)
			}
		}
	}
}

func TestClassesRefuse(t *testing.T) {
	decls := someDecls()
	a := term(variable(0))
	refused := func(what string, decls []impl.Decl, list ...impl.Literal) {
		t.Helper()
		got, ok := impl.ClassesOf(decls, list, impl.Cuts{At: make([][]int64, len(decls))})
		wantNoClasses(t, what, got, ok)
	}
	for _, id := range []int64{math.MinInt64, -1, 0, 1000001, math.MaxInt64} {
		refused(fmt.Sprint("the Id ", id), decls, literal(id, true, a, a))
	}
	refused("Ids that do not rise", decls, literal(2, true, a, a), literal(2, true, a, a))
	refused("Ids that fall", decls, literal(2, true, a, a), literal(1, false, a, a))
	refused("sides of two widths", decls, literal(1, true, a, term(variable(1))))
	refused("sides of two widths that are not Equal", decls, literal(1, false, a, term(variable(1))))
	refused("no sides", decls, literal(1, true, impl.Term{}, impl.Term{}))
	refused("a wrong one behind a clash", decls, literal(1, true, term(constant("0")), term(constant("1"))), literal(2, true, a, term(variable(1))))
	for _, wrong := range [][]impl.Decl{{{Name: "a", Width: 0}}, {{Name: "A", Width: 4}}, {{Name: "a", Width: 4}, {Name: "a", Width: 4}}, {{Name: "a", Width: 4097}}, manyDecls(61, 2), manyDecls(60, 334)} {
		refused("wrong decls", wrong)
		refused("wrong decls", wrong, literal(1, true, term(constant("0")), term(constant("0"))))
	}
	for _, x := range wrongTerms(term(variable(0), part(2, 1, 0), constant("01"), cat(1, 2))) {
		if widthsByTable(decls, x) == nil {
			refused("a wrong term", decls, literal(1, true, x, x))
		}
	}
	long := term(variable(2), one(impl.TmRep, 2001, 0))
	zero := term(constant(strings.Repeat("0", 2001)))
	hidden := term(variable(2), one(impl.TmRep, 2001, 0), part(3, 0, 1))
	for _, equal := range []bool{false, true} {
		refused("a long S", decls, literal(1, equal, long, zero))
		refused("a long T", decls, literal(1, equal, zero, long))
		refused("a long node inside", decls, literal(1, equal, hidden, a))
		refused("a long one behind a clash", decls, literal(1, true, term(constant("0")), term(constant("1"))), literal(2, equal, long, zero))
	}
	many := slices.Repeat([]impl.Literal{literal(0, true, a, term(constant("0110")))}, 61)
	for i := range many {
		many[i].Id = int64(i + 1)
	}
	refused("61 literals", decls, many...)
	if got := checkClasses(t, decls, many[:60], impl.Cuts{At: make([][]int64, 6)}); classesText(got) != "0 = 0110 | 1 | 2 | 3 | 4 | 5" {
		t.Errorf("60 literals: %v", got)
	}
	for _, c := range []impl.Cuts{{}, cutsOf(nil), {At: make([][]int64, 5)}, {At: make([][]int64, 7)}, cutsOf(at(0), nil, nil, nil, nil, nil), cutsOf(at(4), nil, nil, nil, nil, nil), cutsOf(at(2, 2), nil, nil, nil, nil, nil), cutsOf(at(2, 1), nil, nil, nil, nil, nil), cutsOf(nil, nil, at(1), nil, nil, nil), cutsOf(nil, nil, nil, nil, nil, at(65)), cutsOf(at(math.MinInt64), nil, nil, nil, nil, nil), cutsOf(nil, nil, nil, nil, nil, at(1, math.MaxInt64))} {
		got, ok := impl.ClassesOf(decls, nil, c)
		wantNoClasses(t, "wrong cuts", got, ok)
		got, ok = impl.ClassesOf(decls, []impl.Literal{literal(1, true, a, a)}, c)
		wantNoClasses(t, "wrong cuts", got, ok)
	}
}

// As many slices as there can be, and constants in each piece of 60 literals.
func TestClassesOfManyWideLiterals(t *testing.T) {
	decls := manyDecls(4, 4096)
	every := make([]int64, 4095)
	for i := range every {
		every[i] = int64(i + 1)
	}
	cuts := cutsOf(every, every, every, every)
	row := strings.Repeat("01", 2048)
	var list []impl.Literal
	for id := range int64(60) {
		s, u := term(variable(id%4)), term(constant(row))
		if id%5 == 4 {
			u = term(variable((id+1)%4), one(impl.TmLeft, 2*id, 0))
		}
		list = append(list, literal(id+1, true, s, u))
	}
	got, ok := impl.ClassesOf(decls, list, cuts)
	if !ok || len(got.Clash) != 0 || len(got.List) == 0 || len(got.List) > 8192 {
		t.Fatalf("%v with %d classes and the clash %v", ok, len(got.List), got.Clash)
	}
	count := 0
	for _, class := range got.List {
		count += len(class.Slices)
		if !class.Fixed || class.Value.Width != 1 || class.Value.Words[0] != uint64(1-class.Slices[0]%2) {
			t.Fatalf("%v", class)
		}
	}
	if count != 4*4096 {
		t.Errorf("%d slices", count)
	}
	list[59] = literal(60, true, term(variable(3)), term(constant("1"+row[1:])))
	got, ok = impl.ClassesOf(decls, list, cuts)
	if !ok || len(got.List) != 0 || len(got.Clash) == 0 || lastOf(got.Clash) != 60 {
		t.Errorf("%v with %d classes and the clash %v", ok, len(got.List), got.Clash)
	}
	// a row of 4096 slices, each joined with its neighbour, and unlike constants at both ends
	row4096 := readLiterals(t, decls, "(part 4094 0 v0) = (part 4095 1 v0)", "(part 0 0 v0) = #b0", "v1 = v2", "(part 4095 4095 v0) = #b1")
	got, ok = impl.ClassesOf(decls, row4096, cuts)
	if !ok || classesText(impl.Classes{Clash: got.Clash}) != "clash 1 2 4" {
		t.Errorf("%v with the clash %v", ok, got.Clash)
	}
}
