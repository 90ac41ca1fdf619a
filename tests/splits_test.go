package tests

import (
	"fmt"
	"math"
	"slices"
	"strings"
	"testing"

	"loop.example/g00081/impl"
)

func wantNoSplits(t *testing.T, what string, got []impl.Split, ok bool) {
	t.Helper()
	if ok || len(got) != 0 {
		t.Fatalf("%s: %v, %v, want nothing and false", what, got, ok)
	}
}

// checkSplits is asked of right literals whose sides have forms, and of right cuts.
func checkSplits(t *testing.T, decls []impl.Decl, list []impl.Literal, cl impl.Classes) []impl.Split {
	t.Helper()
	got, ok := impl.SplitsOf(decls, list, cl)
	want, wantOk := splitsByPicture(decls, list, cl)
	if !wantOk {
		wantNoSplits(t, "classes of something else", got, ok)
		return nil
	}
	if !ok || !slices.EqualFunc(got, want, sameSplit) {
		t.Fatalf("%v of %v by %v: %v, want %v", ok, list, cl, got, want)
	}
	for _, s := range got {
		if state := impl.StateOf(got, s.Id); state != s.State {
			t.Fatalf("the state of %d in %v is %d", s.Id, got, state)
		}
	}
	return got
}

func splitsFrom(t *testing.T, decls []impl.Decl, list []impl.Literal, cuts impl.Cuts) []impl.Split {
	t.Helper()
	cl, ok := impl.ClassesOf(decls, list, cuts)
	if !ok {
		t.Fatalf("no classes of %v", list)
	}
	return checkSplits(t, decls, list, cl)
}

func TestSplitsOfByHand(t *testing.T) {
	decls := fourAndOne()
	// a, b and the upper half of e are the class 0, c is 1 and fixed, d is 2, the lower half of e is 3 and fixed
	known := texts("a = b", "c = #b10", "e = (cat a #b01)")
	for _, c := range []struct{ text, want string }{
		// sides that are the same
		{"a ! a", "false"}, {"a ! b", "false"}, {"b ! (part 3 2 e)", "false"}, {"c ! c", "false"}, {"c ! #b10", "false"}, {"#b10 ! c", "false"}, {"#b10 ! #b10", "false"}, {"(cat d a) ! (cat d b)", "false"}, {"(cat #b10 a) ! (cat c b)", "false"}, {"e ! (cat b #b01)", "false"}, {"e ! e", "false"}, {"(cat #b1 d) ! (cat #b1 d)", "false"},
		// unlike values
		{"c ! #b11", "true"}, {"#b00 ! c", "true"}, {"c ! (part 1 0 e)", "true"}, {"#b0 ! #b1", "true"}, {"#b10 ! #b01", "true"}, {"(zero 1 d) ! (cat #b1 d)", "true"},
		// a Bar of two classes, the lesser one first
		{"a ! d", "open 0/2"}, {"d ! a", "open 0/2"}, {"b ! d", "open 0/2"}, {"d ! (part 3 2 e)", "open 0/2"},
		// a Bar of a class and a value, on either side
		{"a ! c", "open 0=10"}, {"c ! a", "open 0=10"}, {"d ! c", "open 2=10"}, {"d ! #b11", "open 2=11"}, {"#b11 ! d", "open 2=11"}, {"(part 1 0 e) ! b", "open 0=01"}, {"b ! (part 1 0 e)", "open 0=01"},
		// several pieces, the lowest first, each Bar once
		{"(cat a d) ! (cat d a)", "open 0/2"}, {"(cat a d a) ! (cat d a d)", "open 0/2"}, {"(cat a a) ! (cat #b10 c)", "open 0=10"}, {"(cat c a) ! (cat a #b10)", "open 0=10"}, {"(cat a a) ! #b1011", "open 0=11 0=10"}, {"#b1011 ! (cat d a)", "open 0=11 2=10"}, {"(cat d d) ! (cat a #b00)", "open 2=00 0/2"}, {"(cat a a d a) ! (cat #b11 d c #b11)", "open 0=11 2=10 0/2"}, {"e ! (cat d #b01)", "open 0/2"}, {"(cat d c) ! e", "true"}, {"(cat #b1 d #b1) ! (cat #b1 a #b1)", "open 0/2"},
		// unlike values ahead of Bars, between them and behind them
		{"(cat d c) ! (cat a #b01)", "true"}, {"(cat d c a) ! (cat a #b01 d)", "true"}, {"(cat c d) ! (cat #b01 a)", "true"}, {"(cat c d a a) ! (cat #b01 a d #b11)", "true"}, {"(cat #b1 a) ! (cat #b0 d)", "true"}, {"(cat a #b1) ! (cat d #b0)", "true"}, {"(cat c d a) ! (cat (part 1 0 e) d b)", "true"},
	} {
		list := readLiterals(t, decls, append(slices.Clone(known), c.text)...)
		got := splitsFrom(t, decls, list, impl.Cuts{At: make([][]int64, 5)})
		if want := "4 " + c.want; splitsText(got) != want {
			t.Errorf("%s: %s, want %s", c.text, splitsText(got), want)
		}
	}
}

func TestSplitsOfManyInequalities(t *testing.T) {
	decls := fourAndOne()
	for _, c := range []struct {
		texts []string
		want  string
	}{
		{nil, ""}, {texts("a = b"), ""}, {texts("a ! b"), "1 open 0/1"}, {texts("a ! b", "b ! a", "a ! b"), "1 open 0/1, 2 open 0/1, 3 open 0/1"}, {texts("a ! b", "a = b", "c ! d"), "1 false, 3 open 1/2"}, {texts("a ! #b10", "c ! a", "a = #b11", "b ! #b10"), "1 true, 2 open 2=11, 4 open 1=10"},
		// classes that are fixed apart, with the same value and with another one
		{texts("c = #b10", "d = #b10", "c ! d", "d ! c"), "3 false, 4 false"}, {texts("c = #b10", "d = #b11", "c ! d", "d ! c"), "3 true, 4 true"}, {texts("c = #b10", "d = #b10", "(cat c a) ! (cat d b)", "(cat a c) ! (cat c d)"), "3 open 0/1, 4 open 0=10"},
		// inequalities cut
		{texts("e ! (left 1 e)"), "1 open 4/7 4/5 5/6 6/7"}, {texts("e ! (left 2 e)"), "1 open 4/5"}, {texts("a ! (left 1 a)"), "1 open 0/1"}, {texts("(sign 1 a) ! (zero 1 a)"), "1 open 1=0"}, {texts("(part 0 0 a) ! (part 1 1 b)", "a = b"), "1 open 0/1"}, {texts("(part 0 0 a) ! (part 0 0 b)", "a = b"), "1 false"}, {texts("e = (cat a b)", "(part 2 1 e) ! (cat (part 0 0 a) (part 1 1 b))"), "2 false"}, {texts("e = (cat a b)", "(part 2 1 e) ! #b11", "e ! #x0"), "2 open 3=1 0=1, 3 open 2=0 3=0 0=0 1=0"}, {texts("(part 1 0 e) ! #b01", "(part 3 2 e) ! #b01", "e ! #b0110"), "1 open 4=01, 2 open 5=01, 3 open 4=10 5=01"}, {texts("e = (left 1 e)", "e ! #b0110", "e ! #b1111"), "2 open 4=0 4=1, 3 open 4=1"},
		{texts("(cat a #b0) ! (cat #b1 b)"), "1 open 2=0 0/3 1=1"},
	} {
		list := readLiterals(t, decls, c.texts...)
		got := splitsFrom(t, decls, list, impl.Cuts{At: make([][]int64, 5)})
		if splitsText(got) != c.want {
			t.Errorf("%q: %s, want %s", c.texts, splitsText(got), c.want)
		}
	}
	// Ids are told as they are
	list := readLiterals(t, decls, "a ! b", "a = c", "c ! a")
	list[0].Id, list[1].Id, list[2].Id = 7, 77, 1000000
	if got := splitsFrom(t, decls, list, impl.Cuts{At: make([][]int64, 5)}); splitsText(got) != "7 open 0/1, 1000000 false" {
		t.Error(splitsText(got))
	}
	if got := splitsFrom(t, nil, readLiterals(t, nil, "#b1 ! #b1", "#b1 ! #b0"), impl.Cuts{}); splitsText(got) != "1 false, 2 true" {
		t.Error(splitsText(got))
	}
}

// More cuts than are needed make more pieces.
func TestSplitsOfByCuts(t *testing.T) {
	decls := fourAndOne()
	for _, c := range []struct {
		texts []string
		cuts  impl.Cuts
		want  string
	}{
		{texts("a ! b"), cutsOf(at(1), nil, nil, nil, nil), "1 open 0/2 1/3"}, {texts("a ! #b10"), cutsOf(at(1), nil, nil, nil, nil), "1 open 0=0 1=1"}, {texts("a ! #b10", "a = b"), cutsOf(nil, at(1), nil, nil, nil), "1 open 0=0 1=1"}, {texts("e ! (rep 2 a)"), cutsOf(nil, nil, nil, nil, at(3)), "1 open 0/5 1/6 0/7 1/8"}, {texts("a ! b"), cutsOf(nil, nil, at(1), at(1), at(1, 2, 3)), "1 open 0/1"}, {texts("c ! #b10", "c = #b10"), cutsOf(nil, nil, at(1), nil, nil), "1 false"}, {texts("c ! #b11", "c = #b10"), cutsOf(nil, nil, at(1), nil, nil), "1 true"},
	} {
		list := readLiterals(t, decls, c.texts...)
		got := splitsFrom(t, decls, list, c.cuts)
		if splitsText(got) != c.want {
			t.Errorf("%q by %v: %s, want %s", c.texts, c.cuts, splitsText(got), c.want)
		}
	}
}

// thrownRowsOfParts are literals whose sides are variables and constants of
// one width behind one another: the fewer there are, the more often Bars stand twice.
func thrownRowsOfParts(d *dice, decls []impl.Decl, count, most int) []impl.Literal {
	width := int(decls[0].Width)
	side := func(parts int) impl.Term {
		var x impl.Term
		var kids []int64
		for range parts {
			kids = append(kids, int64(len(x.Nodes)))
			if d.below(3) > 0 {
				x.Nodes = append(x.Nodes, variable(int64(d.below(len(decls)))))
			} else {
				x.Nodes = append(x.Nodes, constant(d.row(width)))
			}
		}
		if parts > 1 {
			x.Nodes = append(x.Nodes, cat(kids...))
		}
		return x
	}
	var list []impl.Literal
	for id := range int64(count) {
		parts := 1 + d.below(most)
		equal := d.below(4) == 0
		if equal {
			parts = 1
		}
		list = append(list, literal(id+1, equal, side(parts), side(parts)))
	}
	return list
}

func TestSplitsOfThrownLiterals(t *testing.T) {
	d := dice{state: 121}
	told := make(map[string]int)
	count := func(splits []impl.Split) {
		for _, s := range splits {
			told[fmt.Sprint(s.State, "/", min(len(s.Bars), 3))]++
		}
	}
	decls := []impl.Decl{{Name: "a", Width: 7}, {Name: "b", Width: 5}, {Name: "c", Width: 4}, {Name: "d", Width: 1}, {Name: "e", Width: 66}}
	for range 1500 {
		count(splitsFrom(t, decls, thrownLiterals(&d, decls, 1+d.below(4), 3), thrownMarks(&d, decls, 2+d.below(9)).cuts()))
	}
	for range 1500 {
		decls := manyDecls(2+d.below(5), int64(1+d.below(3)))
		count(splitsFrom(t, decls, thrownRowsOfParts(&d, decls, 2+d.below(8), 4), thrownMarks(&d, decls, 6).cuts()))
	}
	for _, key := range []string{"1/0", "2/0", "3/1", "3/2", "3/3"} {
		if told[key] < 200 {
			t.Errorf("%s is too seldom: %v", key, told)
		}
	}
}

// The promise: by all values by which the equalities hold, what is told true
// holds and what is told false does not; what is open holds where a Bar of it
// is kept, and only there.
func TestSplitsByAllValues(t *testing.T) {
	d := dice{state: 122}
	decls := []impl.Decl{{Name: "a", Width: 2}, {Name: "b", Width: 2}, {Name: "c", Width: 2}, {Name: "d", Width: 2}}
	cut := []impl.Decl{{Name: "a", Width: 3}, {Name: "b", Width: 2}, {Name: "c", Width: 2}, {Name: "d", Width: 1}}
	told := make(map[int64]int)
	for range 400 {
		checkSplitValues(t, decls, thrownRowsOfParts(&d, decls, 2+d.below(6), 3), told)
		checkSplitValues(t, cut, thrownLiterals(&d, cut, 1+d.below(4), 2), told)
	}
	if told[impl.SpTrue] < 1000 || told[impl.SpFalse] < 1000 || told[impl.SpOpen] < 1000 {
		t.Errorf("too seldom: %v", told)
	}
}

func checkSplitValues(t *testing.T, decls []impl.Decl, list []impl.Literal, told map[int64]int) {
	t.Helper()
	cl, _ := impl.ClassesOf(decls, list, impl.Cuts{At: make([][]int64, len(decls))})
	splits, ok := impl.SplitsOf(decls, list, cl)
	if !ok {
		return
	}
	parts := impl.SlicesOf(decls, cl.Cuts)
	for _, rows := range valuesOfAll(decls, equalitiesOf(list, nil)) {
		word := func(place int64) string {
			s := parts[cl.List[place].Slices[0]]
			end := int64(len(rows[s.Var])) - s.Low
			return rows[s.Var][end-s.Width : end]
		}
		kept := func(b impl.Bar) bool {
			if b.B == -1 {
				return word(b.A) != rowOfBits(b.Value)
			}
			return word(b.A) != word(b.B)
		}
		for _, s := range splits {
			told[s.State]++
			l := list[slices.IndexFunc(list, func(l impl.Literal) bool { return l.Id == s.Id })]
			holds := lastOf(rowsByTable(rows, l.S)) != lastOf(rowsByTable(rows, l.T))
			want := s.State == impl.SpTrue || s.State == impl.SpOpen && slices.ContainsFunc(s.Bars, kept)
			if holds != want {
				t.Fatalf("%v of %v by %v: %v", s, list, rows, holds)
			}
		}
	}
}

// Classes must be just those that ClassesOf tells.
func TestSplitsRefuseOtherClasses(t *testing.T) {
	decls := fourAndOne()
	list := readLiterals(t, decls, "a = b", "c = #b10", "e = (cat a #b01)", "a ! d", "c ! #b11", "d ! (part 1 0 e)")
	told := func() impl.Classes {
		cl, _ := impl.ClassesOf(decls, list, impl.Cuts{At: make([][]int64, 5)})
		return cl
	}
	if text := classesText(told()); text != "0 1 5 | 2 = 10 | 3 | 4 = 01" {
		t.Fatal(text)
	}
	for what, spoil := range map[string]func(cl *impl.Classes){
		"a class too many":               func(cl *impl.Classes) { cl.List = append(cl.List, class(6)) },
		"an empty class too many":        func(cl *impl.Classes) { cl.List = append(cl.List, impl.Class{}) },
		"a class twice":                  func(cl *impl.Classes) { cl.List = append(cl.List, cl.List[2]) },
		"the last class too few":         func(cl *impl.Classes) { cl.List = cl.List[:3] },
		"the first class too few":        func(cl *impl.Classes) { cl.List = cl.List[1:] },
		"no classes":                     func(cl *impl.Classes) { cl.List = nil },
		"another order":                  func(cl *impl.Classes) { cl.List[0], cl.List[2] = cl.List[2], cl.List[0] },
		"slices that fall":               func(cl *impl.Classes) { cl.List[0].Slices = at(1, 0, 5) },
		"a slice too few":                func(cl *impl.Classes) { cl.List[0].Slices = at(0, 1) },
		"a slice too many":               func(cl *impl.Classes) { cl.List[0].Slices = at(0, 1, 5, 6) },
		"a slice twice":                  func(cl *impl.Classes) { cl.List[0].Slices = at(0, 1, 5, 5) },
		"another slice":                  func(cl *impl.Classes) { cl.List[2].Slices = at(2) },
		"no slices":                      func(cl *impl.Classes) { cl.List[2].Slices = nil },
		"slices at both ends of int64":   func(cl *impl.Classes) { cl.List[0].Slices = at(math.MinInt64, math.MaxInt64) },
		"two classes as one":             func(cl *impl.Classes) { cl.List[1].Slices = at(2, 3); cl.List = slices.Delete(cl.List, 2, 3) },
		"a class parted":                 func(cl *impl.Classes) { cl.List[0].Slices = at(0, 1); cl.List = append(cl.List, class(5)) },
		"another Value":                  func(cl *impl.Classes) { cl.List[1].Value = bitsOfRow("11") },
		"a Value of another width":       func(cl *impl.Classes) { cl.List[1].Value = bitsOfRow("010") },
		"a Value with a word too many":   func(cl *impl.Classes) { cl.List[1].Value.Words = []uint64{2, 0} },
		"a Value without words":          func(cl *impl.Classes) { cl.List[1].Value.Words = nil },
		"a Value that is not right":      func(cl *impl.Classes) { cl.List[1].Value.Words = []uint64{6} },
		"a Value without a width":        func(cl *impl.Classes) { cl.List[1].Value.Width = 0 },
		"no Value":                       func(cl *impl.Classes) { cl.List[1].Value = impl.Bits{} },
		"Fixed where it is not":          func(cl *impl.Classes) { cl.List[2].Fixed = true },
		"Fixed with a Value":             func(cl *impl.Classes) { cl.List[2] = fixedClass("00", 3) },
		"not Fixed where it is":          func(cl *impl.Classes) { cl.List[1].Fixed = false },
		"not Fixed and no Value":         func(cl *impl.Classes) { cl.List[3] = class(4) },
		"a Value that is not Fixed":      func(cl *impl.Classes) { cl.List[0].Value = bitsOfRow("00") },
		"a width that is not Fixed":      func(cl *impl.Classes) { cl.List[0].Value.Width = 2 },
		"words that are not Fixed":       func(cl *impl.Classes) { cl.List[0].Value.Words = []uint64{0} },
		"a clash":                        func(cl *impl.Classes) { cl.Clash = at(1) },
		"a clash and no classes":         func(cl *impl.Classes) { cl.List, cl.Clash = nil, at(1, 2) },
		"cuts that are not closed":       func(cl *impl.Classes) { cl.Cuts.At[4] = nil },
		"a cut too many":                 func(cl *impl.Classes) { cl.Cuts.At[3] = at(1) },
		"a cut too many in what is tied": func(cl *impl.Classes) { cl.Cuts.At[0] = at(1) },
		"another cut":                    func(cl *impl.Classes) { cl.Cuts.At[4] = at(1) },
		"cuts that fall":                 func(cl *impl.Classes) { cl.Cuts.At[4] = at(2, 1) },
		"a cut at the end":               func(cl *impl.Classes) { cl.Cuts.At[4] = at(2, 4) },
		"a cut at 0":                     func(cl *impl.Classes) { cl.Cuts.At[4] = at(0, 2) },
		"cuts at both ends of int64":     func(cl *impl.Classes) { cl.Cuts.At[4] = at(math.MinInt64, math.MaxInt64) },
		"a list of cuts too few":         func(cl *impl.Classes) { cl.Cuts.At = cl.Cuts.At[:4] },
		"a list of cuts too many":        func(cl *impl.Classes) { cl.Cuts.At = append(cl.Cuts.At, nil) },
		"no cuts":                        func(cl *impl.Classes) { cl.Cuts.At = nil },
		"nothing":                        func(cl *impl.Classes) { *cl = impl.Classes{} },
	} {
		cl := told()
		spoil(&cl)
		got, ok := impl.SplitsOf(decls, list, cl)
		wantNoSplits(t, what, got, ok)
	}
	// an empty list and nil are the same
	cl := told()
	cl.Clash = []int64{}
	cl.Cuts.At[1], cl.Cuts.At[2] = nil, []int64{}
	cl.List[0].Value.Words = []uint64{}
	if got := checkSplits(t, decls, list, cl); splitsText(got) != "4 open 0/2, 5 true, 6 open 2=01" {
		t.Error(splitsText(got))
	}
	// classes of other literals
	for _, other := range [][]impl.Literal{nil, list[:1], list[1:], list[:3]} {
		checkSplits(t, decls, other, told())
	}
	got, ok := impl.SplitsOf(decls, readLiterals(t, decls, "a = c", "c = #b10", "e = (cat a #b01)"), told())
	wantNoSplits(t, "other equalities", got, ok)
	got, ok = impl.SplitsOf(decls, readLiterals(t, decls, "a = b", "c = #b10", "e = (cat a #b01)", "(part 0 0 d) ! #b1"), told())
	wantNoSplits(t, "an inequality that cuts", got, ok)
}

func TestSplitsRefuseThrownClasses(t *testing.T) {
	d := dice{state: 123}
	decls := manyDecls(4, 2)
	told := [2]int{}
	for range 2000 {
		list := thrownRowsOfParts(&d, decls, 1+d.below(5), 3)
		cl, _ := impl.ClassesOf(decls, list, thrownMarks(&d, decls, 4).cuts())
		if d.below(3) > 0 {
			spoilClasses(&d, &cl)
		}
		if _, ok := impl.SplitsOf(decls, list, cl); ok {
			told[1]++
		} else {
			told[0]++
		}
		checkSplits(t, decls, list, cl)
	}
	if told[0] < 300 || told[1] < 300 {
		t.Errorf("too seldom: %v", told)
	}
}

func TestSplitsRefuseLiterals(t *testing.T) {
	decls := someDecls()
	a := term(variable(0))
	plain, _ := impl.ClassesOf(decls, nil, impl.Cuts{At: make([][]int64, 6)})
	refused := func(what string, list ...impl.Literal) {
		t.Helper()
		for _, cl := range []impl.Classes{plain, {}} {
			got, ok := impl.SplitsOf(decls, list, cl)
			wantNoSplits(t, what, got, ok)
		}
	}
	if got, ok := impl.SplitsOf(decls, []impl.Literal{literal(1, false, a, a), literal(1000000, false, a, term(constant("1010")))}, plain); !ok || splitsText(got) != "1 false, 1000000 open 0=1010" {
		t.Error(splitsText(got), ok)
	}
	for _, id := range []int64{math.MinInt64, -1, 0, 1000001, math.MaxInt64} {
		refused(fmt.Sprint("the Id ", id), literal(id, false, a, a))
	}
	refused("Ids that do not rise", literal(2, false, a, a), literal(2, false, a, a))
	refused("Ids that fall", literal(2, false, a, a), literal(1, true, a, a))
	refused("sides of two widths", literal(1, false, a, term(variable(1))))
	refused("no sides", literal(1, false, impl.Term{}, impl.Term{}))
	refused("no T", literal(1, false, a, impl.Term{}))
	for _, x := range wrongTerms(term(variable(0), constant("01"), cat(0, 1))) {
		if widthsByTable(decls, x) == nil {
			refused("a wrong term", literal(1, false, x, x))
		}
	}
	long := term(variable(2), one(impl.TmRep, 2001, 0))
	zero := term(constant(strings.Repeat("0", 2001)))
	refused("a long S", literal(1, false, long, zero))
	refused("a long T", literal(1, false, zero, long))
	refused("a long equality", literal(1, true, zero, long))
	many := slices.Repeat([]impl.Literal{literal(0, false, a, term(constant("0110")))}, 61)
	for i := range many {
		many[i].Id = int64(i + 1)
	}
	refused("61 literals", many...)
	if got := checkSplits(t, decls, many[:60], plain); len(got) != 60 || barsText(impl.MustBars(got)) != "0=0110" {
		t.Errorf("60 literals: %v", got)
	}
	for _, wrong := range [][]impl.Decl{{{Name: "a", Width: 0}}, {{Name: "A", Width: 4}}, {{Name: "a", Width: 4}, {Name: "a", Width: 4}}, {{Name: "a", Width: 4097}}, manyDecls(61, 2), manyDecls(60, 334)} {
		cl := impl.Classes{Cuts: impl.Cuts{At: make([][]int64, len(wrong))}}
		for i := range wrong {
			cl.List = append(cl.List, class(int64(i)))
		}
		got, ok := impl.SplitsOf(wrong, nil, cl)
		wantNoSplits(t, "wrong decls", got, ok)
		got, ok = impl.SplitsOf(wrong, []impl.Literal{literal(1, false, term(constant("1")), term(constant("0")))}, cl)
		wantNoSplits(t, "wrong decls", got, ok)
	}
	// classes with a clash are just what ClassesOf tells, and are refused
	clashing := readLiterals(t, decls, "a = #x1", "a = #x2", "b ! #b00")
	clash, ok := impl.ClassesOf(decls, clashing, impl.Cuts{At: make([][]int64, 6)})
	if !ok || len(clash.Clash) != 2 {
		t.Fatal(clash, ok)
	}
	got, ok := impl.SplitsOf(decls, clashing, clash)
	wantNoSplits(t, "a clash", got, ok)
	clash.Clash = nil
	got, ok = impl.SplitsOf(decls, clashing, clash)
	wantNoSplits(t, "a clash that is not told", got, ok)
}

func TestSplitsOfWideWords(t *testing.T) {
	decls := []impl.Decl{{Name: "a", Width: 4096}, {Name: "b", Width: 4096}, {Name: "c", Width: 4096}}
	none := cutsOf(nil, nil, nil)
	ones := "#x" + strings.Repeat("f", 1024)
	for _, c := range []struct {
		texts []string
		want  string
	}{
		{texts("a ! b"), "1 open 0/1"}, {texts("a ! a"), "1 false"}, {texts("c = "+ones, "c ! a"), "2 open 0=" + strings.Repeat("1", 4096)}, {texts("c = "+ones, "c ! "+ones), "2 false"}, {texts("c = "+ones, "(part 4095 1 c) ! (part 4094 0 c)"), "2 false"}, {texts("c = "+ones, "(part 4094 0 c) ! #b0"+strings.Repeat("1", 4094)), "2 true"}, {texts("a = (left 1 a)", "a ! "+ones), "2 open 0=1"}, {texts("a = (left 1 a)", "b = (left 1 b)", "a ! b"), "3 open 0/1"}, {texts("a = (left 1 a)", "a ! (left 7 a)"), "2 false"},
	} {
		list := readLiterals(t, decls, c.texts...)
		cl, _ := impl.ClassesOf(decls, list, none)
		got, ok := impl.SplitsOf(decls, list, cl)
		if !ok || splitsText(got) != c.want {
			t.Errorf("%s: %s, %v, want %s", short(fmt.Sprint(c.texts)), short(splitsText(got)), ok, short(c.want))
		}
	}
	list := readLiterals(t, decls, "a ! (left 1 a)", "b = c")
	cl, _ := impl.ClassesOf(decls, list, none)
	got, ok := impl.SplitsOf(decls, list, cl)
	if !ok || len(got) != 1 || len(got[0].Bars) != 4096 || barsText(got[0].Bars[:3]) != "0/4095 0/1 1/2" {
		t.Errorf("%d, %v", len(got), ok)
	}
}

func split(id, state int64, bars ...impl.Bar) impl.Split {
	return impl.Split{Id: id, State: state, Bars: bars}
}

func TestMustBarsByHand(t *testing.T) {
	const least, most = math.MinInt64, math.MaxInt64
	long := impl.Bar{A: 1, B: -1, Value: impl.Bits{Width: 2, Words: []uint64{1, 0}}}
	wide := impl.Bar{A: 1, B: -1, Value: impl.Bits{Width: 3, Words: []uint64{1}}}
	bare := impl.Bar{A: 1, B: -1, Value: impl.Bits{Width: 2}}
	room := impl.Bar{A: 0, B: 1, Value: impl.Bits{Words: []uint64{}}}
	joined := impl.Bar{A: 1, B: -1, Value: impl.Bits{Width: 65, Words: []uint64{1, 23}}}
	parted := impl.Bar{A: 1, B: -1, Value: impl.Bits{Width: 65, Words: []uint64{12, 3}}}
	far := impl.Bar{A: 1, B: -1, Value: impl.Bits{Width: 64, Words: []uint64{1 << 63}}}
	for _, c := range []struct {
		what   string
		splits []impl.Split
		want   []impl.Bar
	}{
		{"nothing", nil, nil}, {"one", []impl.Split{split(1, 3, bar(0, 1))}, []impl.Bar{bar(0, 1)}}, {"of two and of none", []impl.Split{split(1, 3, bar(0, 1), bar(0, 2)), split(2, 3), split(3, 3, bar(1, 2))}, []impl.Bar{bar(1, 2)}}, {"one twice in one", []impl.Split{split(1, 3, bar(0, 1), bar(0, 1))}, nil},
		{"states", []impl.Split{split(1, 0, bar(0, 1)), split(2, 1, bar(0, 2)), split(3, 2, bar(0, 3)), split(4, 3, bar(0, 4)), split(5, 4, bar(0, 5)), split(6, -3, bar(0, 6)), split(7, least, bar(0, 7)), split(8, most, bar(0, 8))}, []impl.Bar{bar(0, 4)}},
		{"in order", []impl.Split{split(3, 3, bar(5, 6)), split(2, 3, bar(0, 1)), split(1, 3, barTo(4, "01")), split(9, 3, bar(3, 4))}, []impl.Bar{bar(5, 6), bar(0, 1), barTo(4, "01"), bar(3, 4)}},
		{"each once", []impl.Split{split(1, 3, bar(0, 1)), split(2, 3, barTo(0, "1")), split(3, 3, bar(0, 1)), split(4, 3, barTo(0, "1")), split(5, 3, bar(0, 2)), split(6, 3, bar(0, 1))}, []impl.Bar{bar(0, 1), barTo(0, "1"), bar(0, 2)}}, {"Ids that stand twice", []impl.Split{split(1, 3, bar(0, 1)), split(1, 3, bar(0, 2)), split(1, 3, bar(0, 1))}, []impl.Bar{bar(0, 1), bar(0, 2)}}, {"an empty list is nothing", []impl.Split{split(1, 3, bar(0, 1)), split(2, 3, room)}, []impl.Bar{bar(0, 1)}},
		// what is unlike in one field is another Bar
		{"unlike Values", []impl.Split{split(1, 3, barTo(1, "01")), split(2, 3, barTo(1, "10")), split(3, 3, wide), split(4, 3, long), split(5, 3, bare), split(6, 3, barTo(2, "01")), split(7, 3, bar(1, -1)), split(8, 3, long), split(9, 3, bare)}, []impl.Bar{barTo(1, "01"), barTo(1, "10"), wide, long, bare, barTo(2, "01"), bar(1, -1)}}, {"words that are parted elsewhere", []impl.Split{split(1, 3, joined), split(2, 3, parted), split(3, 3, far)}, []impl.Bar{joined, parted, far}}, {"the other way round", []impl.Split{split(1, 3, bar(0, 1)), split(2, 3, bar(1, 0))}, []impl.Bar{bar(0, 1), bar(1, 0)}},
		{"both ends of int64", []impl.Split{split(least, 3, bar(least, most)), split(most, 3, bar(most, least)), split(0, 3, bar(least, most))}, []impl.Bar{bar(least, most), bar(most, least)}},
	} {
		if got := impl.MustBars(c.splits); !slices.EqualFunc(got, c.want, sameBar) {
			t.Errorf("%s: %v, want %v", c.what, got, c.want)
		}
	}
	decls := fourAndOne()
	got := splitsFrom(t, decls, readLiterals(t, decls, "a ! b", "(cat a c) ! (cat b d)", "(cat a b) ! (cat b a)", "#b10 ! d", "(cat d d) ! #b1010", "a ! a", "#b1 ! #b0"), impl.Cuts{At: make([][]int64, 5)})
	if splitsText(got) != "1 open 0/1, 2 open 2/3 0/1, 3 open 0/1, 4 open 3=10, 5 open 3=10, 6 false, 7 true" || barsText(impl.MustBars(got)) != "0/1 3=10" {
		t.Errorf("%s must %s", splitsText(got), barsText(impl.MustBars(got)))
	}
}

func TestStateOfByHand(t *testing.T) {
	const least, most = math.MinInt64, math.MaxInt64
	list := []impl.Split{split(5, 3, bar(0, 1)), split(2, 1), split(5, 2), split(2, 3, bar(0, 2)), split(0, 7), split(least, most), split(most, least), split(-1, -1)}
	for _, c := range [][2]int64{{5, 3}, {2, 1}, {0, 7}, {least, most}, {most, least}, {-1, -1}, {1, 0}, {3, 0}, {6, 0}, {least + 1, 0}, {most - 1, 0}} {
		if got := impl.StateOf(list, c[0]); got != c[1] {
			t.Errorf("the state of %d is %d, want %d", c[0], got, c[1])
		}
		if got := impl.StateOf(nil, c[0]); got != 0 {
			t.Errorf("the state of %d in nothing is %d", c[0], got)
		}
	}
}

func TestSplitsKeep(t *testing.T) {
	d := dice{state: 124}
	decls := []impl.Decl{{Name: "a", Width: 9}, {Name: "b", Width: 6}, {Name: "c", Width: 1}, {Name: "d", Width: 70}}
	for range 300 {
		decls, list := decls, thrownLiterals(&d, decls, 1+d.below(4), 4)
		if d.below(2) == 0 {
			decls = manyDecls(4, int64(1+d.below(70)))
			list = thrownRowsOfParts(&d, decls, 2+d.below(6), 3)
		}
		cl, _ := impl.ClassesOf(decls, list, thrownMarks(&d, decls, 5).cuts())
		keeps(t, impl.SplitsOf, decls, list, cl)
		splits, _ := impl.SplitsOf(decls, list, cl)
		keeps(t, impl.MustBars, splits)
		keeps(t, impl.StateOf, splits, int64(d.below(9)))
		for i := range splits {
			splits[i].State = 3
			splits[i].Bars = []impl.Bar{barTo(int64(d.below(3)), d.row(1+d.below(2)))}
		}
		keeps(t, impl.MustBars, splits)
		spoilClasses(&d, &cl)
		keeps(t, impl.SplitsOf, decls, list, cl)
	}
}
