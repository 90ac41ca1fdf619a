package tests

import (
	"fmt"
	"maps"
	"math"
	"slices"
	"strings"
	"testing"

	"loop.example/g00081/impl"
)

const manyVisits = 20000

// checkCheck is asked of right literals whose sides have forms.
func checkCheck(t *testing.T, decls []impl.Decl, list []impl.Literal, most int64) (impl.Result, string) {
	t.Helper()
	got := impl.Check(decls, list, most)
	want, in := checkByPicture(decls, list, most)
	if !sameResult(got, want) {
		t.Fatalf("%v with %d: %s, want %s", list, most, resultText(got), resultText(want))
	}
	return got, in
}

func wantBad(t *testing.T, what string, got impl.Result) {
	t.Helper()
	if got.Code != impl.CkBad || got.Visits != 0 || len(got.Values) != 0 {
		t.Fatalf("%s: %s, want bad", what, resultText(got))
	}
}

type checkCase struct {
	want  string
	texts []string
}

func checkOf(want string, texts ...string) checkCase { return checkCase{want, texts} }

func checkTexts(t *testing.T, decls []impl.Decl, list []checkCase) {
	t.Helper()
	for _, c := range list {
		got, _ := checkCheck(t, decls, readLiterals(t, decls, c.texts...), manyVisits)
		if resultText(got) != c.want {
			t.Errorf("%q: %s, want %s", c.texts, resultText(got), c.want)
		}
	}
}

func TestCheckByHand(t *testing.T) {
	checkTexts(t, nil, []checkCase{
		checkOf("sat 0"), checkOf("sat 0", "#b1 = #b1"), checkOf("sat 0", "#b1 ! #b0"), checkOf("unsat 0", "#b1 = #b0"), checkOf("unsat 0", "#b1 ! #b1"), checkOf("unsat 0", "#b1 ! #b0", "#b10 = #b10", "#b10 ! #b10"),
	})
	checkTexts(t, fourAndOne(), []checkCase{
		checkOf("sat 0 00 00 00 00 0000"), checkOf("sat 0 00 00 00 00 0000", "a = b"), checkOf("sat 0 10 10 00 00 0000", "a = b", "b = #b10"), checkOf("sat 0 10 00 00 00 0010", "e = (cat b a)", "a = #b10"), checkOf("sat 0 01 10 11 00 1001", "a = #b01", "b = #b10", "c = #b11", "e = (cat b a)"),
		// a clash of equalities, whatever else there is
		checkOf("unsat 0", "a = #b10", "a = #b11"), checkOf("unsat 0", "a = #b10", "a ! b", "b = #b11", "b = a", "c ! d"), checkOf("unsat 0", "e = (left 1 e)", "e = #b0110"), checkOf("unsat 0", "c ! #b00", "c ! #b01", "c ! #b10", "c ! #b11", "#b1 = #b0"),
		// inequalities that nothing can part
		checkOf("unsat 0", "a ! a"), checkOf("unsat 0", "a = b", "b ! a"), checkOf("unsat 0", "c ! d", "a = #b10", "b = #b10", "a ! b"), checkOf("unsat 0", "e = (cat a b)", "(part 2 1 e) ! (cat (part 0 0 a) (part 1 1 b))"), checkOf("unsat 0", "a ! b", "b ! c", "#b0 ! #b0"),
		// inequalities that two unlike values part need no visit
		checkOf("sat 0 10 11 00 00 0000", "a = #b10", "b = #b11", "a ! b", "b ! #b00"), checkOf("sat 0 00 00 00 00 0000", "(cat a #b1) ! (cat b #b0)"), checkOf("sat 1 10 11 00 01 0000", "a = #b10", "b = #b11", "a ! b", "c ! d"),
		// one visit for each that is open, and words from 0 upwards
		checkOf("sat 1 00 01 00 00 0000", "a ! b"), checkOf("sat 1 00 01 00 00 0000", "b ! a"), checkOf("sat 1 01 00 00 00 0000", "a ! #b00"), checkOf("sat 1 00 00 00 00 0000", "a ! #b01"), checkOf("sat 3 00 01 10 00 0000", "a ! b", "b ! c", "c ! a"), checkOf("sat 1 00 00 10 00 0000", "c = #b10", "a ! c"), checkOf("sat 1 10 10 00 00 0000", "c = #b00", "a = b", "b = #b10", "a ! d"),
		// Bars are taken from the lowest piece on
		checkOf("sat 1 00 00 00 01 0000", "(cat a c) ! (cat b d)"), checkOf("sat 1 00 01 00 00 0000", "(cat c a) ! (cat d b)"), checkOf("sat 1 00 00 00 00 0001", "e ! #x0"), checkOf("sat 1 00 00 00 00 0010", "(part 1 1 e) ! (part 0 0 e)"),
	})
}

// c is one bit, and x and y have two.
func oneAndTwo() []impl.Decl {
	return []impl.Decl{{Name: "c", Width: 1}, {Name: "x", Width: 2}, {Name: "y", Width: 2}, {Name: "z", Width: 1}}
}

func TestCheckComesBack(t *testing.T) {
	checkTexts(t, oneAndTwo(), []checkCase{
		// two visits, and one for the colours of c
		checkOf("unsat 3", "c ! #b0", "c ! #b1"), checkOf("sat 1 1 00 00 0", "c ! #b0"),
		// c = 0 is forced; the first Bar taken of the last one, at its lowest piece, is c ! 0
		checkOf("sat 3 0 01 00 0", "c ! #b1", "(cat x c) ! #b000"),
		checkOf("sat 2 0 01 00 0", "c ! #b1", "(cat c x) ! #b000"),
		// both Bars of each of two are tried, with one Colour for each that fails
		checkOf("unsat 10", "c ! #b1", "c ! #b0", "(cat x y) ! (cat y x)", "(cat c x) ! (cat z y)", "(cat z x) ! (cat c y)"),
		// a Bar that stands twice, in one inequality and in two
		checkOf("sat 1 0 00 01 0", "(cat x y) ! (cat y x)"), checkOf("sat 3 0 00 01 0", "x ! y", "y ! x", "(cat x y) ! (cat y x)"), checkOf("sat 5 1 00 00 0", "c ! z", "z ! c", "c ! z", "c ! #b0"), checkOf("unsat 6", "c ! z", "z ! c", "c ! #b0", "z ! #b0"),
		// inequalities that are open alone cost visits: those between do not
		checkOf("unsat 3", "#b1 ! #b0", "c ! #b0", "x = #b10", "x ! #b01", "c ! #b1", "y ! #b11", "y = #b00"),
	})
}

func TestCheckAtItsVisitsEnd(t *testing.T) {
	decls := oneAndTwo()
	for _, c := range []struct {
		texts []string
		ins   string // where the visits run out, with 0, 1 .. visits
		want  string
	}{
		{nil, "", "sat 0 0 00 00 0"}, {texts("x = #b10", "y = x"), "", "sat 0 0 10 10 0"}, {texts("x ! x"), "", "unsat 0"}, {texts("x = #b00", "x = #b01"), "", "unsat 0"}, {texts("x ! y"), "s", "sat 1 0 00 01 0"}, {texts("c ! #b0", "c ! #b1"), "ssc", "unsat 3"}, {texts("c ! #b1", "(cat x c) ! #b000"), "ssc", "sat 3 0 01 00 0"}, {texts("c ! #b1", "(cat x c) ! #b000", "y ! #b00"), "ssscs", "sat 5 0 01 01 0"}, {texts("c ! #b1", "(cat x c) ! #b000", "(cat y c) ! #b000"), "ssscc" + "sc", "sat 7 0 01 01 0"}, {texts("c ! z", "c ! #b0"), "ssc", "sat 3 1 00 00 0"}, {texts("c ! z", "c ! #b0", "z ! #b0"), "ssscc", "unsat 5"},
	} {
		list := readLiterals(t, decls, c.texts...)
		for most := range int64(len(c.ins)) {
			got, in := checkCheck(t, decls, list, most)
			if got.Code != impl.CkMany || got.Visits != most || len(got.Values) != 0 || in[:1] != c.ins[most:most+1] {
				t.Errorf("%q with %d: %s in the %s", c.texts, most, resultText(got), in)
			}
		}
		for _, most := range []int64{int64(len(c.ins)), int64(len(c.ins)) + 1, 19999, manyVisits} {
			if got, _ := checkCheck(t, decls, list, most); resultText(got) != c.want {
				t.Errorf("%q with %d: %s, want %s", c.texts, most, resultText(got), c.want)
			}
		}
		for _, most := range []int64{-1, 20001, math.MinInt64, math.MaxInt64} {
			wantBad(t, fmt.Sprint(c.texts, " with ", most), impl.Check(decls, list, most))
		}
	}
}

// Checks whose visits run out only at the greatest number that may be asked for.
func TestCheckRunsOutOfAllVisits(t *testing.T) {
	decls := manyDecls(60, 3)
	var inColours, inSearch []string
	for i := range 9 {
		for j := range i {
			inColours = append(inColours, fmt.Sprintf("v%d ! v%d", i, j))
		}
	}
	inSearch = append(inSearch, "(part 0 0 v0) ! #b0", "(part 0 0 v0) ! #b1")
	for i := 1; i < 40; i++ {
		inSearch = append(inSearch, fmt.Sprintf("(cat v%d v%d) ! (cat v%d v%d)", i, i+1, i+1, i+2))
	}
	for what, some := range map[string][]string{"colours": inColours, "search": inSearch} {
		list := readLiterals(t, decls, some...)
		if got := impl.Check(decls, list, manyVisits); resultText(got) != "many 20000" {
			t.Errorf("%s: %s", what, resultText(got))
		}
		if got := impl.Check(decls, list, 1234); resultText(got) != "many 1234" {
			t.Errorf("%s: %s", what, resultText(got))
		}
	}
	// eight of three bits fit, and the ninth is one too many
	if got := impl.Check(decls, readLiterals(t, decls, inColours[:28]...), manyVisits); got.Code != impl.CkSat || got.Visits != 28 {
		t.Error(resultText(got))
	}
}

func TestCheckOfManyClasses(t *testing.T) {
	for _, c := range []struct {
		width int64
		texts []string
		want  string // the code and the visits
	}{
		{200, texts("v0 ! (left 1 v0)"), "sat 1"}, {201, texts("v0 ! (left 1 v0)"), "large 0"},
		// one class fewer than slices
		{201, texts("v0 ! (left 1 v0)", "(part 0 0 v0) = (part 1 1 v0)"), "sat 1"}, {202, texts("v0 ! (left 1 v0)", "(part 0 0 v0) = (part 1 1 v0)"), "large 0"}, {4096, texts("v0 = (left 1 v0)", "v0 ! #x"+strings.Repeat("0", 1024)), "sat 1"},
		// fixed ones count, too
		{200, texts("v0 ! (left 1 v0)", "(part 0 0 v0) = #b1"), "sat 1"}, {201, texts("v0 ! (left 1 v0)", "(part 0 0 v0) = #b1", "(part 1 1 v0) = #b1"), "large 0"}, {201, texts("v0 ! (left 1 v0)", "(part 1 0 v0) = #b11"), "large 0"},
		// what has no values for another reason is told ahead
		{201, texts("v0 ! (left 1 v0)", "(part 0 0 v0) = #b1", "(part 0 0 v0) = #b0"), "unsat 0"}, {201, texts("v0 ! (left 1 v0)", "v0 ! v0"), "unsat 0"}, {201, texts("v0 ! (left 1 v0)", "#b1 ! #b0"), "large 0"},
	} {
		decls := manyDecls(1, c.width)
		got := impl.Check(decls, readLiterals(t, decls, c.texts...), manyVisits)
		if text := fmt.Sprint(codeNames[got.Code], " ", got.Visits); text != c.want || (len(got.Values) == 1) != (got.Code == impl.CkSat) {
			t.Errorf("%d bits, %q: %s, want %s", c.width, c.texts, resultText(got), c.want)
		}
	}
	// many variables, most of them in one slice
	for most, texts := range map[int64][]string{200: texts("(cat v0 v1) ! (left 1 (cat v1 v0))", "v2 ! (left 1 v2)"), 201: texts("(cat v0 v1) ! (left 1 (cat v1 v0))", "v2 ! (left 1 v2)", "(part 0 0 v3) ! #b0")} {
		decls := manyDecls(56, 49)
		decls[3].Width = 2
		list := readLiterals(t, decls, texts...)
		cl, _ := impl.ClassesOf(decls, list, noMarks(decls).cuts())
		if got := impl.Check(decls, list, manyVisits); int64(len(cl.List)) != most || (got.Code == impl.CkSat) != (most == 200) || (got.Code == impl.CkLarge) != (most == 201) || got.Code == impl.CkLarge && got.Visits != 0 {
			t.Errorf("%d classes: %s", len(cl.List), short(resultText(got)))
		}
	}
}

func TestCheckOfThrownLiterals(t *testing.T) {
	d := dice{state: 131}
	told := make(map[string]int)
	wide := []impl.Decl{{Name: "a", Width: 7}, {Name: "b", Width: 5}, {Name: "c", Width: 4}, {Name: "d", Width: 1}, {Name: "e", Width: 66}}
	for range 3000 {
		decls, list := wide, thrownLiterals(&d, wide, 1+d.below(4), 3)
		if d.below(3) > 0 {
			decls = manyDecls(2+d.below(5), int64(1+d.below(2)))
			list = thrownRowsOfParts(&d, decls, 2+d.below(9), 3)
		}
		if d.below(3) == 0 {
			decls = manyDecls(4, 1)
			list = thrownRowsOfParts(&d, decls, 7, 3)
			for i := range list {
				list[i].Equal = false
			}
		}
		got, in := checkCheck(t, decls, list, int64(d.below(2)*d.below(90)+d.below(9)))
		told[codeNames[got.Code]+in]++
		if got.Code == impl.CkUnsat && got.Visits > 0 {
			told["unsat by search"]++
		}
	}
	for _, key := range []string{"sat", "unsat", "unsat by search", "manysearch", "manycolour"} {
		if told[key] < 80 {
			t.Errorf("%s is too seldom: %v", key, told)
		}
	}
}

// With fewer visits than are needed there are too many; with more nothing changes.
func TestCheckByAllMosts(t *testing.T) {
	d := dice{state: 132}
	ran := make(map[string]int)
	for range 150 {
		decls := manyDecls(2+d.below(3), 1)
		list := thrownRowsOfParts(&d, decls, 3+d.below(6), 3)
		full := impl.Check(decls, list, manyVisits)
		for most := range min(full.Visits, 60) {
			got, in := checkCheck(t, decls, list, most)
			if got.Code != impl.CkMany || got.Visits != most {
				t.Fatalf("%v with %d: %s, and %s", list, most, resultText(got), resultText(full))
			}
			ran[in]++
		}
		for more := range int64(3) {
			if got := impl.Check(decls, list, full.Visits+more); !sameResult(got, full) {
				t.Fatalf("%v: %s, then %s", list, resultText(full), resultText(got))
			}
		}
	}
	if ran["search"] < 100 || ran["colour"] < 100 {
		t.Errorf("too seldom: %v", ran)
	}
}

func holdByRows(list []impl.Literal, rows []string) bool {
	return !slices.ContainsFunc(list, func(l impl.Literal) bool {
		return l.Equal != (lastOf(rowsByTable(rows, l.S)) == lastOf(rowsByTable(rows, l.T)))
	})
}

func rowsOfValues(values []impl.Bits) []string {
	var rows []string
	for _, value := range values {
		rows = append(rows, rowOfBits(value))
	}
	return rows
}

// narrowLists are thrown literals of variables of at most 8 bits in all.
func narrowLists(d *dice, count int, call func(decls []impl.Decl, list []impl.Literal)) {
	cut := []impl.Decl{{Name: "a", Width: 3}, {Name: "b", Width: 2}, {Name: "c", Width: 2}, {Name: "d", Width: 1}}
	for range count {
		decls := manyDecls(4, 2)
		if d.below(2) == 0 {
			decls = manyDecls(3+d.below(6), 1)
		}
		call(decls, thrownRowsOfParts(d, decls, 2+d.below(8), 1+d.below(3)))
		call(cut, thrownLiterals(d, cut, 1+d.below(5), 1+d.below(3)))
		call(nil, nil)
	}
}

// The promise: values that are told are right, and all literals hold by them;
// where none are told there are none.
func TestCheckByAllValues(t *testing.T) {
	d := dice{state: 133}
	told := make(map[int64]int)
	narrowLists(&d, 250, func(decls []impl.Decl, list []impl.Literal) {
		got := impl.Check(decls, list, manyVisits)
		told[got.Code]++
		all := valuesOfAll(decls, list)
		if want := map[bool]int64{true: impl.CkSat, false: impl.CkUnsat}[len(all) > 0]; got.Code != want {
			t.Fatalf("%v: %s, and there are %d values", list, resultText(got), len(all))
		}
		if got.Code == impl.CkSat && (!impl.ValuesOk(decls, got.Values) || !holdByRows(list, rowsOfValues(got.Values)) || impl.FirstFails(decls, got.Values, list) != 0) {
			t.Fatalf("%v does not hold: %s", list, resultText(got))
		}
	})
	if told[impl.CkSat] < 150 || told[impl.CkUnsat] < 150 {
		t.Errorf("too seldom: %v", told)
	}
}

// The promise: equalities alone need no visit, as nothing bars a colour.
func TestCheckOfEqualities(t *testing.T) {
	d := dice{state: 134}
	told := make(map[int64]int)
	decls := []impl.Decl{{Name: "a", Width: 9}, {Name: "b", Width: 6}, {Name: "c", Width: 1}, {Name: "d", Width: 70}}
	for range 600 {
		list := equalitiesOf(thrownLiterals(&d, decls, 1+d.below(8), 1+d.below(4)), nil)
		got, _ := checkCheck(t, decls, list, 0)
		told[got.Code]++
		if got.Visits != 0 || got.Code == impl.CkMany || got.Code == impl.CkSat && !holdByRows(list, rowsOfValues(got.Values)) {
			t.Fatalf("%v: %s", list, resultText(got))
		}
	}
	if told[impl.CkSat] < 100 || told[impl.CkUnsat] < 100 {
		t.Errorf("too seldom: %v", told)
	}
}

func TestCheckOfWideWords(t *testing.T) {
	decls := []impl.Decl{{Name: "a", Width: 4096}, {Name: "b", Width: 4096}, {Name: "c", Width: 4000}, {Name: "d", Width: 96}}
	ones := "#x" + strings.Repeat("f", 1024)
	for _, texts := range [][]string{texts("a ! b", "a = "+ones), texts("a = (cat c d)", "d ! #x"+strings.Repeat("0", 24), "c ! (part 3999 0 b)"), texts("b = (sign 96 c)", "(part 4095 4095 b) = #b1", "a = b", "d ! (part 95 0 a)")} {
		list := readLiterals(t, decls, texts...)
		got := impl.Check(decls, list, 10)
		if got.Code != impl.CkSat || !impl.ValuesOk(decls, got.Values) || !holdByRows(list, rowsOfValues(got.Values)) {
			t.Errorf("%s: %s", short(fmt.Sprint(texts)), short(resultText(got)))
		}
	}
	if got := impl.Check(decls, readLiterals(t, decls, "a = (left 1 a)", "a ! (cat c d)"), 10); resultText(got) != "large 0" {
		t.Error(short(resultText(got)))
	}
	if got := impl.Check(decls, readLiterals(t, decls, "a = (left 1 a)", "a ! "+ones, "a ! #x"+strings.Repeat("0", 1024)), 10); resultText(got) != "unsat 3" {
		t.Error(short(resultText(got)))
	}
}

// wrongLists are lists that are no right literals for someDecls, or have a side without a flat form.
func wrongLists() map[string][]impl.Literal {
	a := term(variable(0))
	long, zero := term(variable(2), one(impl.TmRep, 2001, 0)), term(constant(strings.Repeat("0", 2001)))
	lists := map[string][]impl.Literal{
		"Ids that do not rise": {literal(2, true, a, a), literal(2, false, a, a)},
		"Ids that fall":        {literal(2, false, a, a), literal(1, true, a, a)},
		"sides of two widths":  {literal(1, true, a, term(variable(1)))},
		"no sides":             {literal(1, true, impl.Term{}, impl.Term{})},
		"no S":                 {literal(1, true, impl.Term{}, a)},
		"no T":                 {literal(1, true, a, impl.Term{})},
		"a long S":             {literal(1, true, long, zero)},
		"a long T":             {literal(1, true, zero, long)},
		"a long node":          {literal(1, true, a, term(variable(2), one(impl.TmRep, 2001, 0), part(3, 0, 1)))},
		"61 literals":          slices.Repeat([]impl.Literal{literal(0, true, a, a)}, 61),
		"a wrong last one":     {literal(1, true, a, a), literal(2, true, a, a), literal(3, true, a, term(variable(1)))},
		"a long last one":      {literal(1, true, a, a), literal(2, true, a, a), literal(3, true, long, zero)},
	}
	for i := range lists["61 literals"] {
		lists["61 literals"][i].Id = int64(i + 1)
	}
	for _, id := range []int64{math.MinInt64, -1, 0, 1000001, math.MaxInt64} {
		lists[fmt.Sprint("the Id ", id)] = []impl.Literal{literal(id, true, a, a)}
	}
	for i, x := range wrongTerms(term(variable(0), constant("01"), cat(0, 1))) {
		if widthsByTable(someDecls(), x) == nil {
			lists[fmt.Sprint("the wrong S ", i)] = []impl.Literal{literal(1, true, x, x)}
			lists[fmt.Sprint("the wrong T ", i)] = []impl.Literal{literal(1, true, term(constant("000000")), x)}
		}
	}
	// what is wrong with equalities is wrong with inequalities, too
	for what, list := range maps.Clone(lists) {
		list = slices.Clone(list)
		for i := range list {
			list[i].Equal = false
		}
		lists[what+", unlike"] = list
	}
	return lists
}

func wrongDecls() [][]impl.Decl {
	return [][]impl.Decl{{{Name: "a", Width: 0}}, {{Name: "A", Width: 4}}, {{Name: "", Width: 4}}, {{Name: "a", Width: 4}, {Name: "a", Width: 4}}, {{Name: "a", Width: 4097}}, {{Name: "a", Width: math.MaxInt64}}, {{Name: "a", Width: math.MinInt64}}, manyDecls(61, 2), manyDecls(60, 334)}
}

func TestCheckRefuses(t *testing.T) {
	for what, list := range wrongLists() {
		for _, most := range []int64{0, manyVisits, -1} {
			wantBad(t, what, impl.Check(someDecls(), list, most))
		}
	}
	for _, decls := range wrongDecls() {
		wantBad(t, "wrong decls", impl.Check(decls, nil, 10))
		wantBad(t, "wrong decls", impl.Check(decls, []impl.Literal{literal(1, true, term(constant("1")), term(constant("0")))}, 10))
	}
	// a list that is wrong in one place alone is refused ahead of all that is told of the others
	a := term(variable(0))
	for what, first := range map[string]impl.Literal{"a clash": literal(1, true, term(constant("1")), term(constant("0"))), "nothing parts it": literal(1, false, a, a)} {
		if got := impl.Check(someDecls(), []impl.Literal{first}, 10); resultText(got) != "unsat 0" {
			t.Errorf("%s: %s", what, resultText(got))
		}
		wantBad(t, what, impl.Check(someDecls(), []impl.Literal{first, literal(2, true, a, term(variable(1)))}, 10))
		wantBad(t, what, impl.Check(someDecls(), []impl.Literal{first}, -1))
		wantBad(t, what, impl.Check(someDecls(), []impl.Literal{first}, 20001))
	}
	full := wrongLists()["61 literals"][:60]
	if got := impl.Check(someDecls(), full, 0); got.Code != impl.CkSat {
		t.Errorf("60 literals: %s", resultText(got))
	}
}

func TestCheckKeeps(t *testing.T) {
	d := dice{state: 135}
	wide := []impl.Decl{{Name: "a", Width: 9}, {Name: "b", Width: 6}, {Name: "c", Width: 1}, {Name: "d", Width: 70}}
	for range 250 {
		decls, list := wide, thrownLiterals(&d, wide, 1+d.below(4), 4)
		if d.below(2) == 0 {
			decls = manyDecls(4, int64(1+d.below(70)))
			list = thrownRowsOfParts(&d, decls, 2+d.below(6), 3)
		}
		most := int64(d.below(40))
		keeps(t, impl.Check, decls, list, most)
		keeps(t, impl.Entails, decls, list[:len(list)-1], list[len(list)-1], most)
		keeps(t, impl.Another, decls, list, valuesOfRows(thrownRows(&d, decls)), most)
		if r := impl.Check(decls, list, most); r.Code == impl.CkSat {
			keeps(t, impl.Another, decls, list, r.Values, most)
		}
	}
	// a word that stands as it is in an answer
	decls := manyDecls(2, 64)
	keeps(t, impl.Check, decls, readLiterals(t, decls, "v0 = #x0123456789abcdef", "v1 ! v0"), int64(1))
	keeps(t, impl.Another, manyDecls(1, 64), []impl.Literal(nil), valuesOfRows([]string{strings.Repeat("10", 32)}), int64(1))
}
