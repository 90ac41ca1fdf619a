package tests

import (
	"fmt"
	"math"
	"slices"
	"strings"
	"testing"

	"loop.example/g00081/impl"
)

// What follows, as the document tells it: by pieces and classes of the
// pictures. It is asked of right literals and terms with flat forms, without a clash.

func classesForTerms(decls []impl.Decl, eqs []impl.Literal, s, u impl.Term) (marks, impl.Classes) {
	m, _ := noMarks(decls).closed(decls, append(slices.Clone(eqs), literal(1, true, s, u)))
	cl, _ := classesByPicture(decls, eqs, m.cuts())
	return m, cl
}

func sameByPicture(decls []impl.Decl, eqs []impl.Literal, s, u impl.Term) bool {
	m, cl := classesForTerms(decls, eqs, s, u)
	sides, _ := wiresOfSides(decls, literal(1, true, s, u))
	return !slices.ContainsFunc(m.pieces(sides), func(p impl.Piece) bool { return sideText(cl, p.A) != sideText(cl, p.B) })
}

// forcedByPicture has a dot for each bit that is not forced.
func forcedByPicture(decls []impl.Decl, eqs []impl.Literal, x impl.Term) string {
	_, cl := classesForTerms(decls, eqs, x, x)
	known, _ := knownByPicture(decls, cl, x)
	row := ""
	for _, k := range known {
		if k.Value.Width > 0 {
			row = rowOfBits(k.Value) + row
		} else {
			row = strings.Repeat(".", int(k.Width)) + row
		}
	}
	return row
}

func tiedByPicture(decls []impl.Decl, eqs []impl.Literal, x impl.Term) []int64 {
	want := forcedByPicture(decls, eqs, x)
	left := slices.Clone(eqs)
	for i := len(left) - 1; i >= 0; i-- {
		if fewer := slices.Delete(slices.Clone(left), i, i+1); forcedByPicture(decls, fewer, x) == want {
			left = fewer
		}
	}
	var ids []int64
	for _, l := range left {
		ids = append(ids, l.Id)
	}
	return ids
}

func sameVarsByPicture(decls []impl.Decl, eqs []impl.Literal) [][]int64 {
	w := newWeb(int64(len(decls)))
	for a := range decls {
		for b := range a {
			x, y := term(variable(int64(a))), term(variable(int64(b)))
			if decls[a].Width == decls[b].Width && sameByPicture(decls, eqs, x, y) {
				w.join(link(int64(a), int64(b), 1))
			}
		}
	}
	return w.groups()
}

// forcedText writes a mask and bits as one row, with dots; "?" where the two do not fit.
func forcedText(mask, value impl.Bits) string {
	if !impl.BitsOk(mask) || !impl.BitsOk(value) || mask.Width != value.Width {
		return "?"
	}
	m, v := rowOfBits(mask), rowOfBits(value)
	row := []byte(v)
	for i := range row {
		if m[i] == '0' {
			if v[i] == '1' {
				return "?"
			}
			row[i] = '.'
		}
	}
	return string(row)
}

func hasClash(decls []impl.Decl, eqs []impl.Literal) bool {
	cl, _ := classesByPicture(decls, eqs, noMarks(decls).cuts())
	return len(cl.Clash) > 0
}

// checkImplied holds all four functions against the pictures; it is asked of
// right literals, and of right terms of one width, all with flat forms.
func checkImplied(t *testing.T, decls []impl.Decl, list []impl.Literal, s, u impl.Term) bool {
	t.Helper()
	eqs := equalitiesOf(list, nil)
	if hasClash(decls, eqs) {
		wantCode(t, "a clash", decls, list, s, u, impl.ImClash)
		return false
	}
	is, code := impl.Same(decls, list, s, u)
	if want := sameByPicture(decls, eqs, s, u); is != want || code != impl.ImOk {
		t.Fatalf("%v: %v and %v: %v, %d, want %v", list, s, u, is, code, want)
	}
	mask, value, code := impl.Forced(decls, list, s)
	if want := forcedByPicture(decls, eqs, s); forcedText(mask, value) != want || code != impl.ImOk {
		t.Fatalf("%v forces %s of %v, %d, want %s", list, forcedText(mask, value), s, code, want)
	}
	sets, code := impl.SameVars(decls, list)
	if want := sameVarsByPicture(decls, eqs); !sameLists(sets, want) || code != impl.ImOk {
		t.Fatalf("%v: the same are %v, %d, want %v", list, sets, code, want)
	}
	ids, code := impl.Tied(decls, list, s)
	if want := tiedByPicture(decls, eqs, s); !slices.Equal(ids, want) || code != impl.ImOk {
		t.Fatalf("%v: %v is tied by %v, %d, want %v", list, s, ids, code, want)
	}
	return true
}

// wantCode wants a code and nothing else of all four.
func wantCode(t *testing.T, what string, decls []impl.Decl, list []impl.Literal, s, u impl.Term, want int64) {
	t.Helper()
	if is, code := impl.Same(decls, list, s, u); is || code != want {
		t.Fatalf("%s: the same: %v, %d, want %d", what, is, code, want)
	}
	if mask, value, code := impl.Forced(decls, list, s); code != want || mask.Width != 0 || len(mask.Words) != 0 || value.Width != 0 || len(value.Words) != 0 {
		t.Fatalf("%s: forced: %v, %v, %d, want %d", what, mask, value, code, want)
	}
	if ids, code := impl.Tied(decls, list, s); len(ids) != 0 || code != want {
		t.Fatalf("%s: tied: %v, %d, want %d", what, ids, code, want)
	}
	// SameVars is not asked about a term, so that what is wrong with one does not count
	sets, code := impl.SameVars(decls, list)
	if s.Nodes != nil && (len(sets) != 0 || code != want) {
		t.Fatalf("%s: the same variables: %v, %d, want %d", what, sets, code, want)
	}
}

func TestSameByHand(t *testing.T) {
	decls := fourAndOne()
	known := texts("a = b", "c = #b10", "(part 1 0 e) = (cat (part 0 0 a) #b1)", "d ! a", "c ! d")
	for _, c := range []struct {
		s, u string
		want bool
	}{
		{"a", "a", true}, {"a", "b", true}, {"b", "a", true}, {"a", "c", false}, {"a", "d", false}, {"d", "d", true}, {"e", "e", true}, {"#b10", "#b10", true}, {"#b10", "#b11", false}, {"c", "#b10", true}, {"#b10", "c", true}, {"c", "#b11", false}, {"c", "#b00", false}, {"a", "#b10", false},
		// some bits
		{"(part 1 1 e)", "(part 0 0 b)", true}, {"(part 1 1 e)", "(part 1 1 b)", false}, {"(part 0 0 e)", "#b1", true}, {"(part 0 0 e)", "(part 1 1 c)", true}, {"(part 0 0 e)", "(part 0 0 c)", false}, {"(part 1 0 e)", "(cat (part 0 0 b) (part 1 1 c))", true}, {"(part 2 0 e)", "(cat (part 0 0 d) (part 0 0 b) #b1)", false}, {"(part 2 0 e)", "(cat (part 2 2 e) (part 0 0 b) #b1)", true},
		// parts that are the same, with one that is not
		{"(cat a c d)", "(cat b #b10 d)", true}, {"(cat a c d)", "(cat b #b10 a)", false}, {"(cat d a c)", "(cat a b #b10)", false}, {"(cat a d c)", "(cat b a #b10)", false}, {"(cat c a)", "(cat #b1 #b0 b)", true}, {"(left 1 a)", "(left 1 b)", true}, {"(left 1 a)", "(right 1 b)", true}, {"(left 1 a)", "b", false}, {"(sign 2 c)", "#b1110", true}, {"(sign 2 a)", "(sign 2 b)", true}, {"(sign 2 a)", "(zero 2 b)", false}, {"(zero 2 a)", "(cat #b00 b)", true}, {"(rep 2 a)", "(cat a b)", true},
	} {
		list := readLiterals(t, decls, known...)
		s, u := readTerm(t, decls, c.s), readTerm(t, decls, c.u)
		if is, code := impl.Same(decls, list, s, u); is != c.want || code != impl.ImOk {
			t.Errorf("%s and %s: %v, %d, want %v", c.s, c.u, is, code, c.want)
		}
		checkImplied(t, decls, list, s, u)
	}
	// without equalities only what is the same by itself is the same
	for _, list := range [][]impl.Literal{nil, readLiterals(t, decls, "a ! b", "c ! #b10", "a ! a")} {
		for _, pair := range [][2]string{{"a", "b"}, {"a", "(left 1 a)"}, {"(cat a b)", "(cat b a)"}, {"c", "#b10"}} {
			s, u := readTerm(t, decls, pair[0]), readTerm(t, decls, pair[1])
			if is, code := impl.Same(decls, list, s, u); is || code != impl.ImOk {
				t.Errorf("%v: %v, %d", pair, is, code)
			}
			checkImplied(t, decls, list, s, u)
			checkImplied(t, decls, list, s, s)
		}
	}
	if is, code := impl.Same(nil, nil, term(constant("1")), term(constant("1"))); !is || code != impl.ImOk {
		t.Error(is, code)
	}
	if is, code := impl.Same(nil, nil, term(constant("1")), term(constant("0"))); is || code != impl.ImOk {
		t.Error(is, code)
	}
}

func TestForcedByHand(t *testing.T) {
	decls := fourAndOne()
	for _, c := range []struct {
		texts []string
		x     string
		want  string
	}{
		{nil, "a", ".."}, {nil, "#b10", "10"}, {nil, "(cat a #b10 b)", "..10.."}, {nil, "(zero 2 a)", "00.."}, {nil, "(sign 2 a)", "...."},
		{texts("a = #b10"), "a", "10"}, {texts("a = #b10"), "b", ".."}, {texts("a = #b10"), "(cat a b)", "10.."}, {texts("a = #b10"), "(cat b a)", "..10"}, {texts("a = #b10"), "(left 1 a)", "01"}, {texts("a = #b10"), "(sign 2 a)", "1110"}, {texts("a = #b10", "a = b"), "b", "10"}, {texts("a = b", "b = #b01"), "a", "01"},
		// some bits forced and others not
		{texts("(part 1 1 a) = #b1"), "a", "1."}, {texts("(part 0 0 a) = #b0"), "a", ".0"}, {texts("(part 2 1 e) = #b01"), "e", ".01."}, {texts("(part 2 1 e) = #b01"), "(left 1 e)", "01.."}, {texts("e = (cat a b)", "(part 2 1 e) = #b10"), "a", ".1"}, {texts("e = (cat a b)", "(part 2 1 e) = #b10"), "b", "0."}, {texts("e = (cat a #b01)"), "e", "..01"},
		// bits that are tied to one another, but not forced
		{texts("a = b"), "a", ".."}, {texts("a = b", "b = c", "c = a"), "(cat a b c)", "......"}, {texts("e = (left 1 e)"), "e", "...."}, {texts("e = (left 1 e)", "(part 2 2 e) = #b1"), "e", "1111"}, {texts("e = (left 2 e)", "(part 2 2 e) = #b1"), "e", ".1.1"}, {texts("a = (left 1 a)", "a = b", "(part 0 0 b) = (part 3 3 e)"), "(cat a b e)", "........"},
		// inequalities do not count, even where they would leave one value alone
		{texts("a ! #b10"), "a", ".."}, {texts("(part 0 0 a) ! #b0"), "a", ".."}, {texts("(part 0 0 a) ! #b0", "a = b", "(part 1 1 b) = #b1", "a ! b"), "a", "1."},
		// constants that meet across
		{texts("(cat a #b1) = (cat #b0 b)"), "(cat a b)", "0..1"}, {texts("#b10 = #b10"), "a", ".."},
	} {
		list := readLiterals(t, decls, c.texts...)
		x := readTerm(t, decls, c.x)
		mask, value, code := impl.Forced(decls, list, x)
		if forcedText(mask, value) != c.want || code != impl.ImOk {
			t.Errorf("%q forces %s of %s, %d, want %s", c.texts, forcedText(mask, value), c.x, code, c.want)
		}
		checkImplied(t, decls, list, x, x)
	}
	mask, value, code := impl.Forced(nil, nil, term(constant("0110")))
	if forcedText(mask, value) != "0110" || code != impl.ImOk {
		t.Error(mask, value, code)
	}
}

func TestSameVarsByHand(t *testing.T) {
	decls := []impl.Decl{{Name: "a", Width: 2}, {Name: "b", Width: 3}, {Name: "c", Width: 2}, {Name: "d", Width: 3}, {Name: "e", Width: 2}, {Name: "f", Width: 1}, {Name: "g", Width: 1}}
	for _, c := range []struct {
		texts []string
		want  string
	}{
		{nil, "[]"}, {texts("a = c"), "[[0 2]]"}, {texts("c = a"), "[[0 2]]"}, {texts("a = c", "c = e"), "[[0 2 4]]"}, {texts("e = c", "a = e"), "[[0 2 4]]"}, {texts("e = c", "b = d"), "[[1 3] [2 4]]"}, {texts("g = f", "d = b", "c = a"), "[[0 2] [1 3] [5 6]]"}, {texts("a = a"), "[]"}, {texts("a ! c"), "[]"}, {texts("a ! c", "a = e", "a ! e"), "[[0 4]]"},
		// bit by bit
		{texts("(part 0 0 a) = (part 0 0 c)"), "[]"}, {texts("(part 0 0 a) = (part 0 0 c)", "(part 1 1 c) = (part 1 1 a)"), "[[0 2]]"}, {texts("(part 0 0 a) = (part 1 1 c)", "(part 0 0 c) = (part 1 1 a)"), "[]"}, {texts("a = (left 1 a)", "c = (cat (part 0 0 a) (part 1 1 a))"), "[[0 2]]"}, {texts("(cat a c) = (cat c e)"), "[[0 2 4]]"},
		// of one width alone, though the bits are the same
		{texts("a = #b11", "b = #b111"), "[]"}, {texts("a = #b11", "b = #b111", "c = #b11", "d = #b111", "f = #b1", "g = #b1"), "[[0 2] [1 3] [5 6]]"}, {texts("b = (cat (part 0 0 a) a)", "a = (left 1 a)", "f = (part 0 0 b)"), "[]"}, {texts("f = (part 0 0 a)", "f = (part 1 1 a)", "b = (rep 3 f)", "d = (rep 3 g)", "c = (rep 2 g)"), "[]"}, {texts("f = (part 0 0 a)", "f = (part 1 1 a)", "b = (rep 3 f)", "d = (rep 3 g)", "c = (rep 2 g)", "g = (part 2 2 b)"), "[[0 2] [1 3] [5 6]]"},
		// with the same constants, cut at other places
		{texts("a = #b10", "c = #b10"), "[[0 2]]"}, {texts("a = #b10", "c = #b11"), "[]"}, {texts("(part 0 0 a) = #b0", "(part 1 1 a) = #b1", "c = #b10"), "[[0 2]]"}, {texts("(part 1 0 b) = #b01", "(part 2 2 b) = #b1", "(part 2 1 d) = #b10", "(part 0 0 d) = #b1"), "[[1 3]]"}, {texts("a = (cat f #b1)", "c = (cat f #b1)"), "[[0 2]]"}, {texts("a = (cat f #b1)", "c = (cat g #b1)"), "[]"}, {texts("a = (cat f #b1)", "c = (cat g #b1)", "f = g"), "[[0 2] [5 6]]"},
	} {
		list := readLiterals(t, decls, c.texts...)
		got, code := impl.SameVars(decls, list)
		if fmt.Sprint(got) != c.want || code != impl.ImOk {
			t.Errorf("%q: %v, %d, want %s", c.texts, got, code, c.want)
		}
		checkImplied(t, decls, list, term(variable(0)), term(variable(2)))
	}
	if got, code := impl.SameVars(nil, nil); len(got) != 0 || code != impl.ImOk {
		t.Error(got, code)
	}
}

func TestTiedByHand(t *testing.T) {
	decls := fourAndOne()
	for _, c := range []struct {
		texts []string
		x     string
		want  string
	}{
		{nil, "a", "[]"}, {texts("a = b"), "a", "[]"}, {texts("a = #b10"), "a", "[1]"}, {texts("a = #b10"), "b", "[]"}, {texts("a = #b10"), "#b10", "[]"}, {texts("b = #b10", "a = b"), "a", "[1 2]"}, {texts("b = #b10", "a = b"), "b", "[1]"}, {texts("a = b", "c = d", "b = #b10", "d = #b01"), "a", "[1 3]"}, {texts("a = b", "c = d", "b = #b10", "d = #b01"), "(cat a c)", "[1 2 3 4]"},
		// equalities that stand twice: the last ones are left out
		{texts("a = #b10", "a = #b10"), "a", "[1]"}, {texts("a = b", "b = a", "b = #b10", "a = b", "b = #b10"), "a", "[1 3]"}, {texts("b = #b10", "a = b", "a = #b10"), "a", "[1 2]"}, {texts("a = #b10", "b = #b10", "a = b"), "a", "[1]"}, {texts("a = b", "b = #b10", "a = #b10"), "(cat a b)", "[1 2]"},
		// some bits alone, by equalities of which each has one
		{texts("(part 0 0 a) = #b1", "(part 1 1 a) = #b0", "a = #b01"), "a", "[1 2]"}, {texts("a = #b01", "(part 0 0 a) = #b1", "(part 1 1 a) = #b0"), "a", "[1]"}, {texts("(part 0 0 a) = #b1", "a = #b01", "(part 1 1 a) = #b0"), "a", "[2]"}, {texts("(part 0 0 a) = #b1", "a = #b01", "(part 1 1 a) = #b0"), "(part 0 0 a)", "[1]"}, {texts("e = (cat a b)", "(part 2 1 e) = #b10"), "a", "[1 2]"},
		// what was left out stays out: behind that the first ones are needed
		{texts("a = #b10", "a = b", "b = c", "c = #b10"), "a", "[1]"}, {texts("b = #b10", "c = #b10", "a = b", "a = c"), "a", "[1 3]"}, {texts("c = #b10", "b = c", "a = b", "c = #b10", "a = c"), "a", "[1 2 3]"},
		// inequalities do not count
		{texts("a ! #b11", "b = #b10", "a ! b", "a = b", "a ! a"), "a", "[2 4]"},
	} {
		list := readLiterals(t, decls, c.texts...)
		x := readTerm(t, decls, c.x)
		got, code := impl.Tied(decls, list, x)
		if fmt.Sprint(got) != c.want || code != impl.ImOk {
			t.Errorf("%q tie %s by %v, %d, want %s", c.texts, c.x, got, code, c.want)
		}
		checkImplied(t, decls, list, x, x)
	}
	list := readLiterals(t, decls, "a = b", "c ! d", "b = #b10")
	list[0].Id, list[1].Id, list[2].Id = 7, 8, 1000000
	if got, code := impl.Tied(decls, list, term(variable(0))); fmt.Sprint(got) != "[7 1000000]" || code != impl.ImOk {
		t.Error(got, code)
	}
}

func TestImpliedOfThrownLiterals(t *testing.T) {
	d := dice{state: 151}
	told := [2]int{}
	wide := []impl.Decl{{Name: "a", Width: 7}, {Name: "b", Width: 5}, {Name: "c", Width: 5}, {Name: "d", Width: 1}, {Name: "e", Width: 66}}
	for range 600 {
		decls, list := wide, thrownLiterals(&d, wide, d.below(7), 1+d.below(3))
		if d.below(2) == 0 {
			decls = manyDecls(3+d.below(5), int64(1+d.below(3)))
			list = thrownRowsOfParts(&d, decls, 2+d.below(20), 2)
		}
		s, u := thrownSides(&d, decls, 3)
		if checkImplied(t, decls, list, s, u) {
			told[0]++
		} else {
			told[1]++
		}
	}
	if told[0] < 200 || told[1] < 100 {
		t.Errorf("too seldom: %v", told)
	}
}

// The promise: what is the same, or forced, is so by all values by which the
// equalities hold, and what is not, is not.
func TestImpliedByAllValues(t *testing.T) {
	d := dice{state: 152}
	told := make(map[string]int)
	narrowLists(&d, 250, func(decls []impl.Decl, list []impl.Literal) {
		for i := range list {
			list[i].Equal = list[i].Equal || d.below(3) == 0
		}
		if len(decls) > 0 {
			checkImpliedValues(t, &d, decls, list, told)
		}
	})
	for _, key := range []string{"clash", "same", "not the same", "forced", "not forced", "the same variables", "left out"} {
		if told[key] < 60 {
			t.Errorf("%s is too seldom: %v", key, told)
		}
	}
}

func checkImpliedValues(t *testing.T, d *dice, decls []impl.Decl, list []impl.Literal, told map[string]int) {
	t.Helper()
	all := valuesOfAll(decls, equalitiesOf(list, nil))
	s, u := thrownSides(d, decls, 2)
	if l := list[d.below(len(list))]; d.below(3) == 0 {
		s, u = l.T, l.S
	}
	if len(all) == 0 {
		wantCode(t, "no values", decls, list, s, u, impl.ImClash)
		told["clash"]++
		return
	}
	unlike := slices.ContainsFunc(all, func(rows []string) bool {
		return lastOf(rowsByTable(rows, s)) != lastOf(rowsByTable(rows, u))
	})
	if is, code := impl.Same(decls, list, s, u); is == unlike || code != impl.ImOk {
		t.Fatalf("%v: %v and %v: %v, %d", list, s, u, is, code)
	}
	told[map[bool]string{true: "not the same", false: "same"}[unlike]]++
	mask, value, code := impl.Forced(decls, list, s)
	want := forcedByRows(all, s)
	if forcedText(mask, value) != want || code != impl.ImOk {
		t.Fatalf("%v forces %s of %v, %d, want %s", list, forcedText(mask, value), s, code, want)
	}
	told["not forced"] += strings.Count(want, ".")
	told["forced"] += len(want) - strings.Count(want, ".")
	sets, code := impl.SameVars(decls, list)
	if want := sameVarsByRows(decls, all); !sameLists(sets, want) || code != impl.ImOk {
		t.Fatalf("%v: the same are %v, %d, want %v", list, sets, code, want)
	}
	told["the same variables"] += len(sets)
	ids, code := impl.Tied(decls, list, s)
	if code != impl.ImOk || !slices.IsSorted(ids) {
		t.Fatalf("%v: %v is tied by %v, %d", list, s, ids, code)
	}
	checkTies(t, decls, list, s, ids, want)
	told["left out"] += len(equalitiesOf(list, nil)) - len(ids)
}

// checkTies: what is told forces as much as all, and without any one of it less.
func checkTies(t *testing.T, decls []impl.Decl, list []impl.Literal, s impl.Term, ids []int64, want string) {
	t.Helper()
	ties := equalitiesOf(list, append([]int64{0}, ids...))
	if got := forcedByRows(valuesOfAll(decls, ties), s); got != want || len(ties) != len(ids) {
		t.Fatalf("%v: %v forces %s of %v, and all %s", list, ids, got, s, want)
	}
	for i := range ties {
		if got := forcedByRows(valuesOfAll(decls, slices.Delete(slices.Clone(ties), i, i+1)), s); got == want {
			t.Fatalf("%v: %v has one too many for %v", list, ids, s)
		}
	}
}

func forcedByRows(all [][]string, x impl.Term) string {
	out := []byte(lastOf(rowsByTable(all[0], x)))
	for _, rows := range all[1:] {
		for i, bit := range []byte(lastOf(rowsByTable(rows, x))) {
			if out[i] != bit {
				out[i] = '.'
			}
		}
	}
	return string(out)
}

func sameVarsByRows(decls []impl.Decl, all [][]string) [][]int64 {
	w := newWeb(int64(len(decls)))
	for a := range decls {
		for b := range a {
			if !slices.ContainsFunc(all, func(rows []string) bool { return rows[a] != rows[b] }) {
				w.join(link(int64(a), int64(b), 1))
			}
		}
	}
	return w.groups()
}

// Equalities with a clash tell nothing, whatever is asked about.
func TestImpliedOfClashes(t *testing.T) {
	decls := fourAndOne()
	for _, texts := range [][]string{texts("a = #b10", "a = #b11"), texts("#b1 = #b0"), texts("e = (left 1 e)", "e = #b0010"), texts("a = b", "c = d", "b = c", "a = #b01", "d = #b11"), texts("a ! b", "a = #b10", "a ! c", "b = #b11", "b = a")} {
		list := readLiterals(t, decls, texts...)
		for _, text := range []string{"a", "#b10", "e", "(cat c d)"} {
			x := readTerm(t, decls, text)
			wantCode(t, text, decls, list, x, x, impl.ImClash)
		}
		// what is not right is told ahead of it
		if is, code := impl.Same(decls, list, readTerm(t, decls, "a"), readTerm(t, decls, "e")); is || code != impl.ImBad {
			t.Errorf("%q: %v, %d", texts, is, code)
		}
		wantCode(t, "no term", decls, list, impl.Term{}, impl.Term{}, impl.ImBad)
		wantCode(t, "a wrong literal", decls, append(list, literal(1, true, readTerm(t, decls, "a"), readTerm(t, decls, "a"))), readTerm(t, decls, "a"), readTerm(t, decls, "a"), impl.ImBad)
	}
	// unlike constants that inequalities would bring together are no clash
	list := readLiterals(t, decls, "a = #b10", "a ! #b10", "b ! b")
	if is, code := impl.Same(decls, list, term(variable(0)), term(constant("10"))); !is || code != impl.ImOk {
		t.Error(is, code)
	}
	checkImplied(t, decls, list, term(variable(0)), term(variable(1)))
}

func TestImpliedRefuse(t *testing.T) {
	decls := someDecls()
	a, b := term(variable(0)), term(variable(1))
	for what, list := range wrongLists() {
		wantCode(t, what, decls, list, a, a, impl.ImBad)
	}
	for _, wrong := range wrongDecls() {
		x := term(constant("1"))
		wantCode(t, "wrong decls", wrong, nil, x, x, impl.ImBad)
		wantCode(t, "wrong decls", wrong, nil, a, a, impl.ImBad)
	}
	sixty := wrongLists()["61 literals"][:60]
	if mask, _, code := impl.Forced(decls, sixty, a); code != impl.ImOk || mask.Width != 4 {
		t.Errorf("60 literals: %v, %d", mask, code)
	}
	// terms that are not right, in either place
	long := term(variable(2), one(impl.TmRep, 2001, 0))
	wrong := append(wrongTerms(term(variable(0), constant("01"), cat(0, 1))), impl.Term{}, long, term(variable(2), one(impl.TmRep, 2001, 0), part(3, 0, 1)), term(variable(math.MaxInt64)), term(variable(math.MinInt64)), term(variable(6)), term(variable(-1)))
	for i, x := range wrong {
		if widthsByTable(decls, x) != nil && formByTable(decls, x) != nil {
			continue
		}
		what := fmt.Sprint("the wrong term ", i)
		for _, pair := range [][2]impl.Term{{x, a}, {a, x}, {x, x}} {
			if is, code := impl.Same(decls, nil, pair[0], pair[1]); is || code != impl.ImBad {
				t.Fatalf("%s: %v, %d", what, is, code)
			}
		}
		if mask, value, code := impl.Forced(decls, nil, x); code != impl.ImBad || mask.Width != 0 || value.Width != 0 {
			t.Fatalf("%s: %v, %v, %d", what, mask, value, code)
		}
		if ids, code := impl.Tied(decls, nil, x); code != impl.ImBad || len(ids) != 0 {
			t.Fatalf("%s: %v, %d", what, ids, code)
		}
	}
	for _, pair := range [][2]impl.Term{{a, b}, {b, a}, {a, term(constant("10101"))}, {term(constant("101")), a}} {
		if is, code := impl.Same(decls, nil, pair[0], pair[1]); is || code != impl.ImBad {
			t.Errorf("unlike widths: %v, %d", is, code)
		}
	}
}

// All bits that there can be, at both ends of the last variable, and of words.
func TestImpliedOfAllBits(t *testing.T) {
	decls := []impl.Decl{{Name: "a", Width: 4096}, {Name: "b", Width: 4096}, {Name: "c", Width: 4096}, {Name: "d", Width: 4096}, {Name: "e", Width: 3616}}
	list := readLiterals(t, decls, "(part 3615 3615 e) = #b1", "(part 0 0 e) = #b0", "(part 0 0 a) = (part 3615 3615 e)", "(part 4095 4095 d) = (part 0 0 e)", "b = (left 64 c)", "c ! a", "(part 64 63 e) = #b10")
	for _, c := range []struct{ text, want string }{{"e", "1" + strings.Repeat(".", 3615-65) + "10" + strings.Repeat(".", 62) + "0"}, {"a", strings.Repeat(".", 4095) + "1"}, {"d", "0" + strings.Repeat(".", 4095)}, {"b", strings.Repeat(".", 4096)}} {
		mask, value, code := impl.Forced(decls, list, readTerm(t, decls, c.text))
		if code != impl.ImOk || forcedText(mask, value) != c.want {
			t.Errorf("%s: %d, %s", c.text, code, short(forcedText(mask, value)))
		}
	}
	if is, code := impl.Same(decls, list, readTerm(t, decls, "(right 64 b)"), readTerm(t, decls, "c")); !is || code != impl.ImOk {
		t.Error(is, code)
	}
	if is, code := impl.Same(decls, list, readTerm(t, decls, "(right 63 b)"), readTerm(t, decls, "c")); is || code != impl.ImOk {
		t.Error(is, code)
	}
	if sets, code := impl.SameVars(decls, list); len(sets) != 0 || code != impl.ImOk {
		t.Error(sets, code)
	}
	if ids, code := impl.Tied(decls, list, readTerm(t, decls, "(cat (part 0 0 a) (part 64 64 e))")); fmt.Sprint(ids) != "[1 3 7]" || code != impl.ImOk {
		t.Error(ids, code)
	}
	many := manyDecls(60, 333)
	last := readLiterals(t, many, "v59 = v0", "v30 = (left 1 v30)")
	if sets, code := impl.SameVars(many, last); fmt.Sprint(sets) != "[[0 59]]" || code != impl.ImOk {
		t.Error(sets, code)
	}
}

func TestImpliedKeep(t *testing.T) {
	d := dice{state: 153}
	wide := []impl.Decl{{Name: "a", Width: 9}, {Name: "b", Width: 6}, {Name: "c", Width: 6}, {Name: "d", Width: 70}}
	for range 200 {
		decls, list := wide, thrownLiterals(&d, wide, 1+d.below(4), 4)
		if d.below(2) == 0 {
			decls = manyDecls(4, int64(1+d.below(70)))
			list = thrownRowsOfParts(&d, decls, 2+d.below(9), 2)
		}
		s, u := thrownSides(&d, decls, 3)
		keeps(t, impl.Same, decls, list, s, u)
		keeps(t, impl.Forced, decls, list, s)
		keeps(t, impl.SameVars, decls, list)
		keeps(t, impl.Tied, decls, list, s)
	}
	decls := manyDecls(6, 64)
	list := readLiterals(t, decls, "v0 = #x0123456789abcdef", "v3 = v4", "v5 = v1", "v1 = v2")
	keeps(t, impl.Forced, decls, list, term(variable(0)))
	keeps(t, impl.Forced, decls, list, term(constant(strings.Repeat("1", 64))))
	keeps(t, impl.SameVars, decls, list)
	keeps(t, impl.Tied, decls, list, term(variable(0)))
}
