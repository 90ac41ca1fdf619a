package tests

import (
	"fmt"
	"math"
	"runtime"
	"slices"
	"strings"
	"testing"

	"loop.example/g00081/impl"
)

// partsByPicture is asked of right literals: any two that share a variable are
// joined in a web, pair by pair.
func partsByPicture(list []impl.Literal) [][]impl.Literal {
	w := newWeb(int64(len(list)))
	for i := range list {
		for j := range i {
			if slices.ContainsFunc(varsByWords(list[i:i+1]), func(v int64) bool { return slices.Contains(varsByWords(list[j:j+1]), v) }) {
				w.join(link(int64(i), int64(j), 0))
			}
		}
	}
	var parts [][]impl.Literal
	for i := range int64(len(list)) {
		var part []impl.Literal
		for j, l := range list {
			if w.joined(i, int64(j)) {
				part = append(part, l)
			}
		}
		if w.least(i) == i {
			parts = append(parts, part)
		}
	}
	return parts
}

func varsByWords(list []impl.Literal) []int64 {
	var vars []int64
	for v := range int64(60) {
		stands := func(l impl.Literal) bool {
			return slices.Contains(varsByTable(l.S), v) || slices.Contains(varsByTable(l.T), v)
		}
		if slices.ContainsFunc(list, stands) {
			vars = append(vars, v)
		}
	}
	return vars
}

// checkPartsByPicture is asked of right literals whose sides have forms.
func checkPartsByPicture(decls []impl.Decl, list []impl.Literal, most int64) impl.Result {
	rows, visits := zeroRows(decls), int64(0)
	for _, part := range partsByPicture(list) {
		r, _ := checkByPicture(decls, part, most)
		if r.Code != impl.CkSat {
			return r
		}
		visits += r.Visits
		for _, v := range varsByWords(part) {
			rows[v] = rowOfBits(r.Values[v])
		}
	}
	return impl.Result{Code: impl.CkSat, Visits: visits, Values: valuesOfRows(rows)}
}

func checkParts(t *testing.T, decls []impl.Decl, list []impl.Literal) [][]int64 {
	t.Helper()
	var want [][]int64
	for _, part := range partsByPicture(list) {
		want = append(want, idsOf(part))
	}
	got, ok := impl.Parts(decls, list)
	if !ok || !sameLists(got, want) {
		t.Fatalf("%v: %v, %v, want %v", list, got, ok, want)
	}
	return got
}

func checkTouching(t *testing.T, decls []impl.Decl, list []impl.Literal, ids []int64) []int64 {
	t.Helper()
	some := slices.DeleteFunc(slices.Clone(list), func(l impl.Literal) bool { return !slices.Contains(ids, l.Id) })
	got, ok := impl.Touching(decls, list, ids)
	if want := varsByWords(some); !ok || !slices.Equal(got, want) {
		t.Fatalf("%v of %v: %v, %v, want %v", ids, list, got, ok, want)
	}
	return got
}

func checkOfParts(t *testing.T, decls []impl.Decl, list []impl.Literal, most int64) impl.Result {
	t.Helper()
	got, want := impl.CheckParts(decls, list, most), checkPartsByPicture(decls, list, most)
	if !sameResult(got, want) {
		t.Fatalf("%v with %d: %s, want %s", list, most, resultText(got), resultText(want))
	}
	return got
}

func TestPartsByHand(t *testing.T) {
	decls := fourAndOne()
	for _, c := range []struct {
		texts []string
		want  string
	}{
		{nil, "[]"}, {texts("a = b"), "[[1]]"}, {texts("a ! a"), "[[1]]"},
		// without variables
		{texts("#b1 = #b1"), "[[1]]"}, {texts("#b1 = #b1", "#b1 = #b1", "#b0 ! #b1"), "[[1] [2] [3]]"}, {texts("a = #b01", "#b01 = #b01", "a ! #b10", "#b01 ! #b10"), "[[1 3] [2] [4]]"},
		// with a variable in both, on any side, and with none
		{texts("a = b", "c = d"), "[[1] [2]]"}, {texts("a = b", "b = c"), "[[1 2]]"}, {texts("a = b", "c ! a"), "[[1 2]]"}, {texts("a ! b", "a = b"), "[[1 2]]"}, {texts("b = a", "d = c", "a ! #b00", "#b10 ! d"), "[[1 3] [2 4]]"}, {texts("a = #b00", "b = #b00", "c = #b00", "d = #b00", "e = #x0"), "[[1] [2] [3] [4] [5]]"},
		// by way of others, which come behind them or lie between
		{texts("a = #b00", "b = #b00", "a ! b"), "[[1 2 3]]"}, {texts("a = b", "c = d", "b = c"), "[[1 2 3]]"}, {texts("a = #b00", "d = #b11", "b = a", "c = b", "c ! d"), "[[1 2 3 4 5]]"}, {texts("a = #b00", "c = #b10", "b = a", "d = c", "e = #x0"), "[[1 3] [2 4] [5]]"}, {texts("e = (cat a b)", "c = #b01", "(part 1 0 e) = d"), "[[1 3] [2]]"}, {texts("a = b", "c = d", "e = #x3", "(cat b c) ! e"), "[[1 2 3 4]]"},
		// a variable stands in a term whose bits it does not give
		{texts("(part 1 0 (cat a b)) = #b00", "a = c", "b = d"), "[[1 2 3]]"}, {texts("(part 0 0 (cat a #b1)) = #b1", "a ! #b00"), "[[1 2]]"},
	} {
		list := readLiterals(t, decls, c.texts...)
		if got := fmt.Sprint(checkParts(t, decls, list)); got != c.want {
			t.Errorf("%q: %s, want %s", c.texts, got, c.want)
		}
	}
	// Ids as they are told
	list := readLiterals(t, decls, "a = b", "c = d", "b = a", "#b1 = #b1")
	for i, id := range at(2, 7, 999999, 1000000) {
		list[i].Id = id
	}
	if got := fmt.Sprint(checkParts(t, decls, list)); got != "[[2 999999] [7] [1000000]]" {
		t.Error(got)
	}
	if got, ok := impl.Parts(nil, nil); !ok || len(got) != 0 {
		t.Errorf("no variables: %v, %v", got, ok)
	}
}

func TestPartsOfManyLiterals(t *testing.T) {
	decls := manyDecls(60, 2)
	apart, chain, last := texts(), texts(), texts()
	for i := range 60 {
		apart = append(apart, fmt.Sprintf("v%d ! #b00", i))
		chain = append(chain, fmt.Sprintf("v%d = v%d", (i*7)%60, ((i+1)*7)%60))
		last = append(last, fmt.Sprintf("v%d = v%d", i%30, 59-i%30))
	}
	for want, some := range map[int][]string{60: apart, 1: chain, 30: last} {
		list := readLiterals(t, decls, some...)
		if got := checkParts(t, decls, list); len(got) != want || len(slices.Concat(got...)) != 60 {
			t.Errorf("%d parts, want %d", len(got), want)
		}
		if got := checkTouching(t, decls, list, idsOf(list)); len(got) != 60 {
			t.Errorf("%d variables", len(got))
		}
		r := impl.CheckParts(decls, list, 1)
		if r.Code != impl.CkSat || impl.FirstFails(decls, r.Values, list) != 0 || r.Visits != int64(want/60*60) {
			t.Errorf("%d parts: %s", want, short(resultText(r)))
		}
	}
}

func TestTouchingByHand(t *testing.T) {
	decls := fourAndOne()
	list := readLiterals(t, decls, "a = b", "#b1 = #b1", "e ! (cat d b)", "(part 1 0 (cat a c)) = #b00", "d ! #b11")
	for _, c := range []struct {
		ids  []int64
		want []int64
	}{
		{nil, nil}, {at(), nil}, {at(1), at(0, 1)}, {at(2), nil}, {at(3), at(1, 3, 4)}, {at(4), at(0, 2)}, {at(5), at(3)}, {at(1, 2), at(0, 1)}, {at(3, 5), at(1, 3, 4)}, {at(2, 4, 5), at(0, 2, 3)}, {at(1, 2, 3, 4, 5), at(0, 1, 2, 3, 4)},
	} {
		if got := checkTouching(t, decls, list, c.ids); !slices.Equal(got, c.want) {
			t.Errorf("%v: %v, want %v", c.ids, got, c.want)
		}
	}
	list[4].Id, list[3].Id = 1000000, 77
	if got := checkTouching(t, decls, list, at(77, 1000000)); !slices.Equal(got, at(0, 2, 3)) {
		t.Error(got)
	}
	for _, ids := range [][]int64{at(0), at(-1), at(4), at(5), at(78), at(999999), at(1000001), at(math.MinInt64), at(math.MaxInt64), at(-1, 1), at(1, 2, 3, 4), at(1, 1), at(1, 2, 2, 3), at(2, 1), at(1, 3, 2), at(77, 3), at(1, 2, 3, 77, 1000000, 1000000), at(1, 2, 3, 77, 1000000, 1000001), at(0, 1, 2, 3, 77, 1000000)} {
		if got, ok := impl.Touching(decls, list, ids); ok || len(got) != 0 {
			t.Errorf("%v: %v, %v", ids, got, ok)
		}
	}
	for _, decls := range [][]impl.Decl{nil, decls} {
		if got, ok := impl.Touching(decls, nil, nil); !ok || len(got) != 0 {
			t.Errorf("no literals: %v, %v", got, ok)
		}
		if got, ok := impl.Touching(decls, nil, at(1)); ok || len(got) != 0 {
			t.Errorf("no literals, and an Id: %v, %v", got, ok)
		}
	}
}

// thrownApart are literals of which many have nothing in common.
func thrownApart(d *dice, count int, call func(decls []impl.Decl, list []impl.Literal)) {
	wide := []impl.Decl{{Name: "a", Width: 7}, {Name: "b", Width: 5}, {Name: "c", Width: 4}, {Name: "d", Width: 1}, {Name: "e", Width: 66}}
	for range count {
		decls, list := wide, thrownLiterals(d, wide, d.below(7), 1+d.below(2))
		if d.below(3) > 0 {
			decls = manyDecls(3+d.below(8), int64(1+d.below(2)))
			list = thrownRowsOfParts(d, decls, d.below(12), 1+d.below(2))
		}
		call(decls, list)
	}
}

func TestPartsOfThrownLiterals(t *testing.T) {
	d := dice{state: 201}
	told := make(map[string]int)
	thrownApart(&d, 1500, func(decls []impl.Decl, list []impl.Literal) {
		parts := checkParts(t, decls, list)
		for i, ids := range parts {
			vars := checkTouching(t, decls, list, ids)
			if len(vars) == 0 && len(ids) > 1 {
				t.Fatalf("%v of %v has no variables", ids, list)
			}
			for _, others := range parts[:i] {
				other := checkTouching(t, decls, list, others)
				if slices.ContainsFunc(vars, func(v int64) bool { return slices.Contains(other, v) }) {
					t.Fatalf("%v and %v of %v have a variable in common", others, ids, list)
				}
			}
			told[fmt.Sprint(len(ids) > 1, len(vars) > 0)]++
		}
		some := slices.DeleteFunc(idsOf(list), func(int64) bool { return d.below(2) == 0 })
		checkTouching(t, decls, list, some)
		told[fmt.Sprint(min(3, len(parts)))]++
	})
	for _, key := range []string{"0", "1", "2", "3", "false false", "false true", "true true"} {
		if told[key] < 50 {
			t.Errorf("%s is too seldom: %v", key, told)
		}
	}
}

func TestCheckPartsByHand(t *testing.T) {
	decls := oneAndTwo()
	none, three := texts("c ! #b0", "c ! #b1"), texts("z ! #b1", "(cat x z) ! #b000")
	for _, c := range []struct {
		texts []string
		most  int64
		want  string
		whole string
	}{
		{nil, 0, "sat 0 0 00 00 0", "sat 0 0 00 00 0"}, {texts("#b1 = #b1", "#b0 ! #b1"), 0, "sat 0 0 00 00 0", "sat 0 0 00 00 0"}, {texts("x = #b10"), 0, "sat 0 0 10 00 0", "sat 0 0 10 00 0"},
		// each with most: together they may have more
		{texts("x ! y", "c ! z"), 1, "sat 2 0 00 01 1", "many 1"}, {texts("x ! y", "c ! z"), 2, "sat 2 0 00 01 1", "sat 2 0 00 01 1"}, {texts("x ! y", "c ! z"), 0, "many 0", "many 0"}, {texts("c ! #b0", "x ! #b00", "y ! #b00", "z ! #b0"), 1, "sat 4 1 01 01 1", "many 1"},
		// parts whose literals stand between one another
		{texts("c ! #b0", "x ! #b00", "c ! z", "y ! x"), 4, "sat 5 1 01 00 0", "many 4"}, {texts("c ! #b0", "x ! #b00", "c ! z", "y ! x"), 3, "sat 5 1 01 00 0", "many 3"}, {texts("c ! #b0", "x ! #b00", "c ! z", "y ! x"), 2, "many 2", "many 2"}, {texts("y ! x", "x ! #b00"), 2, "sat 2 0 01 00 0", "sat 2 0 01 00 0"},
		// a later one has no values
		{slices.Concat(texts("x = y"), none), 3, "unsat 3", "unsat 3"}, {slices.Concat(texts("x ! y"), none), 3, "unsat 3", "many 3"}, {slices.Concat(texts("x ! y"), none), 4, "unsat 3", "unsat 4"}, {texts("x ! y", "#b1 = #b0"), 1, "unsat 0", "unsat 0"}, {texts("x ! y", "z ! z"), 1, "unsat 0", "unsat 0"}, {texts("x ! y", "z ! z"), 0, "many 0", "unsat 0"},
		// an earlier one has none
		{slices.Concat(none, texts("x ! y")), 3, "unsat 3", "many 3"}, {slices.Concat(none, texts("x ! y")), 2, "many 2", "many 2"}, {texts("#b1 = #b0", "x ! y"), 0, "unsat 0", "unsat 0"}, {texts("z ! z", "x ! y"), 0, "unsat 0", "unsat 0"}, {slices.Concat(none, texts("#b1 = #b0")), 3, "unsat 3", "unsat 0"}, {slices.Concat(texts("#b1 = #b0"), none), 0, "unsat 0", "unsat 0"},
		// a later one, an earlier one runs out of visits
		{slices.Concat(texts("y ! #b00"), three), 2, "many 2", "many 2"}, {slices.Concat(texts("y ! #b00"), three), 3, "sat 4 0 01 01 0", "many 3"}, {slices.Concat(three, texts("y ! #b00")), 2, "many 2", "many 2"}, {slices.Concat(three, texts("y ! #b00")), 3, "sat 4 0 01 01 0", "many 3"}, {slices.Concat(three, texts("y ! y")), 2, "many 2", "unsat 0"}, {slices.Concat(texts("y ! y"), three), 2, "unsat 0", "unsat 0"}, {slices.Concat(three, none), 2, "many 2", "many 2"}, {slices.Concat(none, three), 3, "unsat 3", "many 3"},
	} {
		list := readLiterals(t, decls, c.texts...)
		if got := resultText(checkOfParts(t, decls, list, c.most)); got != c.want {
			t.Errorf("%q with %d: %s, want %s", c.texts, c.most, got, c.want)
		}
		if got := resultText(impl.Check(decls, list, c.most)); got != c.whole {
			t.Errorf("%q with %d as a whole: %s, want %s", c.texts, c.most, got, c.whole)
		}
	}
	if got := impl.CheckParts(nil, nil, 0); resultText(got) != "sat 0" {
		t.Errorf("no variables: %s", resultText(got))
	}
	if got := impl.CheckParts(nil, readLiterals(t, nil, "#b1 = #b1", "#b1 = #b0"), 0); resultText(got) != "unsat 0" {
		t.Errorf("no variables: %s", resultText(got))
	}
}

func TestCheckPartsOfManyClasses(t *testing.T) {
	decls := []impl.Decl{{Name: "v", Width: 120}, {Name: "w", Width: 120}, {Name: "u", Width: 199}, {Name: "a", Width: 2}, {Name: "b", Width: 1}}
	v, w, u := "v ! (left 1 v)", "w ! (left 1 w)", "u ! (left 1 u)"
	for _, c := range []struct {
		texts []string
		most  int64
		want  string
		whole string
	}{
		// parts have fewer classes than the whole, but each has those of all variables
		{texts(v), 1, "sat 1", "sat 1"}, {texts(v, w), 1, "sat 2", "large 0"}, {texts(v, w), 0, "many 0", "large 0"}, {texts(u), 1, "large 0", "large 0"},
		// a later one is too large, an earlier one
		{texts("a ! #b00", u), 1, "large 0", "large 0"}, {texts(u, "a ! #b00"), 1, "large 0", "large 0"}, {texts(v, u), 1, "large 0", "large 0"}, {texts("a ! #b00", u), 0, "many 0", "large 0"}, {texts(u, "a ! #b00"), 0, "large 0", "large 0"}, {texts(u, "a ! a"), 0, "large 0", "unsat 0"}, {texts("a ! a", u), 0, "unsat 0", "unsat 0"}, {texts("b ! #b0", "b ! #b1", u), 3, "unsat 3", "large 0"}, {texts("b ! #b0", "b ! #b1", u), 2, "many 2", "large 0"}, {texts("#b1 = #b1", u, "#b1 = #b0"), 2, "large 0", "unsat 0"},
	} {
		list := readLiterals(t, decls, c.texts...)
		got := checkOfParts(t, decls, list, c.most)
		if text := fmt.Sprint(codeNames[got.Code], " ", got.Visits); text != c.want || (len(got.Values) == 5) != (got.Code == impl.CkSat) || got.Code == impl.CkSat && !holdByRows(list, rowsOfValues(got.Values)) {
			t.Errorf("%q with %d: %s, want %s", c.texts, c.most, short(resultText(got)), c.want)
		}
		whole := impl.Check(decls, list, c.most)
		if text := fmt.Sprint(codeNames[whole.Code], " ", whole.Visits); text != c.whole {
			t.Errorf("%q with %d as a whole: %s, want %s", c.texts, c.most, text, c.whole)
		}
	}
}

func TestCheckPartsOfThrownLiterals(t *testing.T) {
	d := dice{state: 202}
	told := make(map[string]int)
	thrownApart(&d, 1500, func(decls []impl.Decl, list []impl.Literal) {
		if d.below(3) == 0 {
			decls = manyDecls(10, 1)
			list = thrownRowsOfParts(&d, decls, 9, 1)
			for i := range list {
				list[i].Equal = false
			}
			list = slices.DeleteFunc(list, func(l impl.Literal) bool { return sameTerm(l.S, l.T) })
		}
		most := int64(d.below(2)*d.below(90) + d.below(6))
		got := checkOfParts(t, decls, list, most)
		whole := impl.Check(decls, list, most)
		told[codeNames[got.Code]]++
		told[codeNames[got.Code]+" and "+codeNames[whole.Code]]++
		if got.Code == impl.CkSat && got.Visits > most {
			told["more than most"]++
		}
	})
	for _, key := range []string{"sat", "unsat", "many", "sat and many", "unsat and many", "many and unsat", "more than most"} {
		if told[key] < 20 {
			t.Errorf("%s is too seldom: %v", key, told)
		}
	}
}

// The promise: parts are settled as the whole is, and as all values tell.
func TestPartsByAllValues(t *testing.T) {
	d := dice{state: 203}
	told := make(map[string]int)
	check := func(decls []impl.Decl, list []impl.Literal) {
		got, whole := impl.CheckParts(decls, list, manyVisits), impl.Check(decls, list, manyVisits)
		if want := map[bool]int64{true: impl.CkSat, false: impl.CkUnsat}[len(valuesOfAll(decls, list)) > 0]; got.Code != want || whole.Code != want {
			t.Fatalf("%v: %s, as a whole %s, want %s", list, resultText(got), resultText(whole), codeNames[want])
		}
		if got.Code == impl.CkSat && (!impl.ValuesOk(decls, got.Values) || !holdByRows(list, rowsOfValues(got.Values)) || impl.FirstFails(decls, got.Values, list) != 0) {
			t.Fatalf("%v does not hold: %s", list, resultText(got))
		}
		if got.Code == impl.CkUnsat && len(got.Values) != 0 {
			t.Fatalf("%v: %s", list, resultText(got))
		}
		told[fmt.Sprint(codeNames[got.Code], min(3, len(checkParts(t, decls, list))))]++
	}
	narrowLists(&d, 100, check)
	for range 600 {
		decls := manyDecls(8, 1)
		check(decls, thrownRowsOfParts(&d, decls, 1+d.below(6), 1))
	}
	for _, key := range []string{"sat1", "sat2", "sat3", "unsat1", "unsat2", "unsat3"} {
		if told[key] < 20 {
			t.Errorf("%s is too seldom: %v", key, told)
		}
	}
}

// Visits that just suffice for each part, and that are just too few for one.
func TestCheckPartsByAllMosts(t *testing.T) {
	decls := []impl.Decl{{Name: "a", Width: 1}, {Name: "b", Width: 1}, {Name: "c", Width: 2}, {Name: "d", Width: 1}, {Name: "e", Width: 1}, {Name: "f", Width: 1}}
	list := readLiterals(t, decls, "a ! b", "c ! #b00", "a ! #b0", "d ! e", "e ! f", "e ! #b0", "f ! #b0", "d ! #b1")
	for _, most := range []int64{0, 1, 2, 3, 4, 5, 6, 7, 8, 9, 10, 11, 12, 19999, manyVisits} {
		checkOfParts(t, decls, list, most)
	}
	parts := checkParts(t, decls, list)
	greatest, sum := int64(0), int64(0)
	for _, part := range partsByPicture(list[:5]) {
		r := impl.Check(decls, part, manyVisits)
		greatest, sum = max(greatest, r.Visits), sum+r.Visits
	}
	if got := impl.CheckParts(decls, list[:5], greatest); len(parts) != 3 || got.Code != impl.CkSat || got.Visits != sum || sum <= greatest {
		t.Errorf("%v with %d: %s", parts, greatest, resultText(got))
	}
	if got := impl.CheckParts(decls, list[:5], greatest-1); resultText(got) != fmt.Sprint("many ", greatest-1) {
		t.Errorf("with %d: %s", greatest-1, resultText(got))
	}
	for _, list := range [][]impl.Literal{nil, list, list[:5], readLiterals(t, decls, "a ! a")} {
		for _, most := range []int64{-1, 20001, math.MinInt64, math.MaxInt64} {
			wantBad(t, fmt.Sprint("with ", most), impl.CheckParts(decls, list, most))
		}
	}
}

func TestPartsRefuse(t *testing.T) {
	decls := someDecls()
	refused := func(what string, decls []impl.Decl, list []impl.Literal) {
		t.Helper()
		if got, ok := impl.Parts(decls, list); ok || len(got) != 0 {
			t.Errorf("%s: %v, %v", what, got, ok)
		}
		for _, ids := range [][]int64{nil, at(1), idsOf(list)} {
			if got, ok := impl.Touching(decls, list, ids); ok || len(got) != 0 {
				t.Errorf("%s: %v, %v", what, got, ok)
			}
		}
	}
	for what, list := range wrongLists() {
		for _, most := range []int64{0, manyVisits, -1} {
			wantBad(t, what, impl.CheckParts(decls, list, most))
		}
		if !strings.Contains(what, "long") {
			refused(what, decls, list)
			continue
		}
		// a side needs no flat form here
		checkParts(t, decls, list)
		checkTouching(t, decls, list, idsOf(list))
	}
	for _, wrong := range wrongDecls() {
		for _, list := range [][]impl.Literal{nil, {literal(1, true, term(constant("1")), term(constant("0")))}, {literal(1, true, term(variable(0)), term(variable(0)))}} {
			refused("wrong decls", wrong, list)
			wantBad(t, "wrong decls", impl.CheckParts(wrong, list, 10))
		}
	}
	// what is wrong in a part is told ahead of all that is told of others
	a, long := term(variable(0)), term(variable(2), one(impl.TmRep, 2001, 0))
	for what, some := range map[string][]impl.Literal{"a clash": {literal(1, true, term(constant("1")), term(constant("0")))}, "nothing parts it": {literal(1, false, a, a)}, "no visits": {literal(1, false, a, term(constant("0000")))}} {
		if got := impl.CheckParts(decls, some, 0); got.Code == impl.CkBad {
			t.Errorf("%s: %s", what, resultText(got))
		}
		wantBad(t, what, impl.CheckParts(decls, append(slices.Clone(some), literal(2, true, long, long)), 0))
		wantBad(t, what, impl.CheckParts(decls, append(slices.Clone(some), literal(2, true, a, term(variable(1)))), 0))
	}
	full := wrongLists()["61 literals"]
	refused("61 literals", decls, full)
	if got := checkParts(t, decls, full[:60]); len(got) != 1 || len(got[0]) != 60 {
		t.Errorf("60 literals: %v", got)
	}
	if got := impl.CheckParts(decls, full[:60], 0); got.Code != impl.CkSat {
		t.Errorf("60 literals: %s", resultText(got))
	}
}

func TestMergeByHand(t *testing.T) {
	decls := oneAndTwo()
	a, b := texts("0", "01", "10", "0"), texts("1", "11", "00", "1")
	for _, c := range []struct {
		vars []int64
		want []string
	}{
		{nil, a}, {at(), a}, {at(0), texts("1", "01", "10", "0")}, {at(3), texts("0", "01", "10", "1")}, {at(1, 2), texts("0", "11", "00", "0")}, {at(0, 2, 3), texts("1", "01", "00", "1")}, {at(0, 1, 2, 3), b},
	} {
		got, ok := impl.Merge(decls, valuesOfRows(a), valuesOfRows(b), c.vars)
		if !ok || !slices.Equal(rowsOfValues(got), c.want) {
			t.Errorf("%v: %q, %v, want %q", c.vars, rowsOfValues(got), ok, c.want)
		}
	}
	if got, ok := impl.Merge(nil, nil, nil, nil); !ok || len(got) != 0 {
		t.Errorf("no variables: %v, %v", got, ok)
	}
	for _, vars := range [][]int64{at(-1), at(4), at(math.MinInt64), at(math.MaxInt64), at(-1, 0), at(0, 4), at(0, 1, 2, 3, 4), at(1, 1), at(0, 1, 1, 2), at(1, 0), at(0, 2, 1), at(3, -1), at(0, 1, 2, 3, 3), at(0, 1, 2, 3, 0)} {
		if got, ok := impl.Merge(decls, valuesOfRows(a), valuesOfRows(b), vars); ok || len(got) != 0 {
			t.Errorf("%v: %v, %v", vars, got, ok)
		}
		if got, ok := impl.Merge(nil, nil, nil, vars); ok || len(got) != 0 {
			t.Errorf("no variables, and %v: %v, %v", vars, got, ok)
		}
	}
}

func TestMergeOfThrownValues(t *testing.T) {
	d := dice{state: 204}
	decls := someDecls()
	for range 500 {
		a, b := thrownRows(&d, decls), thrownRows(&d, decls)
		var vars []int64
		want := slices.Clone(a)
		for v := range decls {
			if d.below(2) == 0 {
				vars, want[v] = append(vars, int64(v)), b[v]
			}
		}
		got, ok := impl.Merge(decls, valuesOfRows(a), valuesOfRows(b), vars)
		if !ok || !impl.ValuesOk(decls, got) || !slices.Equal(rowsOfValues(got), want) {
			t.Fatalf("%q and %q by %v: %q, %v, want %q", a, b, vars, rowsOfValues(got), ok, want)
		}
	}
}

func TestMergeRefuses(t *testing.T) {
	decls := someDecls()
	rows := thrownRows(&dice{state: 205}, decls)
	refused := func(what string, decls []impl.Decl, wrong []impl.Bits) {
		t.Helper()
		for _, vars := range [][]int64{nil, at(0), at(0, 1, 2, 3, 4, 5)} {
			for _, c := range [][2][]impl.Bits{{wrong, valuesOfRows(rows)}, {valuesOfRows(rows), wrong}, {wrong, wrong}} {
				if got, ok := impl.Merge(decls, c[0], c[1], vars); ok || len(got) != 0 {
					t.Errorf("%s by %v: %v, %v", what, vars, got, ok)
				}
			}
		}
	}
	refused("too few", decls, valuesOfRows(rows[:5]))
	refused("none", decls, nil)
	refused("too many", decls, valuesOfRows(append(slices.Clone(rows), "0")))
	refused("some for no variables", nil, valuesOfRows(rows))
	for place := range decls {
		for _, b := range append(wrongBits(), bitsOfRow(rows[place]+"0")) {
			values := valuesOfRows(rows)
			values[place] = b
			refused(fmt.Sprint(place, b), decls, values)
		}
	}
	for _, wrong := range wrongDecls() {
		var values []impl.Bits
		for _, decl := range wrong {
			values = append(values, bitsOfRow(strings.Repeat("0", int(max(0, min(decl.Width, 5000))))))
		}
		if got, ok := impl.Merge(wrong, values, values, nil); ok || len(got) != 0 {
			t.Errorf("wrong decls: %v, %v", got, ok)
		}
	}
}

func TestPartsKeep(t *testing.T) {
	d := dice{state: 206}
	thrownApart(&d, 200, func(decls []impl.Decl, list []impl.Literal) {
		ids := slices.DeleteFunc(idsOf(list), func(int64) bool { return d.below(2) == 0 })
		keeps(t, impl.Parts, decls, list)
		keeps(t, impl.Touching, decls, list, ids)
		keeps(t, impl.CheckParts, decls, list, int64(d.below(30)))
		keeps(t, impl.Merge, decls, valuesOfRows(thrownRows(&d, decls)), valuesOfRows(thrownRows(&d, decls)), at(0, 2))
	})
	// words that stand as they are in an answer
	decls := manyDecls(3, 64)
	word := "#x0123456789abcdef"
	keeps(t, impl.CheckParts, decls, readLiterals(t, decls, "v0 = "+word, "v1 = "+word, "v2 ! "+word), int64(1))
}

// However its workers run, a call has the same answer, and none is left behind it.
func TestCheckPartsEndsItsWorkers(t *testing.T) {
	decls := manyDecls(60, 3)
	var some []string
	for i := range 9 {
		for j := range i {
			some = append(some, fmt.Sprintf("v%d ! v%d", i, j))
		}
	}
	for i := 10; i < 34; i++ {
		some = append(some, fmt.Sprintf("v%d ! #b000", i))
	}
	list := readLiterals(t, decls, some...)
	rest := list[36:]
	before := runtime.NumGoroutine()
	first := impl.CheckParts(decls, rest, 1)
	if first.Code != impl.CkSat || first.Visits != 24 {
		t.Errorf("%s", resultText(first))
	}
	for range 200 {
		if got := impl.CheckParts(decls, rest, 1); !sameResult(got, first) {
			t.Fatalf("%s, then %s", resultText(first), resultText(got))
		}
	}
	for range 20 {
		if got := impl.CheckParts(decls, list, 300); resultText(got) != "many 300" {
			t.Fatal(resultText(got))
		}
	}
	for tries := 0; runtime.NumGoroutine() > before; tries++ {
		if tries == 100000 {
			t.Fatalf("%d, then %d", before, runtime.NumGoroutine())
		}
		runtime.Gosched()
	}
}
