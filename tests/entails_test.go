package tests

import (
	"fmt"
	"math"
	"slices"
	"strings"
	"testing"

	"loop.example/g00081/impl"
)

// checkEntails is asked of right literals: the last one is asked about.
func checkEntails(t *testing.T, decls []impl.Decl, list []impl.Literal, most int64) (bool, int64) {
	t.Helper()
	last := len(list) - 1
	is, code := impl.Entails(decls, list[:last], list[last], most)
	all := slices.Clone(list)
	all[last].Id, all[last].Equal = 1000000, !all[last].Equal
	want, _ := checkByPicture(decls, all, most)
	if code != want.Code || is != (code == impl.CkUnsat) {
		t.Fatalf("%v with %d: %v, %s, want %s", list, most, is, codeNames[code], codeNames[want.Code])
	}
	return is, code
}

func TestEntailsByHand(t *testing.T) {
	decls := fourAndOne()
	for _, c := range []struct {
		want  string
		most  int64
		texts []string
	}{
		// the last one is asked about
		{"unsat", 0, texts("a = b", "a = b")}, {"unsat", 0, texts("a = b", "b = a")}, {"unsat", 0, texts("a = b", "b = c", "a = c")}, {"unsat", 0, texts("a = a")}, {"unsat", 0, texts("#b1 ! #b0")}, {"unsat", 0, texts("e = (cat a b)", "(part 3 3 e) = (part 1 1 a)")}, {"unsat", 0, texts("a = #b10", "a ! #b11")}, {"unsat", 0, texts("a = #b10", "(part 0 0 a) = #b0")}, {"unsat", 0, texts("a ! b", "a ! b")}, {"unsat", 0, texts("a ! b", "b ! a")}, {"unsat", 0, texts("a = b", "b ! c", "a ! c")}, {"unsat", 4, texts("(part 0 0 a) ! #b0", "(part 0 0 a) = #b1")},
		{"sat", 1, texts("a = b")}, {"sat", 0, texts("a ! b")}, {"sat", 1, texts("a = b", "a = c")}, {"sat", 1, texts("a = b", "a ! c")}, {"sat", 2, texts("a ! b", "b ! c", "a ! c")}, {"sat", 2, texts("a ! b", "a = c")}, {"sat", 0, texts("#b1 = #b0")}, {"sat", 0, texts("a = #b10", "a = #b11")},
		// nothing holds, and so all follows
		{"unsat", 0, texts("a ! a", "b = c")}, {"unsat", 0, texts("a ! a", "b ! c")}, {"unsat", 0, texts("a = #b01", "a = #b10", "b ! c")},
		{"many", 0, texts("a = b")}, {"many", 1, texts("a ! b", "a = c")}, {"many", 2, texts("(part 0 0 a) ! #b0", "(part 0 0 a) = #b1")}, {"many", 0, texts("a ! b", "b = #b00")}, {"many", 1, texts("a ! b", "b ! c", "a ! c")}, {"bad", -1, texts("a = b")}, {"bad", 20001, texts("a = b")}, {"bad", math.MinInt64, texts("a = a")}, {"bad", math.MaxInt64, texts("a = a")},
	} {
		list := readLiterals(t, decls, c.texts...)
		last := len(list) - 1
		is, code := impl.Entails(decls, list[:last], list[last], c.most)
		if codeNames[code] != c.want || is != (c.want == "unsat") {
			t.Errorf("%q with %d: %v, %s, want %s", c.texts, c.most, is, codeNames[code], c.want)
		}
		if c.want != "bad" {
			checkEntails(t, decls, list, c.most)
		}
	}
	large := manyDecls(1, 201)
	if is, code := impl.Entails(large, readLiterals(t, large, "v0 = v0"), readLiterals(t, large, "v0 = (left 1 v0)")[0], 10); is || code != impl.CkLarge {
		t.Error(is, codeNames[code])
	}
}

// The Id of what is asked about is not looked at; those of the list are.
func TestEntailsLooksAtIds(t *testing.T) {
	decls := fourAndOne()
	list := readLiterals(t, decls, "a = b", "b = c")
	asked := readLiterals(t, decls, "a = c")[0]
	for _, id := range []int64{0, 1, 2, 3, -1, 999999, 1000000, 1000001, math.MinInt64, math.MaxInt64} {
		asked.Id = id
		if is, code := impl.Entails(decls, list, asked, 10); !is || code != impl.CkUnsat {
			t.Errorf("the Id %d: %v, %s", id, is, codeNames[code])
		}
	}
	for _, c := range []struct {
		ids  [2]int64
		want int64
	}{
		{[2]int64{1, 999999}, impl.CkUnsat}, {[2]int64{999998, 999999}, impl.CkUnsat}, {[2]int64{1, 1000000}, impl.CkBad}, {[2]int64{1000000, 1}, impl.CkBad}, {[2]int64{1000000, 1000000}, impl.CkBad}, {[2]int64{999999, 1000001}, impl.CkBad}, {[2]int64{0, 1}, impl.CkBad}, {[2]int64{math.MinInt64, math.MaxInt64}, impl.CkBad}, {[2]int64{3, 3}, impl.CkBad}, {[2]int64{4, 3}, impl.CkBad},
	} {
		list[0].Id, list[1].Id = c.ids[0], c.ids[1]
		if is, code := impl.Entails(decls, list, asked, 10); is != (c.want == impl.CkUnsat) || code != c.want {
			t.Errorf("the Ids %v: %v, %s", c.ids, is, codeNames[code])
		}
		if got := impl.Another(decls, list, valuesOfRows(texts("00", "00", "00", "00", "0000")), 10); (got.Code == impl.CkBad) != (c.want == impl.CkBad) || got.Code == impl.CkBad && (got.Visits != 0 || len(got.Values) != 0) {
			t.Errorf("the Ids %v: %s", c.ids, resultText(got))
		}
	}
}

func TestEntailsRefuses(t *testing.T) {
	decls := someDecls()
	a := term(variable(0))
	same := literal(7, true, a, a)
	refused := func(what string, decls []impl.Decl, list []impl.Literal, l impl.Literal) {
		t.Helper()
		if is, code := impl.Entails(decls, list, l, 10); is || code != impl.CkBad {
			t.Fatalf("%s: %v, %s", what, is, codeNames[code])
		}
	}
	for what, list := range wrongLists() {
		refused(what, decls, list, same)
		if len(list) == 1 && !strings.HasPrefix(what, "the Id ") {
			refused(what+", asked about", decls, nil, list[0])
		}
	}
	for _, wrong := range wrongDecls() {
		refused("wrong decls", wrong, nil, literal(1, true, term(constant("1")), term(constant("1"))))
	}
	// with the one that is asked about there are at most 60
	full := wrongLists()["61 literals"]
	refused("60 literals", decls, full[:60], same)
	if is, code := impl.Entails(decls, full[:59], same, 10); !is || code != impl.CkUnsat {
		t.Errorf("59 literals: %v, %s", is, codeNames[code])
	}
	wantBad(t, "60 literals", impl.Another(decls, full[:60], valuesOfRows(zeroRows(decls)), 10))
	if got := impl.Another(decls, full[:59], valuesOfRows(zeroRows(decls)), 10); got.Code != impl.CkSat {
		t.Errorf("59 literals: %s", resultText(got))
	}
}

func zeroRows(decls []impl.Decl) []string {
	var rows []string
	for _, decl := range decls {
		rows = append(rows, strings.Repeat("0", int(decl.Width)))
	}
	return rows
}

// The promise: what is entailed holds by all values by which the list does,
// and what is told not to be does not hold by one of them.
func TestEntailsByAllValues(t *testing.T) {
	d := dice{state: 141}
	told := make(map[int64]int)
	narrowLists(&d, 250, func(decls []impl.Decl, list []impl.Literal) {
		if len(list) == 0 {
			return
		}
		last := len(list) - 1
		is, code := checkEntails(t, decls, list, manyVisits)
		told[code]++
		all := valuesOfAll(decls, list[:last])
		fails := slices.ContainsFunc(all, func(rows []string) bool { return !holdByRows(list[last:], rows) })
		if is == fails || code == impl.CkUnsat == fails {
			t.Fatalf("%v: %v, %s", list, is, codeNames[code])
		}
		checkEntails(t, decls, list, int64(d.below(9)))
	})
	if told[impl.CkSat] < 150 || told[impl.CkUnsat] < 150 {
		t.Errorf("too seldom: %v", told)
	}
}

// checkAnother is asked of right literals and of rows for decls.
func checkAnother(t *testing.T, decls []impl.Decl, list []impl.Literal, rows []string, most int64) impl.Result {
	t.Helper()
	got := impl.Another(decls, list, valuesOfRows(rows), most)
	want, _ := checkByPicture(decls, append(slices.Clone(list), togetherByHand(rows)), most)
	if !sameResult(got, want) {
		t.Fatalf("%v, not %v, with %d: %s, want %s", list, rows, most, resultText(got), resultText(want))
	}
	return got
}

func TestAnotherByHand(t *testing.T) {
	x, xy := manyDecls(1, 2), []impl.Decl{{Name: "v0", Width: 2}, {Name: "v1", Width: 1}}
	for _, c := range []struct {
		decls []impl.Decl
		texts []string
		rows  []string
		want  string
	}{
		// one variable
		{x, nil, texts("00"), "sat 1 01"}, {x, nil, texts("01"), "sat 1 00"}, {x, texts("v0 ! #b00"), texts("01"), "sat 2 10"}, {x, texts("v0 ! #b00", "v0 ! #b01"), texts("10"), "sat 3 11"}, {x, texts("v0 ! #b00", "v0 ! #b01", "v0 ! #b10"), texts("11"), "unsat 5"}, {manyDecls(1, 1), nil, texts("0"), "sat 1 1"}, {manyDecls(1, 1), texts("v0 ! #b1"), texts("0"), "unsat 3"},
		// a row that is the only one
		{x, texts("v0 = #b10"), texts("10"), "unsat 0"}, {xy, texts("v0 = #b10", "v1 = #b1"), texts("10", "1"), "unsat 0"}, {xy, texts("(cat v1 v0) = #b110"), texts("10", "1"), "unsat 0"}, {xy, texts("v1 = (part 0 0 v0)", "v0 = #b11"), texts("11", "1"), "unsat 0"},
		// a row that is none of them, and one for which there is no list
		{x, texts("v0 = #b10"), texts("11"), "sat 0 10"}, {xy, texts("v0 = #b10", "v1 = #b1"), texts("10", "0"), "sat 0 10 1"}, {x, texts("v0 ! v0"), texts("11"), "unsat 0"}, {x, texts("v0 = #b10", "v0 = #b11"), texts("11"), "unsat 0"},
		// the first variable is the highest, so that the last one is parted first
		{xy, nil, texts("00", "0"), "sat 1 00 1"}, {xy, nil, texts("11", "1"), "sat 1 00 0"}, {xy, texts("v1 = #b1"), texts("00", "1"), "sat 1 01 1"}, {xy, texts("v0 = #b01"), texts("01", "1"), "sat 1 01 0"}, {xy, texts("v1 ! #b1"), texts("00", "0"), "sat 3 01 0"},
	} {
		if got := checkAnother(t, c.decls, readLiterals(t, c.decls, c.texts...), c.rows, 10); resultText(got) != c.want {
			t.Errorf("%q, not %q: %s, want %s", c.texts, c.rows, resultText(got), c.want)
		}
	}
	for most, want := range map[int64]string{-1: "bad 0", 0: "many 0", 1: "many 1", 2: "many 2", 3: "sat 3 01 0", manyVisits: "sat 3 01 0", 20001: "bad 0", math.MinInt64: "bad 0", math.MaxInt64: "bad 0"} {
		if got := impl.Another(xy, readLiterals(t, xy, "v1 ! #b1"), valuesOfRows(texts("00", "0")), most); resultText(got) != want {
			t.Errorf("with %d: %s, want %s", most, resultText(got), want)
		}
	}
}

// The promise: other values are told while there are some, all different from those that were told.
func TestAnotherByAllValues(t *testing.T) {
	d := dice{state: 142}
	told := make(map[int64]int)
	narrowLists(&d, 150, func(decls []impl.Decl, list []impl.Literal) {
		if len(decls) == 0 {
			wantBad(t, "no variables", impl.Another(decls, list, nil, 10))
			return
		}
		all := valuesOfAll(decls, list)
		rows := thrownRows(&d, decls)
		if len(all) > 0 && d.below(3) > 0 {
			rows = all[d.below(len(all))]
		}
		got := checkAnother(t, decls, list, rows, manyVisits)
		told[got.Code]++
		others := slices.DeleteFunc(all, func(other []string) bool { return slices.Equal(other, rows) })
		if (got.Code == impl.CkSat) != (len(others) > 0) || (got.Code == impl.CkUnsat) != (len(others) == 0) {
			t.Fatalf("%v, not %v: %s, and there are %d", list, rows, resultText(got), len(others))
		}
		if other := rowsOfValues(got.Values); got.Code == impl.CkSat && (slices.Equal(other, rows) || !holdByRows(list, other)) {
			t.Fatalf("%v, not %v: %s", list, rows, resultText(got))
		}
		checkAnother(t, decls, list, rows, int64(d.below(9)))
	})
	if told[impl.CkSat] < 100 || told[impl.CkUnsat] < 100 {
		t.Errorf("too seldom: %v", told)
	}
}

func TestAnotherOfAllWidths(t *testing.T) {
	for _, c := range []struct {
		decls []impl.Decl
		want  int64
	}{
		{nil, impl.CkBad}, {manyDecls(1, 1), impl.CkSat}, {manyDecls(1, 4096), impl.CkSat}, {manyDecls(2, 2048), impl.CkSat}, {append(manyDecls(1, 4095), impl.Decl{Name: "z", Width: 1}), impl.CkSat}, {append(manyDecls(1, 4096), impl.Decl{Name: "z", Width: 1}), impl.CkBad}, {append(manyDecls(2, 2048), impl.Decl{Name: "z", Width: 1}), impl.CkBad}, {manyDecls(4, 1024), impl.CkSat}, {manyDecls(60, 68), impl.CkSat}, {manyDecls(60, 69), impl.CkBad}, {manyDecls(60, 333), impl.CkBad},
	} {
		d := dice{state: 143}
		for _, rows := range [][]string{zeroRows(c.decls), thrownRows(&d, c.decls)} {
			got := impl.Another(c.decls, nil, valuesOfRows(rows), 10)
			if got.Code != c.want {
				t.Errorf("%d of %v: %s", len(c.decls), c.want, short(resultText(got)))
			}
			if c.want == impl.CkBad {
				wantBad(t, "too wide", got)
			} else if got.Visits != 1 || !impl.ValuesOk(c.decls, got.Values) || slices.Equal(rowsOfValues(got.Values), rows) {
				t.Errorf("%d: %s", len(c.decls), short(resultText(got)))
			}
		}
	}
	// 200 variables and parts of them, and one more
	for width, want := range map[int64]int64{151: impl.CkSat, 152: impl.CkLarge} {
		decls := manyDecls(50, 4)
		decls[0].Width = width
		list := readLiterals(t, decls, "v0 ! (left 1 v0)")
		if got := impl.Another(decls, list, valuesOfRows(zeroRows(decls)), 10); got.Code != want {
			t.Errorf("%d: %s", width, short(resultText(got)))
		}
	}
}

func TestAnotherRefuses(t *testing.T) {
	decls := []impl.Decl{{Name: "a", Width: 2}, {Name: "b", Width: 64}, {Name: "c", Width: 65}}
	rows := texts("01", strings.Repeat("01", 32), strings.Repeat("1", 65))
	if got := impl.Another(decls, nil, valuesOfRows(rows), 1); got.Code != impl.CkSat {
		t.Fatal(resultText(got))
	}
	for what, wrong := range map[string][]string{"too few": rows[:2], "none": nil, "too many": append(slices.Clone(rows), "0"), "of another width": {"010", rows[1], rows[2]}, "narrower": {"1", rows[1], rows[2]}, "in another order": {rows[1], rows[0], rows[2]}} {
		wantBad(t, what, impl.Another(decls, nil, valuesOfRows(wrong), 10))
	}
	for place := range decls {
		for _, b := range append(wrongBits(), impl.Bits{Width: math.MinInt64}, impl.Bits{Width: math.MaxInt64}) {
			values := valuesOfRows(rows)
			values[place] = b
			wantBad(t, fmt.Sprint(b), impl.Another(decls, nil, values, 10))
		}
	}
	values := valuesOfRows(zeroRows(someDecls()))
	for what, list := range wrongLists() {
		wantBad(t, what, impl.Another(someDecls(), list, values, 10))
	}
	for _, wrong := range wrongDecls() {
		var values []impl.Bits
		for _, decl := range wrong {
			values = append(values, bitsOfRow(strings.Repeat("0", int(max(0, min(decl.Width, 5000))))))
		}
		wantBad(t, "wrong decls", impl.Another(wrong, nil, values, 10))
	}
	if got := impl.Another(someDecls(), wrongLists()["61 literals"][:2], values, 10); got.Code != impl.CkSat {
		t.Error(resultText(got))
	}
}
