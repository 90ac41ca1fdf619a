package tests

import (
	"fmt"
	"math"
	"slices"
	"strings"
	"testing"

	"loop.example/g00081/impl"
)

// checkBlast is asked of right literals whose sides have forms.
func checkBlast(t *testing.T, decls []impl.Decl, list []impl.Literal) (impl.Cnf, bool) {
	t.Helper()
	got, ok := impl.Blast(decls, list)
	want := blastByPicture(decls, list)
	if !rightCnf(want) {
		wantNoBlast(t, fmt.Sprint(list), got, ok)
		return impl.Cnf{}, false
	}
	if !ok || !sameCnf(got, want) || !impl.CnfOk(got) {
		t.Fatalf("%v: %s, %v, want %s", list, short(cnfText(got)), ok, short(cnfText(want)))
	}
	return got, true
}

func wantNoBlast(t *testing.T, what string, got impl.Cnf, ok bool) {
	t.Helper()
	if ok || got.Switches != 0 || len(got.Clauses) != 0 {
		t.Fatalf("%s: %s, %v, want nothing", what, short(cnfText(got)), ok)
	}
}

// twoOneTwo have the switches a: 1 and 2, b: 3, c: 4 and 5.
func twoOneTwo() []impl.Decl {
	return []impl.Decl{{Name: "a", Width: 2}, {Name: "b", Width: 1}, {Name: "c", Width: 2}}
}

func TestBlastByHand(t *testing.T) {
	type blastCase struct {
		want  string
		texts []string
	}
	check := func(decls []impl.Decl, list []blastCase) {
		t.Helper()
		for _, c := range list {
			if got, ok := checkBlast(t, decls, readLiterals(t, decls, c.texts...)); !ok || cnfText(got) != c.want {
				t.Errorf("%q: %s, %v, want %s", c.texts, cnfText(got), ok, c.want)
			}
		}
	}
	check(nil, []blastCase{
		{"0", nil}, {"0", texts("#b1 = #b1")}, {"0 ()", texts("#b1 = #b0")}, {"0 ()", texts("#b0 = #b1")}, {"0 () ()", texts("#b10 = #b01")}, {"0 ()", texts("#b1 ! #b1")}, {"0 ()", texts("#b10 ! #b10")}, {"0", texts("#b1 ! #b0")}, {"0", texts("#b10 ! #b00")}, {"0 () ()", texts("#b1 = #b0", "#b1 ! #b0", "#b1 ! #b1")},
	})
	check(twoOneTwo(), []blastCase{
		{"5", nil}, {"5", texts("a = a")}, {"5", texts("(cat b #b1) = (cat b #b1)")},
		// a constant on the right, and on the left
		{"5 (-1) (2)", texts("a = #b10")}, {"5 (-1) (2)", texts("#b10 = a")}, {"5 (3)", texts("b = #b1")}, {"5 (-3)", texts("#b0 = b")}, {"5 (3) (3)", texts("(cat b #b1) = (cat #b1 b)")}, {"5 (-3) (-3)", texts("(cat b #b0) = (cat #b0 b)")},
		// two switches, the greater one on the right, and on the left
		{"5 (-1 4) (1 -4) (-2 5) (2 -5)", texts("a = c")}, {"5 (-1 4) (1 -4) (-2 5) (2 -5)", texts("c = a")}, {"5 (-1 2) (1 -2) (-1 2) (1 -2)", texts("a = (left 1 a)")}, {"5 (-1 3) (1 -3) (-2 3) (2 -3)", texts("a = (rep 2 b)")}, {"5 (-3 5) (3 -5)", texts("(part 1 1 c) = b")},
		// unlike constants do away with nothing else
		{"5 ()", texts("(cat b #b1) = (cat b #b0)")}, {"5 () (-1 4) (1 -4) (-2 5) (2 -5)", texts("(cat a #b1) = (cat c #b0)")}, {"5 (-1 4) (1 -4) (-2 5) (2 -5) ()", texts("(cat #b1 a) = (cat #b0 c)")}, {"5 (3) () (-2)", texts("(cat (part 1 1 a) #b1 b) = #b001")},
		// without Equal: nothing is unlike
		{"5 ()", texts("a ! a")}, {"5 ()", texts("(cat b #b1) ! (cat b #b1)")},
		{"7 (1 -6) (-2 -7) (6 7)", texts("a ! #b10")}, {"7 (1 -6) (-2 -7) (6 7)", texts("#b10 ! a")}, {"6 (-3 -6) (6)", texts("b ! #b1")}, {"6 (3 -6) (6)", texts("#b0 ! b")},
		{"7 (1 4 -6) (-1 -4 -6) (2 5 -7) (-2 -5 -7) (6 7)", texts("a ! c")}, {"7 (1 4 -6) (-1 -4 -6) (2 5 -7) (-2 -5 -7) (6 7)", texts("c ! a")}, {"7 (1 2 -6) (-1 -2 -6) (1 2 -7) (-1 -2 -7) (6 7)", texts("a ! (left 1 a)")},
		// places that are twice the same have no switch of their own
		{"6 (1 3 -6) (-1 -3 -6) (6)", texts("(cat b #b1) ! (cat (part 0 0 a) #b1)")}, {"6 (-3 -6) (6)", texts("(cat a b) ! (cat a #b1)")}, {"6 (-3 -6) (6)", texts("(cat b a) ! (cat #b1 a)")}, {"7 (3 -6) (1 -7) (6 7)", texts("(cat (part 0 0 a) c b) ! (cat #b0 c #b0)")},
		// unlike constants ahead of other places, behind them, between them, and alone
		{"5", texts("(cat a #b1) ! (cat c #b0)")}, {"5", texts("(cat #b1 a) ! (cat #b0 c)")}, {"5", texts("(cat a #b1 b) ! (cat c #b0 (part 0 0 a))")}, {"5", texts("(cat b #b1) ! (cat b #b0)")}, {"5", texts("#b1 ! #b0")},
		// switches go on from literal to literal, and clauses stay in order
		{"7 (3 -6) (6) (-3 -7) (7)", texts("b ! #b0", "b ! #b1")}, {"7 (3 -6) (6) (-3 -7) (7)", texts("b ! #b0", "(cat a #b1) ! (cat c #b0)", "b ! #b1")}, {"6 () (3 -6) (6)", texts("b ! b", "b ! #b0")}, {"6 (3 -6) (6) (-1) (2) ()", texts("b ! #b0", "a = #b10", "#b1 = #b0")}, {"5 (3) (3) (-3)", texts("b = #b1", "#b1 = b", "b = #b0")},
	})
	list := readLiterals(t, twoOneTwo(), "b ! #b0", "a = #b10")
	list[0].Id, list[1].Id = 77, 1000000
	if got, ok := checkBlast(t, twoOneTwo(), list); !ok || cnfText(got) != "6 (3 -6) (6) (-1) (2)" {
		t.Errorf("%s, %v", cnfText(got), ok)
	}
}

func TestBlastOfThrownLiterals(t *testing.T) {
	d := dice{state: 221}
	told := make(map[string]int)
	check := func(decls []impl.Decl, list []impl.Literal) {
		c, ok := checkBlast(t, decls, list)
		told[fmt.Sprint(ok, " more: ", c.Switches > widthOfAll(decls))]++
		for _, clause := range c.Clauses {
			told[fmt.Sprint(min(4, len(clause)))]++
		}
	}
	thrownApart(&d, 600, check)
	narrowLists(&d, 100, check)
	for range 200 {
		width := int64(60 + d.below(70))
		wide := []impl.Decl{{Name: "a", Width: width}, {Name: "b", Width: 64}, {Name: "c", Width: 2 * width}}
		check(wide, thrownLiterals(&d, wide, 1+d.below(5), 1+d.below(3)))
	}
	for _, key := range []string{"true more: true", "true more: false", "false more: false", "0", "1", "2", "3", "4"} {
		if told[key] < 40 {
			t.Errorf("%s is too seldom: %v", key, told)
		}
	}
}

// blastEnds are lists of which the clauses are just not too many, and just too many.
func blastEnds(t *testing.T) []blastEnd {
	ones, two := manyDecls(1, 1), manyDecls(2, 200)
	rows := func(count int, more ...string) []impl.Literal {
		return readLiterals(t, two, append(slices.Repeat(texts("v0 = v1"), count), more...)...)
	}
	unlike := func(widths ...int) []impl.Literal {
		var some []string
		for _, width := range widths {
			some = append(some, fmt.Sprintf("(rep %d v0) ! #b%s", width, strings.Repeat("0", width)))
		}
		return readLiterals(t, ones, some...)
	}
	return []blastEnd{
		// switches of variables alone
		{manyDecls(1, 400), nil, "400 0 0"}, {manyDecls(1, 401), nil, ""}, {manyDecls(40, 10), nil, "400 0 0"}, {manyDecls(60, 333), nil, ""}, {append(manyDecls(2, 200), impl.Decl{Name: "z", Width: 1}), nil, ""}, {manyDecls(1, 4096), nil, ""},
		// and with some more, in one last clause, or in several: one of 400 numbers
		// has a variable's switch beside these, which is one too many
		{ones, unlike(1), "2 2 2"}, {ones, unlike(398), "399 399 398"}, {ones, unlike(399), "400 400 399"}, {ones, unlike(400), ""}, {ones, unlike(401), ""}, {ones, unlike(2000), ""}, {ones, unlike(200, 199), "400 401 200"}, {ones, unlike(200, 200), ""}, {ones, unlike(399, 1), ""}, {manyDecls(1, 399), readLiterals(t, manyDecls(1, 399), "(part 7 7 v0) ! #b1"), "400 2 2"}, {manyDecls(1, 400), readLiterals(t, manyDecls(1, 400), "(part 7 7 v0) ! #b1"), ""}, {manyDecls(1, 400), readLiterals(t, manyDecls(1, 400), "v0 ! v0", "(cat v0 #b1) ! (cat (left 1 v0) #b0)"), "400 1 0"},
		// clauses
		{two, rows(9), "400 3600 2"}, {two, rows(10), "400 4000 2"}, {two, rows(11), ""}, {two, rows(10, "(part 0 0 v0) = #b1"), ""}, {two, rows(10, "#b1 = #b0"), ""}, {two, rows(10, "v0 ! v0"), ""}, {two, rows(10, "#b1 = #b1", "v0 = v0", "#b1 ! #b0", "(cat v0 #b1) ! (cat v1 #b0)"), "400 4000 2"}, {two, rows(9, "(part 198 0 v0) = (part 199 1 v0)", "(part 0 0 v0) = #b1"), "400 3999 2"}, {two, rows(9, "(part 198 0 v0) = (part 199 1 v0)", "(part 1 0 v0) = #b10"), "400 4000 2"}, {two, rows(9, "(part 198 0 v0) = (part 199 1 v0)", "(part 2 0 v0) = #b101"), ""},
	}
}

type blastEnd struct {
	decls []impl.Decl
	list  []impl.Literal
	want  string // how many switches and clauses there are, and the length of the longest one
}

func TestBlastAtItsEnds(t *testing.T) {
	for i, c := range blastEnds(t) {
		got, ok := impl.Blast(c.decls, c.list)
		r := impl.BlastCheck(c.decls, c.list, 0)
		if c.want == "" {
			wantNoBlast(t, fmt.Sprint("the end ", i), got, ok)
			if resultText(r) != "large 0" || len(r.Values) != 0 {
				t.Errorf("the end %d: %s", i, resultText(r))
			}
			for _, most := range []int64{-1, 20001, math.MinInt64, math.MaxInt64} {
				wantBad(t, fmt.Sprint("the end ", i, " with ", most), impl.BlastCheck(c.decls, c.list, most))
			}
			if r := impl.BlastCheck(c.decls, c.list, manyVisits); resultText(r) != "large 0" {
				t.Errorf("the end %d: %s", i, resultText(r))
			}
			continue
		}
		longest := 0
		for _, clause := range got.Clauses {
			longest = max(longest, len(clause))
		}
		if text := fmt.Sprint(got.Switches, " ", len(got.Clauses), " ", longest); !ok || text != c.want || !sameCnf(got, blastByPicture(c.decls, c.list)) {
			t.Errorf("the end %d: %s, %v, want %s", i, text, ok, c.want)
		}
		if resultText(r) != "many 0" {
			t.Errorf("the end %d: %s", i, resultText(r))
		}
		if r := impl.BlastCheck(c.decls, c.list, manyVisits); r.Code != impl.CkSat && r.Code != impl.CkUnsat {
			t.Errorf("the end %d: %s", i, short(resultText(r)))
		}
	}
}

// Clauses are met just by the values by which literals hold: by flags of these
// with some flags of the other switches.
func TestBlastByAllValues(t *testing.T) {
	d := dice{state: 222}
	told := make(map[bool]int)
	narrowLists(&d, 60, func(decls []impl.Decl, list []impl.Literal) {
		c, ok := impl.Blast(decls, list)
		if !ok {
			t.Fatalf("%v: no clauses", list)
		}
		for _, rows := range valuesOfAll(decls, nil) {
			met := c
			met.Clauses = slices.Clone(c.Clauses)
			for i, digit := range switchesOfRows(rows) {
				met.Clauses = append(met.Clauses, []int64{int64(i+1) * int64(2*(digit-'0')-1)})
			}
			on, _, code := impl.Settle(met, manyVisits)
			if holds := holdByRows(list, rows); code != map[bool]int64{true: impl.StYes, false: impl.StNo}[holds] || holds && !impl.Meets(c, on) {
				t.Fatalf("%v by %q: %s, %s", list, rows, cnfText(c), settleNames[code])
			}
			told[code == impl.StYes]++
		}
	})
	if told[true] < 500 || told[false] < 500 {
		t.Errorf("too seldom: %v", told)
	}
}

func TestSwitchesByHand(t *testing.T) {
	for _, c := range []struct {
		decls []impl.Decl
		rows  []string
		want  string
	}{
		{nil, nil, ""}, {manyDecls(1, 1), texts("0"), "0"}, {manyDecls(1, 1), texts("1"), "1"}, {manyDecls(1, 3), texts("110"), "011"}, {manyDecls(1, 3), texts("001"), "100"}, {twoOneTwo(), texts("10", "1", "00"), "01100"}, {twoOneTwo(), texts("01", "0", "11"), "10011"}, {twoOneTwo(), texts("00", "0", "01"), "00010"}, {twoOneTwo(), texts("00", "0", "10"), "00001"},
	} {
		on, ok := impl.SwitchesOf(c.decls, valuesOfRows(c.rows))
		if !ok || rowOfFlags(on) != c.want {
			t.Errorf("%q: %s, %v, want %s", c.rows, rowOfFlags(on), ok, c.want)
		}
		// just as many flags, and more
		for _, more := range texts("", "0", "1", "1111111111") {
			values, ok := impl.ValuesBy(c.decls, flagsOfRow(c.want+more))
			if !ok || !slices.Equal(rowsOfValues(values), c.rows) || !impl.ValuesOk(c.decls, values) {
				t.Errorf("%s: %q, %v, want %q", c.want+more, rowsOfValues(values), ok, c.rows)
			}
		}
		for fewer := range len(c.want) {
			if values, ok := impl.ValuesBy(c.decls, flagsOfRow(c.want[:fewer])); ok || len(values) != 0 {
				t.Errorf("%s: %q, %v", c.want[:fewer], rowsOfValues(values), ok)
			}
		}
	}
}

func TestSwitchesOfThrownValues(t *testing.T) {
	d := dice{state: 223}
	all := append(manyDecls(4, 4096), impl.Decl{Name: "z", Width: 3616})
	for i := range 100 {
		decls := someDecls()
		if i == 0 {
			decls = all // as many bits as there can be, however few switches a Cnf has
		}
		rows := thrownRows(&d, decls)
		want := switchesOfRows(rows)
		on, ok := impl.SwitchesOf(decls, valuesOfRows(rows))
		if !ok || rowOfFlags(on) != want {
			t.Fatalf("%s: %s, %v", short(want), short(rowOfFlags(on)), ok)
		}
		values, ok := impl.ValuesBy(decls, append(on, flagsOfRow(d.row(d.below(70)))...))
		if !ok || !slices.Equal(rowsOfValues(values), rows) || !impl.ValuesOk(decls, values) {
			t.Fatalf("%s: %v", short(want), ok)
		}
		if values, ok := impl.ValuesBy(decls, on[:len(on)-1]); ok || len(values) != 0 {
			t.Fatalf("%s without the last one: %v", short(want), ok)
		}
	}
}

func TestSwitchesRefuse(t *testing.T) {
	decls := someDecls()
	rows := thrownRows(&dice{state: 224}, decls)
	refused := func(what string, decls []impl.Decl, values []impl.Bits) {
		t.Helper()
		if on, ok := impl.SwitchesOf(decls, values); ok || len(on) != 0 {
			t.Errorf("%s: %s, %v", what, rowOfFlags(on), ok)
		}
	}
	refused("too few", decls, valuesOfRows(rows[:5]))
	refused("none", decls, nil)
	refused("too many", decls, valuesOfRows(append(slices.Clone(rows), "0")))
	refused("some for no variables", nil, valuesOfRows(rows))
	refused("in another order", decls, valuesOfRows(append(slices.Clone(rows[1:]), rows[0])))
	for place := range decls {
		for _, b := range append(wrongBits(), bitsOfRow(rows[place]+"0")) {
			values := valuesOfRows(rows)
			values[place] = b
			refused(fmt.Sprint(place, b), decls, values)
		}
	}
	for _, wrong := range wrongDecls() {
		var values []impl.Bits
		for _, decl := range wrong {
			values = append(values, bitsOfRow(strings.Repeat("0", int(max(0, min(decl.Width, 5000))))))
		}
		refused("wrong decls", wrong, values)
		for _, on := range [][]bool{nil, {true}, make([]bool, 21000)} {
			if values, ok := impl.ValuesBy(wrong, on); ok || len(values) != 0 {
				t.Errorf("wrong decls: %v, %v", values, ok)
			}
		}
	}
}

// checkOfBlast is asked of right literals whose sides have forms.
func checkOfBlast(t *testing.T, decls []impl.Decl, list []impl.Literal, most int64) impl.Result {
	t.Helper()
	got := impl.BlastCheck(decls, list, most)
	if want := blastCheckByPicture(decls, list, most); !sameResult(got, want) {
		t.Fatalf("%v with %d: %s, want %s", list, most, resultText(got), resultText(want))
	}
	return got
}

// Each is asked with visits that just suffice, and that are just too few.
func TestBlastCheckByHand(t *testing.T) {
	for _, c := range []struct {
		decls  []impl.Decl
		texts  []string
		visits int64
		want   string
	}{
		{nil, nil, 1, "sat 1"}, {nil, texts("#b1 = #b1", "#b1 ! #b0"), 1, "sat 1"}, {nil, texts("#b1 = #b0"), 1, "unsat 1"}, {nil, texts("#b1 ! #b1"), 1, "unsat 1"},
		{twoOneTwo(), nil, 6, "sat 6 00 0 00"}, {twoOneTwo(), texts("a = #b10", "b = #b1", "c = a"), 1, "sat 1 10 1 10"}, {twoOneTwo(), texts("a = #b10"), 4, "sat 4 10 0 00"}, {twoOneTwo(), texts("c = #b01"), 4, "sat 4 00 0 01"},
		// 6 is on, and 3 with it
		{twoOneTwo(), texts("b ! #b0"), 5, "sat 5 00 1 00"}, {twoOneTwo(), texts("b ! #b0", "b ! #b1"), 1, "unsat 1"},
		// 1 is tried off: so 6 is off, 7 is on, and 2 with it
		{twoOneTwo(), texts("a ! #b00"), 5, "sat 5 10 0 00"}, {twoOneTwo(), texts("a = c", "a ! c"), 7, "unsat 7"}, {twoOneTwo(), texts("a ! a"), 1, "unsat 1"}, {twoOneTwo(), texts("a = #b10", "a = #b11"), 1, "unsat 1"},
		// more switches than bits
		{twoOneTwo(), texts("(cat a b) ! (cat c #b0)", "a = c"), 3, "sat 3 00 1 00"}, {manyDecls(3, 1), texts("v0 ! v1", "v1 ! v2", "v2 ! v0"), 3, "unsat 3"}, {manyDecls(1, 2), texts("v0 ! #b00", "v0 ! #b01", "v0 ! #b10"), 4, "sat 4 11"}, {manyDecls(1, 2), texts("v0 ! #b00", "v0 ! #b01", "v0 ! #b10", "v0 ! #b11"), 3, "unsat 3"},
	} {
		list := readLiterals(t, c.decls, c.texts...)
		for _, most := range []int64{c.visits, c.visits + 1, 19999, manyVisits} {
			if got := checkOfBlast(t, c.decls, list, most); resultText(got) != c.want {
				t.Errorf("%q with %d: %s, want %s", c.texts, most, resultText(got), c.want)
			}
		}
		for most := range c.visits {
			if got := checkOfBlast(t, c.decls, list, most); resultText(got) != fmt.Sprint("many ", most) {
				t.Errorf("%q with %d: %s", c.texts, most, resultText(got))
			}
		}
		for _, most := range []int64{-1, 20001, math.MinInt64, math.MaxInt64} {
			wantBad(t, fmt.Sprint(c.texts, " with ", most), impl.BlastCheck(c.decls, list, most))
		}
	}
}

func TestBlastCheckOfThrownLiterals(t *testing.T) {
	d := dice{state: 225}
	told := make(map[string]int)
	check := func(decls []impl.Decl, list []impl.Literal) {
		if !rightCnf(blastByPicture(decls, list)) {
			return
		}
		got := checkOfBlast(t, decls, list, int64(d.below(2)*d.below(90)+d.below(9)))
		told[codeNames[got.Code]]++
	}
	narrowLists(&d, 250, check)
	thrownApart(&d, 150, check)
	for _, key := range []string{"sat", "unsat", "many"} {
		if told[key] < 80 {
			t.Errorf("%s is too seldom: %v", key, told)
		}
	}
}

// The promise: words as switches are settled as words are, and as all values tell.
func TestBlastCheckByAllValues(t *testing.T) {
	d := dice{state: 226}
	told := make(map[string]int)
	narrowLists(&d, 250, func(decls []impl.Decl, list []impl.Literal) {
		got, words := impl.BlastCheck(decls, list, manyVisits), impl.Check(decls, list, manyVisits)
		if want := map[bool]int64{true: impl.CkSat, false: impl.CkUnsat}[len(valuesOfAll(decls, list)) > 0]; got.Code != want || words.Code != want {
			t.Fatalf("%v: %s, as words %s, want %s", list, resultText(got), resultText(words), codeNames[want])
		}
		if got.Code == impl.CkSat && (!impl.ValuesOk(decls, got.Values) || !holdByRows(list, rowsOfValues(got.Values))) {
			t.Fatalf("%v does not hold: %s", list, resultText(got))
		}
		if got.Code == impl.CkUnsat && len(got.Values) != 0 {
			t.Fatalf("%v: %s", list, resultText(got))
		}
		told[codeNames[got.Code]]++
	})
	if told["sat"] < 150 || told["unsat"] < 150 {
		t.Errorf("too seldom: %v", told)
	}
}

// Wider ones, where neither search gives up.
func TestBlastCheckAsWords(t *testing.T) {
	d := dice{state: 227}
	told := make(map[string]int)
	wide := []impl.Decl{{Name: "a", Width: 40}, {Name: "b", Width: 17}, {Name: "c", Width: 64}, {Name: "d", Width: 1}, {Name: "e", Width: 65}}
	check := func(decls []impl.Decl, list []impl.Literal) {
		got, words := impl.BlastCheck(decls, list, manyVisits), impl.Check(decls, list, manyVisits)
		gaveUp := func(code int64) bool { return code == impl.CkMany || code == impl.CkLarge }
		if gaveUp(got.Code) || gaveUp(words.Code) {
			told["gave up"]++
			return
		}
		if got.Code != words.Code || got.Code == impl.CkSat && !holdByRows(list, rowsOfValues(got.Values)) {
			t.Fatalf("%v: %s, as words %s", list, resultText(got), resultText(words))
		}
		told[codeNames[got.Code]]++
	}
	for range 400 {
		check(wide, thrownLiterals(&d, wide, 1+d.below(9), 1+d.below(2)))
		decls := manyDecls(4+d.below(8), int64(1+d.below(5)))
		check(decls, thrownRowsOfParts(&d, decls, 4+d.below(12), 1+d.below(3)))
	}
	if told["sat"] < 200 || told["unsat"] < 200 {
		t.Errorf("too seldom: %v", told)
	}
}

func TestBlastRefuses(t *testing.T) {
	decls := someDecls()
	refused := func(what string, decls []impl.Decl, list []impl.Literal) {
		t.Helper()
		got, ok := impl.Blast(decls, list)
		wantNoBlast(t, what, got, ok)
		for _, most := range []int64{0, 10, manyVisits, -1} {
			wantBad(t, what, impl.BlastCheck(decls, list, most))
		}
	}
	for what, list := range wrongLists() {
		refused(what, decls, list)
		// what is not right is told ahead of what is too large
		refused(what, append(slices.Clone(decls), impl.Decl{Name: "more", Width: 401}), list)
	}
	for _, wrong := range wrongDecls() {
		refused("wrong decls", wrong, nil)
		refused("wrong decls", wrong, []impl.Literal{literal(1, true, term(constant("1")), term(constant("1")))})
	}
	full := wrongLists()["61 literals"][:60]
	if got, ok := checkBlast(t, decls, full); !ok || cnfText(got) != "139" {
		t.Errorf("60 literals: %s, %v", cnfText(got), ok)
	}
	for i := range full {
		full[i].Equal = i%2 == 0
	}
	if got, ok := checkBlast(t, decls, full); !ok || len(got.Clauses) != 30 {
		t.Errorf("60 literals: %s, %v", cnfText(got), ok)
	}
	if got := impl.BlastCheck(decls, full, manyVisits); resultText(got) != "unsat 1" {
		t.Errorf("60 literals: %s", resultText(got))
	}
}

func TestBlastKeeps(t *testing.T) {
	d := dice{state: 228}
	check := func(decls []impl.Decl, list []impl.Literal) {
		keeps(t, impl.Blast, decls, list)
		keeps(t, impl.BlastCheck, decls, list, int64(d.below(40)))
		values := valuesOfRows(thrownRows(&d, decls))
		keeps(t, impl.SwitchesOf, decls, values)
		on, _ := impl.SwitchesOf(decls, values)
		keeps(t, impl.ValuesBy, decls, on)
		keeps(t, impl.ValuesBy, decls, append(on, true, false))
		keeps(t, impl.ValuesBy, decls, on[:len(on)/2])
	}
	thrownApart(&d, 150, check)
	narrowLists(&d, 50, check)
	keeps(t, impl.SwitchesOf, manyDecls(2, 64), valuesOfRows([]string{"0"}))
}
