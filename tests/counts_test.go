package tests

import (
	"fmt"
	"math"
	"runtime"
	"slices"
	"strings"
	"testing"

	"loop.example/g00081/impl"
)

// freeByPicture is asked of right literals: the bits of all variables, and the
// two constants behind them, are joined in a web; -1 where the constants are.
func freeByPicture(decls []impl.Decl, list []impl.Literal) int64 {
	width := widthOfAll(decls)
	w := newWeb(width + 2)
	node := func(b bulb) int64 {
		if b.fixed {
			return width + b.n
		}
		return b.n - 1
	}
	for _, l := range equalitiesOf(list, nil) {
		s, u := bulbsOf(decls, l.S), bulbsOf(decls, l.T)
		for i := range s {
			w.join(link(node(s[i]), node(u[i]), 0))
		}
	}
	if w.joined(width, width+1) {
		return -1
	}
	count := int64(0)
	for bit := range width {
		if w.least(bit) == bit && !w.joined(bit, width) && !w.joined(bit, width+1) {
			count++
		}
	}
	return count
}

// checkFree is asked of right literals whose sides have forms.
func checkFree(t *testing.T, decls []impl.Decl, list []impl.Literal) int64 {
	t.Helper()
	got := impl.FreeBits(decls, list)
	if want := freeByPicture(decls, list); got != want {
		t.Fatalf("%v: %d are free, want %d", list, got, want)
	}
	return got
}

func TestFreeBitsByHand(t *testing.T) {
	for _, c := range []struct {
		decls []impl.Decl
		texts []string
		want  int64
	}{
		{nil, nil, 0}, {nil, texts("#b1 = #b1", "#b1 ! #b1"), 0}, {nil, texts("#b1 = #b0"), -1}, {manyDecls(1, 1), nil, 1}, {manyDecls(1, 70), nil, 70}, {manyDecls(60, 333), nil, 19980},
		// variables that stand in no literal are free
		{fourAndOne(), nil, 12}, {fourAndOne(), texts("a = a"), 12}, {fourAndOne(), texts("a = b"), 10}, {fourAndOne(), texts("a = b", "b = a", "a = b"), 10}, {fourAndOne(), texts("a = b", "b = c", "c = d"), 6}, {fourAndOne(), texts("e = (cat a b)"), 8}, {fourAndOne(), texts("e = (left 1 e)"), 9}, {fourAndOne(), texts("e = (left 2 e)"), 10}, {fourAndOne(), texts("(part 0 0 e) = (part 3 3 e)"), 11},
		// constants
		{fourAndOne(), texts("a = #b10"), 10}, {fourAndOne(), texts("#b11 = a"), 10}, {fourAndOne(), texts("a = #b00"), 10}, {fourAndOne(), texts("(part 1 1 a) = #b0"), 11}, {fourAndOne(), texts("(part 2 1 e) = #b10", "(part 1 0 e) = #b01"), 9}, {fourAndOne(), texts("#b10 = #b10"), 12},
		// by way of others, whatever the order is
		{fourAndOne(), texts("a = b", "b = c", "c = #b01"), 6}, {fourAndOne(), texts("c = #b01", "b = c", "a = b"), 6}, {fourAndOne(), texts("a = b", "c = #b01", "d = #b01", "b = c"), 4}, {fourAndOne(), texts("e = (left 1 e)", "(part 2 2 e) = #b1"), 8}, {fourAndOne(), texts("e = (left 2 e)", "(part 2 2 e) = #b1"), 9}, {fourAndOne(), texts("e = (cat a b)", "a = #b10", "b = c"), 4},
		// all of them, and none
		{fourAndOne(), texts("(cat a b c d e) = #x123"), 0}, {twoOneTwo(), texts("a = c", "a = (rep 2 b)"), 1}, {twoOneTwo(), texts("a = c", "a = (rep 2 b)", "b = #b0"), 0},
		// no values
		{fourAndOne(), texts("a = #b10", "a = #b11"), -1}, {fourAndOne(), texts("a = b", "b = c", "a = #b10", "c = #b00"), -1}, {fourAndOne(), texts("e = (left 1 e)", "(part 1 0 e) = #b10"), -1}, {fourAndOne(), texts("#b1 = #b0"), -1},
		// inequalities do not count
		{fourAndOne(), texts("a ! b"), 12}, {fourAndOne(), texts("a ! a"), 12}, {fourAndOne(), texts("a = b", "a ! b"), 10}, {fourAndOne(), texts("a = #b10", "a ! #b10", "b ! #b11", "#b1 ! #b1"), 10},
	} {
		if got := checkFree(t, c.decls, readLiterals(t, c.decls, c.texts...)); got != c.want {
			t.Errorf("%q: %d are free, want %d", c.texts, got, c.want)
		}
	}
	// all bits that there can be, at both ends
	decls := append(manyDecls(4, 4096), impl.Decl{Name: "z", Width: 3616})
	for want, texts := range map[int64][]string{20000: nil, 19999: texts("(part 3615 3615 z) = #b1"), 19998: texts("(part 3615 3615 z) = (part 0 0 v0)", "(part 0 0 v0) = #b0"), 15904: texts("v0 = v3"), 15905: texts("v0 = (left 1 v0)")} {
		if got := impl.FreeBits(decls, readLiterals(t, decls, texts...)); got != want {
			t.Errorf("%q: %d, want %d", texts, got, want)
		}
	}
}

func TestFreeBitsOfThrownLiterals(t *testing.T) {
	d := dice{state: 231}
	told := make(map[string]int)
	thrownApart(&d, 1200, func(decls []impl.Decl, list []impl.Literal) {
		for i := range list {
			list[i].Equal = list[i].Equal || d.below(2) == 0
		}
		got := checkFree(t, decls, list)
		told[fmt.Sprint(got < 0, got == widthOfAll(decls))]++
	})
	for _, key := range []string{"true false", "false false", "false true"} {
		if told[key] < 80 {
			t.Errorf("%s is too seldom: %v", key, told)
		}
	}
}

// rowsTold are those of all values that are numbered, in the order of their numbers.
func rowsTold(t *testing.T, decls []impl.Decl, list []impl.Literal) [][]string {
	t.Helper()
	count := impl.CountAll(decls, list)
	var all [][]string
	for n := range count {
		values, ok := impl.NthValues(decls, list, n)
		if !ok || !impl.ValuesOk(decls, values) {
			t.Fatalf("%v: the values %d of %d are %v, %v", list, n, count, values, ok)
		}
		all = append(all, rowsOfValues(values))
	}
	for _, n := range []int64{-1, count, count + 1, math.MinInt64, math.MaxInt64} {
		wantNoValues(t, decls, list, n)
	}
	return all
}

func wantNoValues(t *testing.T, decls []impl.Decl, list []impl.Literal, n int64) {
	t.Helper()
	if values, ok := impl.NthValues(decls, list, n); ok || len(values) != 0 {
		t.Fatalf("%v: %d is %q, %v, want nothing", list, n, rowsOfValues(values), ok)
	}
}

func wantNoCount(t *testing.T, what string, decls []impl.Decl, list []impl.Literal) {
	t.Helper()
	if got := impl.CountAll(decls, list); got != -1 {
		t.Fatalf("%s: %d", what, got)
	}
	for _, n := range []int64{0, 1, -1, math.MinInt64, math.MaxInt64} {
		wantNoValues(t, decls, list, n)
	}
}

// rowsText writes rows short: "00 1, 01 0".
func rowsText(all [][]string) string {
	var out []string
	for _, rows := range all {
		out = append(out, strings.Join(rows, " "))
	}
	return strings.Join(out, ", ")
}

// The order is that of the number of all together: the first variable is the highest.
func TestCountsByHand(t *testing.T) {
	ab := twoOneTwo()[:2]
	for _, c := range []struct {
		decls []impl.Decl
		texts []string
		want  string
		count int64
	}{
		{manyDecls(1, 1), nil, "0, 1", 2}, {manyDecls(1, 2), nil, "00, 01, 10, 11", 4}, {ab, nil, "00 0, 00 1, 01 0, 01 1, 10 0, 10 1, 11 0, 11 1", 8},
		// none, one, and all
		{ab, texts("a ! a"), "", 0}, {ab, texts("b = #b0", "b = #b1"), "", 0}, {ab, texts("#b1 = #b0"), "", 0}, {ab, texts("b ! #b0", "b ! #b1"), "", 0}, {ab, texts("a = #b10", "b = #b1"), "10 1", 1}, {ab, texts("(cat a b) = #b000"), "00 0", 1}, {ab, texts("(cat a b) = #b111"), "11 1", 1}, {ab, texts("a = a", "#b1 ! #b0"), "00 0, 00 1, 01 0, 01 1, 10 0, 10 1, 11 0, 11 1", 8},
		// some
		{ab, texts("b = #b1"), "00 1, 01 1, 10 1, 11 1", 4}, {ab, texts("a = #b01"), "01 0, 01 1", 2}, {ab, texts("a ! #b01"), "00 0, 00 1, 10 0, 10 1, 11 0, 11 1", 6}, {ab, texts("b = (part 0 0 a)"), "00 0, 01 1, 10 0, 11 1", 4}, {ab, texts("b = (part 1 1 a)"), "00 0, 01 0, 10 1, 11 1", 4}, {ab, texts("b ! (part 0 0 a)", "a ! #b00"), "01 0, 10 1, 11 0", 3}, {ab, texts("(cat a b) ! #b000", "(cat b a) ! #b111", "a = (left 1 a)"), "00 1, 11 0", 2}, {manyDecls(3, 1), texts("v0 ! v2"), "0 0 1, 0 1 1, 1 0 0, 1 1 0", 4},
		// constants at the same place in both sides, unlike and alike
		{ab, texts("(cat a #b1) ! (cat a #b0)"), "00 0, 00 1, 01 0, 01 1, 10 0, 10 1, 11 0, 11 1", 8}, {ab, texts("(cat #b1 b) = (cat #b0 b)"), "", 0}, {ab, texts("(cat #b1 b) = (cat #b1 (part 0 0 a))", "a ! #b11"), "00 0, 01 1, 10 0", 3},
	} {
		list := readLiterals(t, c.decls, c.texts...)
		if got, count := rowsText(rowsTold(t, c.decls, list)), impl.CountAll(c.decls, list); got != c.want || count != c.count {
			t.Errorf("%q: %d: %s, want %s", c.texts, count, got, c.want)
		}
	}
	// without variables there is one row of values, which is empty
	for want, texts := range map[int64][][]string{1: {nil, texts("#b1 = #b1"), texts("#b1 ! #b0", "#x0 = #x0")}, 0: {texts("#b1 = #b0"), texts("#b1 = #b1", "#b1 ! #b1")}} {
		for _, some := range texts {
			list := readLiterals(t, nil, some...)
			if got := impl.CountAll(nil, list); got != want {
				t.Errorf("%q: %d, want %d", some, got, want)
			}
			if values, ok := impl.NthValues(nil, list, 0); ok != (want == 1) || len(values) != 0 {
				t.Errorf("%q: %v, %v", some, values, ok)
			}
			wantNoValues(t, nil, list, 1)
		}
	}
}

func TestCountsAtTheirEnds(t *testing.T) {
	for _, c := range []struct {
		decls []impl.Decl
		texts []string
		count int64
		first string
		last  string
	}{
		{manyDecls(1, 14), nil, 16384, "00000000000000", "11111111111111"}, {manyDecls(14, 1), nil, 16384, strings.Repeat(" 0", 14)[1:], strings.Repeat(" 1", 14)[1:]}, {manyDecls(2, 7), nil, 16384, "0000000 0000000", "1111111 1111111"}, {manyDecls(1, 13), nil, 8192, "0000000000000", "1111111111111"},
		{manyDecls(2, 7), texts("v0 ! #b0000000", "v1 ! #b1111111"), 127 * 127, "0000001 0000000", "1111111 1111110"}, {manyDecls(2, 7), texts("v0 = v1"), 128, "0000000 0000000", "1111111 1111111"}, {manyDecls(2, 7), texts("v0 ! v1"), 16384 - 128, "0000000 0000001", "1111111 1111110"}, {manyDecls(1, 14), texts("v0 = #b10000000000001"), 1, "10000000000001", "10000000000001"}, {manyDecls(14, 1), texts("v0 = #b1", "v13 = v0"), 4096, "1" + strings.Repeat(" 0", 12) + " 1", strings.Repeat(" 1", 14)[1:]},
	} {
		list := readLiterals(t, c.decls, c.texts...)
		if got := impl.CountAll(c.decls, list); got != c.count {
			t.Errorf("%q: %d, want %d", c.texts, got, c.count)
		}
		for n, want := range map[int64]string{0: c.first, c.count - 1: c.last} {
			if values, ok := impl.NthValues(c.decls, list, n); !ok || strings.Join(rowsOfValues(values), " ") != want {
				t.Errorf("%q: %d is %q, %v, want %s", c.texts, n, rowsOfValues(values), ok, want)
			}
		}
		for _, n := range []int64{-1, c.count, c.count + 1, 16384, math.MinInt64, math.MaxInt64} {
			wantNoValues(t, c.decls, list, n)
		}
	}
	for _, decls := range [][]impl.Decl{manyDecls(1, 15), manyDecls(15, 1), manyDecls(2, 8), manyDecls(60, 1), manyDecls(1, 64), manyDecls(1, 4096), manyDecls(60, 333), append(manyDecls(1, 14), impl.Decl{Name: "z", Width: 1})} {
		for _, texts := range [][]string{nil, texts("v0 ! v0"), texts("v0 = v0"), texts("#b1 = #b0")} {
			wantNoCount(t, fmt.Sprint(len(decls), " variables"), decls, readLiterals(t, decls, texts...))
		}
	}
}

// Values are told of words however wide they are, with a flat form or without.
func TestCountsOfWideWords(t *testing.T) {
	decls := twoOneTwo()[:2]
	zero := "#x" + strings.Repeat("0", 1024)
	for _, c := range []struct {
		texts []string
		want  string
		free  int64
	}{
		{texts("(rep 4096 b) = " + zero), "00 0, 01 0, 10 0, 11 0", -1}, {texts("(rep 4096 b) ! " + zero), "00 1, 01 1, 10 1, 11 1", -1}, {texts("(rep 2048 a) = (rep 4096 b)"), "00 0, 11 1", -1}, {texts("(rep 2048 a) ! (rep 4096 b)", "b ! #b0"), "00 1, 01 1, 10 1", -1}, {texts("(zero 4094 a) = (left 1 (zero 4095 b))"), "00 0, 10 1", 1}, {texts("(part 3 2 (rep 2001 b)) = a"), "00 0, 11 1", -1}, {texts("(part 3 2 (rep 2000 b)) = a"), "00 0, 11 1", 1}, {texts("(sign 1999 b) = (part 1999 0 " + zero + ")"), "00 0, 01 0, 10 0, 11 0", 2}, {texts("(part 4095 4094 (right 1 (rep 2048 a))) = #b01"), "10 0, 10 1", -1}, {texts("(part 3997 3996 (right 1 (rep 1999 a))) = #b01"), "10 0, 10 1", 1}, {texts("(part 4095 4094 (sign 2094 (rep 1001 a))) = #b11"), "10 0, 10 1, 11 0, 11 1", -1},
	} {
		list := readLiterals(t, decls, c.texts...)
		if got := rowsText(rowsTold(t, decls, list)); got != c.want {
			t.Errorf("%s: %s, want %s", short(fmt.Sprint(c.texts)), got, c.want)
		}
		if got := impl.FreeBits(decls, list); got != c.free {
			t.Errorf("%s: %d are free, want %d", short(fmt.Sprint(c.texts)), got, c.free)
		}
	}
}

func sameRows(a, b [][]string) bool { return slices.EqualFunc(a, b, slices.Equal[[]string]) }

// fewValues are lists as narrowLists has them, and many by which just a few values hold.
func fewValues(d *dice, count int, call func(decls []impl.Decl, list []impl.Literal)) {
	narrowLists(d, count, call)
	for range count {
		decls := manyDecls(2+d.below(3), 1)
		call(decls, thrownRowsOfParts(d, decls, 1+d.below(5), 1+d.below(2)))
	}
}

// The promise: values that are numbered stand in order, each once, and are all.
func TestCountsByAllValues(t *testing.T) {
	d := dice{state: 232}
	told := make(map[string]int)
	fewValues(&d, 200, func(decls []impl.Decl, list []impl.Literal) {
		got, want := rowsTold(t, decls, list), valuesOfAll(decls, list)
		if !sameRows(got, want) {
			t.Fatalf("%v: %s, want %s", list, rowsText(got), rowsText(want))
		}
		for n := 1; n < len(got); n++ {
			if strings.Join(got[n-1], "") >= strings.Join(got[n], "") {
				t.Fatalf("%v: %q, then %q", list, got[n-1], got[n])
			}
		}
		for _, rows := range got {
			if impl.FirstFails(decls, valuesOfRows(rows), list) != 0 {
				t.Fatalf("%v does not hold by %q", list, rows)
			}
		}
		told[fmt.Sprint(min(2, len(got)))]++
	})
	for _, key := range []string{"0", "1", "2"} {
		if told[key] < 20 {
			t.Errorf("%s is too seldom: %v", key, told)
		}
	}
	// up to MaxCounted bits
	for range 40 {
		decls := []impl.Decl{{Name: "a", Width: 5}, {Name: "b", Width: 1}, {Name: "c", Width: int64(1 + d.below(4))}, {Name: "d", Width: 4}}
		list := thrownLiterals(&d, decls, 1+d.below(3), 1+d.below(3))
		want := valuesOfAll(decls, list)
		if got := impl.CountAll(decls, list); got != int64(len(want)) {
			t.Fatalf("%v: %d, want %d", list, got, len(want))
		}
		for n := 0; n < len(want); n += 1 + d.below(300) {
			if values, ok := impl.NthValues(decls, list, int64(n)); !ok || !slices.Equal(rowsOfValues(values), want[n]) {
				t.Fatalf("%v: %d is %q, %v, want %q", list, n, rowsOfValues(values), ok, want[n])
			}
		}
		wantNoValues(t, decls, list, int64(len(want)))
	}
}

// The promise: the values by which equalities hold are 2 to the free bits.
func TestFreeBitsByAllValues(t *testing.T) {
	d := dice{state: 233}
	told := make(map[string]int)
	fewValues(&d, 300, func(decls []impl.Decl, list []impl.Literal) {
		for i := range list {
			list[i].Equal = list[i].Equal || d.below(2) == 0
		}
		eqs := equalitiesOf(list, nil)
		free, count := impl.FreeBits(decls, list), int64(len(valuesOfAll(decls, eqs)))
		if got := impl.FreeBits(decls, eqs); got != free || impl.CountAll(decls, eqs) != count {
			t.Fatalf("%v: %d are free, without inequalities %d, and %d values", list, free, got, impl.CountAll(decls, eqs))
		}
		if free < 0 && count != 0 || free >= 0 && count != 1<<free {
			t.Fatalf("%v: %d are free, and there are %d values", list, free, count)
		}
		told[fmt.Sprint(max(-1, min(2, free)))]++
	})
	for _, key := range []string{"-1", "0", "1", "2"} {
		if told[key] < 20 {
			t.Errorf("%s is too seldom: %v", key, told)
		}
	}
}

// What a check says is held against the values that are numbered.
func TestCheckByNumberedValues(t *testing.T) {
	d := dice{state: 234}
	told := make(map[string]int)
	fewValues(&d, 100, func(decls []impl.Decl, list []impl.Literal) {
		all := rowsTold(t, decls, list)
		for _, got := range []impl.Result{impl.Check(decls, list, manyVisits), impl.CheckParts(decls, list, manyVisits), impl.BlastCheck(decls, list, manyVisits)} {
			isOne := slices.ContainsFunc(all, func(rows []string) bool { return slices.Equal(rows, rowsOfValues(got.Values)) })
			if (got.Code == impl.CkSat) != (len(all) > 0) || (got.Code == impl.CkUnsat) != (len(all) == 0) || got.Code == impl.CkSat && !isOne {
				t.Fatalf("%v: %s, and there are %d values", list, resultText(got), len(all))
			}
		}
		if len(list) == 0 {
			return
		}
		last := len(list) - 1
		ahead := rowsTold(t, decls, list[:last])
		if is, code := impl.Entails(decls, list[:last], list[last], manyVisits); is != (len(ahead) == len(all)) || is != (code == impl.CkUnsat) {
			t.Fatalf("%v: %v, %s, and %d of %d values", list, is, codeNames[code], len(all), len(ahead))
		} else {
			told[fmt.Sprint("entailed ", is)]++
		}
		if len(all) == 0 {
			return
		}
		rows := all[d.below(len(all))]
		got := impl.Another(decls, list, valuesOfRows(rows), manyVisits)
		other := rowsOfValues(got.Values)
		isOther := slices.ContainsFunc(all, func(one []string) bool { return slices.Equal(one, other) && !slices.Equal(one, rows) })
		if (got.Code == impl.CkSat) != (len(all) > 1) || (got.Code == impl.CkUnsat) != (len(all) == 1) || got.Code == impl.CkSat && !isOther {
			t.Fatalf("%v, not %q: %s, and there are %d values", list, rows, resultText(got), len(all))
		}
		told[fmt.Sprint("another ", isOther)]++
	})
	for _, key := range []string{"entailed true", "entailed false", "another true", "another false"} {
		if told[key] < 15 {
			t.Errorf("%s is too seldom: %v", key, told)
		}
	}
}

// Without inequalities a check needs no visit, and has values where any are numbered.
func TestCheckOfEqualitiesByNumberedValues(t *testing.T) {
	d := dice{state: 235}
	told := make(map[bool]int)
	fewValues(&d, 150, func(decls []impl.Decl, list []impl.Literal) {
		eqs := equalitiesOf(list, nil)
		got := impl.Check(decls, eqs, 0)
		if is := impl.CountAll(decls, eqs) > 0; got.Visits != 0 || (got.Code == impl.CkSat) != is || (got.Code == impl.CkUnsat) == is {
			t.Fatalf("%v: %s, and there are %d values", eqs, resultText(got), impl.CountAll(decls, eqs))
		} else {
			told[is]++
		}
	})
	if told[true] < 50 || told[false] < 20 {
		t.Errorf("too seldom: %v", told)
	}
}

// What follows from equalities is held against the values that are numbered.
func TestImpliedByNumberedValues(t *testing.T) {
	d := dice{state: 236}
	told := make(map[string]int)
	fewValues(&d, 100, func(decls []impl.Decl, list []impl.Literal) {
		if len(decls) == 0 {
			return
		}
		for i := range list {
			list[i].Equal = list[i].Equal || d.below(3) == 0
		}
		all := rowsTold(t, decls, equalitiesOf(list, nil))
		s, u := thrownSides(&d, decls, 2)
		if l := list[d.below(len(list))]; d.below(3) == 0 {
			s, u = l.T, l.S
		}
		if len(all) == 0 {
			wantCode(t, "no values", decls, list, s, u, impl.ImClash)
			told["clash"]++
			return
		}
		checkImpliedRows(t, decls, list, s, u, all, told)
	})
	for _, key := range []string{"clash", "same true", "same false", "forced", "not forced", "the same variables", "tied"} {
		if told[key] < 20 {
			t.Errorf("%s is too seldom: %v", key, told)
		}
	}
}

// checkImpliedRows holds what follows against all rows by which the equalities hold.
func checkImpliedRows(t *testing.T, decls []impl.Decl, list []impl.Literal, s, u impl.Term, all [][]string, told map[string]int) {
	t.Helper()
	unlike := slices.ContainsFunc(all, func(rows []string) bool { return !holdByRows([]impl.Literal{literal(1, true, s, u)}, rows) })
	is, code := impl.Same(decls, list, s, u)
	if is == unlike || code != impl.ImOk {
		t.Fatalf("%v: %v and %v: %v, %d", list, s, u, is, code)
	}
	told[fmt.Sprint("same ", is)]++
	mask, value, code := impl.Forced(decls, list, s)
	want := forcedByRows(all, s)
	if forcedText(mask, value) != want || code != impl.ImOk {
		t.Fatalf("%v forces %s of %v, %d, want %s", list, forcedText(mask, value), s, code, want)
	}
	told["not forced"] += strings.Count(want, ".")
	told["forced"] += len(want) - strings.Count(want, ".")
	sets, code := impl.SameVars(decls, list)
	if want := sameVarsByRows(decls, all); !sameLists(sets, want) || code != impl.ImOk {
		t.Fatalf("%v: the same are %v, %d, want %v", list, sets, code, want)
	}
	told["the same variables"] += len(sets)
	ids, code := impl.Tied(decls, list, s)
	ties := equalitiesOf(list, append([]int64{0}, ids...))
	if got := forcedByRows(rowsTold(t, decls, ties), s); got != want || code != impl.ImOk {
		t.Fatalf("%v: %v forces %s of %v, %d, and all %s", list, ids, got, s, code, want)
	}
	told["tied"] += len(ids)
}

func TestCountsRefuse(t *testing.T) {
	narrow := []impl.Decl{{Name: "a", Width: 4}, {Name: "b", Width: 2}, {Name: "c", Width: 1}, {Name: "cat", Width: 3}, {Name: "x9", Width: 1}, {Name: "w", Width: 3}}
	for what, list := range wrongLists() {
		if got := impl.FreeBits(someDecls(), list); got != -1 {
			t.Errorf("%s: %d are free", what, got)
		}
		wantNoCount(t, what, someDecls(), list)
		if strings.Contains(what, "long") {
			// a side needs no flat form to be counted
			if got := impl.CountAll(narrow, list); got != int64(len(valuesOfAll(narrow, list))) {
				t.Errorf("%s: %d", what, got)
			}
			continue
		}
		wantNoCount(t, what, narrow, list)
	}
	for _, wrong := range wrongDecls() {
		for _, list := range [][]impl.Literal{nil, {literal(1, true, term(constant("1")), term(constant("0")))}, {literal(1, true, term(variable(0)), term(variable(0)))}} {
			wantNoCount(t, "wrong decls", wrong, list)
			if got := impl.FreeBits(wrong, list); got != -1 {
				t.Errorf("wrong decls: %d are free", got)
			}
		}
	}
	for _, wrong := range [][]impl.Decl{{{Name: "A", Width: 2}}, {{Name: "a", Width: 2}, {Name: "a", Width: 2}}, {{Name: "a", Width: 2}, {Name: "b", Width: 0}}, {{Name: "a", Width: 2}, {Name: "b", Width: -1}}} {
		wantNoCount(t, "wrong decls of a few bits", wrong, nil)
	}
	full := wrongLists()["61 literals"]
	if got, free := impl.CountAll(narrow, full[:60]), impl.FreeBits(narrow, full[:60]); got != 16384 || free != 14 {
		t.Errorf("60 literals: %d, and %d are free", got, free)
	}
	full[59].Equal = false
	if got, free := impl.CountAll(narrow, full[:60]), impl.FreeBits(narrow, full[:60]); got != 0 || free != 14 {
		t.Errorf("60 literals: %d, and %d are free", got, free)
	}
	// each of sixty takes one value away
	var some []string
	for i := range 60 {
		some = append(some, fmt.Sprintf("(cat x9 w b) ! #b%06b", i))
	}
	list := readLiterals(t, narrow, some...)
	if got := impl.CountAll(narrow, list); got != 4<<8 {
		t.Errorf("60 literals: %d", got)
	}
	if values, ok := impl.NthValues(narrow, list, 4<<8-1); !ok || strings.Join(rowsOfValues(values), "") != strings.Repeat("1", 14) {
		t.Errorf("60 literals: %q, %v", rowsOfValues(values), ok)
	}
}

func TestCountsKeep(t *testing.T) {
	d := dice{state: 237}
	narrowLists(&d, 80, func(decls []impl.Decl, list []impl.Literal) {
		keeps(t, impl.FreeBits, decls, list)
		keeps(t, impl.CountAll, decls, list)
		keeps(t, impl.NthValues, decls, list, int64(d.below(9)))
		keeps(t, impl.NthValues, decls, []impl.Literal(nil), int64(d.below(200)))
	})
	wide := manyDecls(2, 70)
	list := thrownRowsOfParts(&d, wide, 5, 2)
	keeps(t, impl.FreeBits, wide, list)
	keeps(t, impl.CountAll, wide, list)
	keeps(t, impl.NthValues, wide, list, int64(0))
}

// However its workers run, a call has the same answer, and none is left behind it.
func TestCountAllEndsItsWorkers(t *testing.T) {
	decls := manyDecls(2, 7)
	list := readLiterals(t, decls, "v0 ! v1", "(part 3 0 v0) ! #x0", "(part 6 6 v1) = #b1")
	want := int64(len(valuesOfAll(decls, list)))
	before := runtime.NumGoroutine()
	for range 300 {
		if got := impl.CountAll(decls, list); got != want {
			t.Fatalf("%d, want %d", got, want)
		}
		if got := impl.CountAll(nil, nil); got != 1 {
			t.Fatalf("no variables: %d", got)
		}
	}
	for tries := 0; runtime.NumGoroutine() > before; tries++ {
		if tries == 100000 {
			t.Fatalf("%d, then %d", before, runtime.NumGoroutine())
		}
		runtime.Gosched()
	}
}
