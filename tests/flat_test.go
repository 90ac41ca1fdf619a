package tests

import (
	"fmt"
	"math"
	"slices"
	"strings"
	"testing"

	"loop.example/g00081/impl"
)

func TestFlatConstants(t *testing.T) {
	if impl.MaxSegs != 2000 {
		t.Errorf("MaxSegs is %d", impl.MaxSegs)
	}
}

func TestFlatOkByHand(t *testing.T) {
	decls := someDecls() // a 4, b 2, c 1, cat 3, x9 64, w 65
	valued := func(s impl.Seg, b impl.Bits) impl.Seg {
		s.Value = b
		return s
	}
	for _, c := range []struct {
		what string
		f    []impl.Seg
		want bool
	}{
		{"none", nil, false}, {"none", form(), false},
		{"a variable", form(seg(0, 0, 4)), true}, {"its lowest bit", form(seg(0, 0, 1)), true}, {"its highest bit", form(seg(0, 3, 1)), true}, {"a variable of 65", form(seg(5, 0, 65)), true},
		{"a constant", form(fixed("0")), true}, {"a constant of 65", form(fixed(strings.Repeat("01", 33))), true},
		{"two constants", form(fixed("0"), fixed("1")), false}, {"the same constant twice", form(fixed("01"), fixed("01")), false}, {"constants apart", form(fixed("0"), seg(2, 0, 1), fixed("0")), true}, {"two constants behind", form(seg(2, 0, 1), fixed("0"), fixed("0")), false},
		{"two halves", form(seg(0, 0, 2), seg(0, 2, 2)), false}, {"two halves, turned", form(seg(0, 2, 2), seg(0, 0, 2)), true}, {"three and one", form(seg(0, 0, 3), seg(0, 3, 1)), false}, {"inner ones", form(seg(0, 1, 1), seg(0, 2, 1)), false}, {"with one left out", form(seg(0, 0, 1), seg(0, 2, 1)), true}, {"over one another", form(seg(0, 0, 3), seg(0, 2, 2)), true},
		{"the same twice", form(seg(0, 0, 4), seg(0, 0, 4)), true}, {"the next bits of another one", form(seg(0, 0, 2), seg(3, 2, 1)), true}, {"halves apart", form(seg(0, 0, 2), fixed("1"), seg(0, 2, 2)), true}, {"halves behind", form(fixed("1"), seg(1, 0, 2), seg(0, 0, 2), seg(0, 2, 2)), false},
		{"no bits", form(seg(0, 0, 0)), false}, {"no bits at the end", form(seg(0, 4, 0)), false}, {"one too wide", form(seg(0, 0, 5)), false}, {"one outside", form(seg(0, 1, 4)), false}, {"all outside", form(seg(0, 4, 1)), false}, {"below 0", form(seg(0, -1, 1)), false}, {"from below 0", form(seg(0, -1, 4)), false}, {"a width below 0", form(seg(0, 3, -1)), false},
		{"a Var that is none", form(seg(6, 0, 1)), false}, {"a Var of -2", form(seg(-2, 0, 1)), false}, {"a Var of -2 with a Value", form(valued(seg(-2, 0, 1), bitsOfRow("1"))), false},
		{"a variable with a Value", form(valued(seg(0, 0, 4), bitsOfRow("0101"))), false}, {"a variable with words", form(valued(seg(0, 0, 4), impl.Bits{Words: []uint64{0}})), false}, {"a variable with a width", form(valued(seg(0, 0, 4), impl.Bits{Width: 4})), false}, {"a variable with an empty list", form(valued(seg(0, 0, 4), impl.Bits{Words: []uint64{}})), true},
		{"a constant without a Value", form(seg(-1, 0, 1)), false}, {"a constant with a Low", form(valued(seg(-1, 1, 1), bitsOfRow("1"))), false}, {"a constant with a Low below 0", form(valued(seg(-1, -1, 1), bitsOfRow("1"))), false}, {"a constant of another width", form(valued(seg(-1, 0, 1), bitsOfRow("01"))), false}, {"a constant of a lesser width", form(valued(seg(-1, 0, 3), bitsOfRow("01"))), false}, {"a constant of no width", form(seg(-1, 0, 0)), false}, {"a constant with a bit above", form(valued(seg(-1, 0, 1), impl.Bits{Width: 1, Words: []uint64{2}})), false},
		{"the last one is wrong", form(seg(0, 0, 4), seg(1, 0, 2), seg(1, 0, 3)), false},
		{"Low and Width that wrap", form(seg(0, math.MaxInt64, math.MaxInt64)), false}, {"a Low that wraps", form(seg(0, math.MaxInt64, 1)), false}, {"a Width that wraps", form(seg(0, 1, math.MaxInt64)), false}, {"a sum that fits by wrapping", form(seg(0, math.MinInt64, math.MinInt64)), false}, {"the least Low", form(seg(0, math.MinInt64, 1)), false}, {"the least Width", form(seg(0, 0, math.MinInt64)), false}, {"the least Var", form(seg(math.MinInt64, 0, 1)), false}, {"the greatest Var", form(seg(math.MaxInt64, 0, 1)), false},
		{"widths that come back to 1", form(seg(0, 0, math.MaxInt64), seg(1, 0, math.MaxInt64), seg(0, 0, 3)), false},
	} {
		if impl.FlatOk(decls, c.f) != c.want || rightForm(decls, c.f) != c.want {
			t.Errorf("%s: want %v", c.what, c.want)
		}
		checkForm(t, decls, c.f)
	}
}

// checkForm holds all that is told of one form against the picture of it.
func checkForm(t *testing.T, decls []impl.Decl, f []impl.Seg) {
	t.Helper()
	if !rightForm(decls, f) {
		checkWrongForm(t, decls, f)
		return
	}
	if !impl.FlatOk(decls, f) {
		t.Fatalf("%v is right", f)
	}
	wires := wiresOfForm(f)
	rows := thrownRows(&dice{state: uint64(len(f))}, decls)
	b, ok := impl.FlatEval(decls, valuesOfRows(rows), f)
	wantRow(t, "the value of a form", b, ok, rowOfWires(rows, wires))
	x, ok := impl.Unflat(decls, f)
	want := termOfForm(decls, f)
	if ok != (len(want.Nodes) <= 400) || ok && !sameTerm(x, want) || !ok && len(x.Nodes) != 0 {
		t.Fatalf("%v, %v is the term of %v, want %v", x, ok, f, want)
	}
	if ok {
		back, ok := impl.Flatten(decls, x)
		if !ok || !sameForm(back, f) {
			t.Fatalf("%v comes back as %v, %v", f, back, ok)
		}
	}
	width := int64(len(wires))
	for _, at := range []int64{0, width / 3, width / 2, width - 2} {
		if at >= 0 && at < width-1 {
			checkPartsJoined(t, decls, f, at)
		}
	}
	for _, c := range [][2]int64{{width, 0}, {width, width}, {width, width - 1}, {0, -1}, {-1, -1}, {width - 1, -1}, {width - 2, width - 1}, {math.MaxInt64, 0}, {0, math.MinInt64}, {math.MinInt64, math.MinInt64}, {math.MaxInt64, math.MaxInt64}, {math.MinInt64, 0}, {math.MaxInt64, math.MinInt64}} {
		part, ok := impl.FlatPart(decls, f, c[0], c[1])
		wantNoForm(t, fmt.Sprint("part ", c), part, ok)
	}
	all, ok := impl.FlatPart(decls, f, width-1, 0)
	wantForm(t, "all bits", all, ok, f)
}

// checkPartsJoined cuts a form behind its bit at and puts it together again.
func checkPartsJoined(t *testing.T, decls []impl.Decl, f []impl.Seg, at int64) {
	t.Helper()
	wires := wiresOfForm(f)
	low, ok := impl.FlatPart(decls, f, at, 0)
	wantForm(t, "the lower part", low, ok, formOfWires(wires[:at+1]))
	high, ok := impl.FlatPart(decls, f, int64(len(wires))-1, at+1)
	wantForm(t, "the upper part", high, ok, formOfWires(wires[at+1:]))
	back, ok := impl.FlatJoin(decls, high, low)
	wantForm(t, "joined again", back, ok, f)
}

func wantForm(t *testing.T, what string, got []impl.Seg, ok bool, want []impl.Seg) {
	t.Helper()
	if !ok || !sameForm(got, want) {
		t.Fatalf("%s: %v, %v, want %v", what, short(fmt.Sprint(got)), ok, short(fmt.Sprint(want)))
	}
}

func wantNoForm(t *testing.T, what string, got []impl.Seg, ok bool) {
	t.Helper()
	if ok || len(got) != 0 {
		t.Fatalf("%s: %v, %v, want nothing and false", what, short(fmt.Sprint(got)), ok)
	}
}

func checkWrongForm(t *testing.T, decls []impl.Decl, f []impl.Seg) {
	t.Helper()
	if impl.FlatOk(decls, f) {
		t.Fatalf("%v is told right", f)
	}
	part, ok := impl.FlatPart(decls, f, 0, 0)
	wantNoForm(t, "a part of a wrong form", part, ok)
	fine := form(fixed("1"))
	for _, pair := range [][2][]impl.Seg{{f, fine}, {fine, f}, {f, f}} {
		joined, ok := impl.FlatJoin(decls, pair[0], pair[1])
		wantNoForm(t, "a wrong form joined", joined, ok)
	}
	if x, ok := impl.Unflat(decls, f); ok || len(x.Nodes) != 0 {
		t.Fatalf("%v, %v of a wrong form %v", x, ok, f)
	}
	var values []impl.Bits
	if rightDecls(decls) {
		values = valuesOfRows(thrownRows(&dice{state: 5}, decls))
	}
	b, ok := impl.FlatEval(decls, values, f)
	wantNoBits(t, "a wrong form's value", b, ok)
}

func TestFlatOkAtItsLimits(t *testing.T) {
	decls := []impl.Decl{{Name: "a", Width: 2}, {Name: "b", Width: 1}, {Name: "c", Width: 4096}, {Name: "d", Width: 3}}
	for _, c := range []struct {
		what string
		f    []impl.Seg
		want bool
	}{
		{"1999", slices.Repeat(form(seg(1, 0, 1)), 1999), true}, {"2000", slices.Repeat(form(seg(1, 0, 1)), 2000), true}, {"2001", slices.Repeat(form(seg(1, 0, 1)), 2001), false},
		{"1000 pairs", slices.Repeat(form(fixed("0"), seg(1, 0, 1)), 1000), true}, {"1000 pairs and one", append(slices.Repeat(form(fixed("0"), seg(1, 0, 1)), 1000), fixed("1")), false},
		{"4096 bits", form(seg(2, 0, 4096)), true}, {"4096 bits in all", form(seg(2, 0, 4095), fixed("0")), true}, {"4097 bits in all", form(seg(2, 0, 4096), fixed("0")), false}, {"4097 bits of one", form(seg(2, 1, 4095), seg(2, 1, 2)), false}, {"twice 2048", form(seg(2, 0, 2048), seg(2, 0, 2048)), true}, {"2048 and 2049", form(seg(2, 0, 2048), seg(2, 0, 2049)), false}, {"a constant of 4096", form(fixed(strings.Repeat("1", 4096))), true},
		{"2000 of 2 bits", slices.Repeat(form(seg(0, 0, 2)), 2000), true}, {"4096 bits in 2000", append(slices.Repeat(form(seg(0, 0, 2)), 1904), slices.Repeat(form(seg(3, 0, 3)), 96)...), true}, {"4097 bits in 2000", append(slices.Repeat(form(seg(0, 0, 2)), 1903), slices.Repeat(form(seg(3, 0, 3)), 97)...), false},
		{"all too many", slices.Repeat(form(seg(2, 0, 4096)), 3000), false},
	} {
		if impl.FlatOk(decls, c.f) != c.want {
			t.Errorf("%s: want %v", c.what, c.want)
		}
		checkForm(t, decls, c.f)
	}
}

func TestFlatOkOfChangedForms(t *testing.T) {
	decls := someDecls()
	d := dice{state: 71}
	told := [2]int{}
	for range 60 {
		f := thrownForm(&d, decls, 6)
		checkForm(t, decls, f)
		for _, g := range changedForms(f) {
			if rightForm(decls, g) {
				told[1]++
			} else {
				told[0]++
			}
			checkForm(t, decls, g)
		}
	}
	if told[0] < 1000 || told[1] < 1000 {
		t.Errorf("too seldom: %v", told)
	}
}

func TestFlatByWrongDecls(t *testing.T) {
	f := form(seg(0, 0, 1))
	x := term(variable(0))
	for _, decls := range [][]impl.Decl{nil, {{Name: "a", Width: 0}}, {{Name: "A", Width: 1}}, {{Name: "a", Width: 4097}}, {{Name: "a", Width: 1}, {Name: "a", Width: 1}}, manyDecls(61, 1), manyDecls(60, 334)} {
		checkWrongForm(t, decls, f)
		if len(decls) > 0 {
			checkWrongForm(t, decls, form(fixed("0")))
		}
		got, ok := impl.Flatten(decls, x)
		wantNoForm(t, "wrong decls", got, ok)
	}
	checkForm(t, nil, form(fixed("01")))
	checkForm(t, []impl.Decl{}, form(fixed("01")))
}

func TestFlattenByHand(t *testing.T) {
	decls := someDecls() // a 4, b 2, c 1, cat 3, x9 64, w 65
	ones := strings.Repeat("1", 64)
	for _, c := range []struct {
		text string
		want []impl.Seg
	}{
		{"a", form(seg(0, 0, 4))}, {"#b011", form(fixed("011"))}, {"(part 3 3 a)", form(seg(0, 3, 1))}, {"(part 2 1 a)", form(seg(0, 1, 2))}, {"(part 1 1 #b010)", form(fixed("1"))},
		{"(cat a b)", form(seg(1, 0, 2), seg(0, 0, 4))}, {"(cat a a)", form(seg(0, 0, 4), seg(0, 0, 4))},
		// constants that come to stand next to one another
		{"(cat #b01 #b1)", form(fixed("011"))}, {"(cat #b1 #b0 #b0)", form(fixed("100"))}, {"(cat #b1 c #b0 #b11)", form(fixed("011"), seg(2, 0, 1), fixed("1"))},
		{"(rep 3 #b01)", form(fixed("010101"))}, {"(rep 2 (cat #b1 c #b0))", form(fixed("0"), seg(2, 0, 1), fixed("01"), seg(2, 0, 1), fixed("1"))},
		{"(left 1 (cat #b1 c #b0))", form(fixed("01"), seg(2, 0, 1))}, {"(right 1 (cat #b1 c #b0))", form(seg(2, 0, 1), fixed("01"))}, {"(left 2 (cat c #b0 b #b1))", form(fixed("0"), seg(2, 0, 1), fixed("1"), seg(1, 0, 2))},
		{"(sign 3 #b01)", form(fixed("00001"))}, {"(sign 3 #b10)", form(fixed("11110"))}, {"(sign 2 (cat #b10 c))", form(seg(2, 0, 1), fixed("1110"))}, {"(zero 2 (cat #b10 c))", form(seg(2, 0, 1), fixed("0010"))}, {"(zero 2 c)", form(seg(2, 0, 1), fixed("00"))}, {"(zero 0 c)", form(seg(2, 0, 1))}, {"(sign 0 #b1)", form(fixed("1"))},
		{"(cat #b1 (zero 2 c))", form(seg(2, 0, 1), fixed("100"))}, {"(part 2 0 (cat c #b0 (cat #b1 (part 0 0 #b10))))", form(fixed("010"))}, {"(rep 65 #b1)", form(fixed(ones + "1"))}, {"(cat #xffffffffffffffff #xffffffffffffffff)", form(fixed(ones + ones))}, {"(cat #b0 #xffffffffffffffff #b0)", form(fixed("0" + ones + "0"))},
		// a variable that comes to stand next to its own next bits
		{"(cat (part 3 2 a) (part 1 0 a))", form(seg(0, 0, 4))}, {"(cat (part 1 0 a) (part 3 2 a))", form(seg(0, 2, 2), seg(0, 0, 2))}, {"(cat (part 3 3 a) (part 2 2 a) (part 1 1 a))", form(seg(0, 1, 3))}, {"(cat (part 3 2 a) (part 0 0 a))", form(seg(0, 0, 1), seg(0, 2, 2))},
		{"(left 1 a)", form(seg(0, 3, 1), seg(0, 0, 3))}, {"(left 4 a)", form(seg(0, 0, 4))}, {"(right 1 a)", form(seg(0, 1, 3), seg(0, 0, 1))}, {"(right 4096 a)", form(seg(0, 0, 4))}, {"(left 4095 a)", form(seg(0, 1, 3), seg(0, 0, 1))}, {"(left 1 (right 1 a))", form(seg(0, 0, 4))}, {"(left 1 (left 1 (left 1 (left 1 a))))", form(seg(0, 0, 4))}, {"(left 3 (left 3 a))", form(seg(0, 2, 2), seg(0, 0, 2))}, {"(right 1 c)", form(seg(2, 0, 1))},
		{"(rep 2 (left 2 a))", form(seg(0, 2, 2), seg(0, 0, 4), seg(0, 0, 2))}, {"(part 5 2 (rep 2 (left 2 a)))", form(seg(0, 0, 4))}, {"(rep 2 (left 1 b))", form(seg(1, 1, 1), seg(1, 0, 2), seg(1, 0, 1))}, {"(rep 2 c)", form(seg(2, 0, 1), seg(2, 0, 1))}, {"(rep 1 a)", form(seg(0, 0, 4))},
		{"(sign 2 a)", form(seg(0, 0, 4), seg(0, 3, 1), seg(0, 3, 1))}, {"(sign 1 (part 2 0 a))", form(seg(0, 0, 3), seg(0, 2, 1))}, {"(cat (part 3 3 a) (sign 1 (part 2 0 a)))", form(seg(0, 0, 3), seg(0, 2, 2))}, {"(sign 2 (zero 1 a))", form(seg(0, 0, 4), fixed("000"))},
		{"(part 64 63 (cat c x9))", form(seg(4, 63, 1), seg(2, 0, 1))}, {"(left 64 w)", form(seg(5, 1, 64), seg(5, 0, 1))},
	} {
		got, ok := impl.Flatten(decls, readTerm(t, decls, c.text))
		wantForm(t, c.text, got, ok, c.want)
		checkForm(t, decls, c.want)
	}
}

// checkFlat holds the form of a term against its wires.
func checkFlat(t *testing.T, decls []impl.Decl, x impl.Term) {
	t.Helper()
	if widthsByTable(decls, x) == nil {
		got, ok := impl.Flatten(decls, x)
		wantNoForm(t, "a wrong term", got, ok)
		return
	}
	want := formByTable(decls, x)
	got, ok := impl.Flatten(decls, x)
	if want == nil {
		wantNoForm(t, "a form that is too long", got, ok)
		return
	}
	wantForm(t, "a term's form", got, ok, want)
	if !impl.FlatOk(decls, got) {
		t.Fatalf("the form of %v is not right: %v", x, got)
	}
	rows := thrownRows(&dice{state: uint64(len(x.Nodes))}, decls)
	b, ok := impl.FlatEval(decls, valuesOfRows(rows), got)
	wantRow(t, "the form's value", b, ok, lastOf(rowsByTable(rows, x)))
}

func TestFlattenThrownTerms(t *testing.T) {
	d := dice{state: 72}
	decls := someDecls()
	for range 5000 {
		x := thrownTerm(&d, decls, 16)
		checkFlat(t, decls, x)
		f, _ := impl.Flatten(decls, x)
		if g, ok := impl.Flatten(decls, impl.Share(decls, x)); !ok || !sameForm(f, g) {
			t.Fatalf("shared %v has the form %v, %v", x, g, ok)
		}
	}
	for range 600 {
		f, _ := impl.Flatten(decls, thrownTerm(&d, decls, 16))
		checkForm(t, decls, f)
	}
}

func TestFlattenByAllValues(t *testing.T) {
	d := dice{state: 73}
	decls := []impl.Decl{{Name: "a", Width: 3}, {Name: "b", Width: 2}, {Name: "c", Width: 1}}
	for range 300 {
		x := thrownTerm(&d, decls, 12)
		f, ok := impl.Flatten(decls, x)
		if !ok {
			t.Fatalf("%v has no form", x)
		}
		for _, all := range allRows(6) {
			values := valuesOfRows([]string{all[:3], all[3:5], all[5:]})
			a, _ := impl.Eval(decls, values, x)
			b, ok := impl.FlatEval(decls, values, f)
			if !ok || !sameBits(a, b) {
				t.Fatalf("%v and its form %v by %s: %v and %v", x, f, all, a, b)
			}
		}
	}
}

func TestFlattenRefusesWrongTerms(t *testing.T) {
	d := dice{state: 74}
	decls := someDecls()
	for range 6 {
		for _, x := range wrongTerms(thrownTerm(&d, decls, 8)) {
			checkFlat(t, decls, x)
		}
	}
	checkFlat(t, decls, impl.Term{})
	checkFlat(t, decls, chain(variable(0), 399))
	checkFlat(t, decls, chain(variable(0), 400))
}

func TestFlattenAtItsLimits(t *testing.T) {
	decls := []impl.Decl{{Name: "a", Width: 1}, {Name: "b", Width: 2}, {Name: "c", Width: 4096}}
	row := (&dice{state: 9}).row(4096)
	for _, c := range []struct {
		what  string
		x     impl.Term
		count int // of segments; 0 where there is no form
	}{
		{"rep 2000", term(variable(0), one(impl.TmRep, 2000, 0)), 2000}, {"rep 2001", term(variable(0), one(impl.TmRep, 2001, 0)), 0}, {"rep 4096", term(variable(0), one(impl.TmRep, 4096, 0)), 0}, {"rep 2000 of two bits", term(variable(1), one(impl.TmRep, 2000, 0)), 2000}, {"rep 2001 of two bits", term(variable(1), one(impl.TmRep, 2001, 0)), 0},
		{"sign 1999", term(variable(0), one(impl.TmSign, 1999, 0)), 2000}, {"sign 2000", term(variable(0), one(impl.TmSign, 2000, 0)), 0}, {"sign 4095", term(variable(0), one(impl.TmSign, 4095, 0)), 0},
		{"cat of 2000", term(variable(0), cat(make([]int64, 2000)...)), 2000}, {"cat of 2001", term(variable(0), cat(make([]int64, 2001)...)), 0},
		{"4096 ones", term(constant("1"), one(impl.TmRep, 4096, 0)), 1}, {"a sign of 4095", term(constant("1"), one(impl.TmSign, 4095, 0)), 1}, {"zero 4095", term(variable(0), one(impl.TmZero, 4095, 0)), 2}, {"a cat of 4096 constants", term(constant("1"), cat(make([]int64, 4096)...)), 1}, {"a wide constant", term(constant(row)), 1},
		{"a wide variable", term(variable(2)), 1}, {"turned", term(variable(2), one(impl.TmLeft, 4095, 0)), 2}, {"turned round", term(variable(2), one(impl.TmLeft, 4096, 0)), 1},
		// b turned by 1 has two segments, of which neighbours become one: n times n + 1
		{"1998 and one", term(variable(1), one(impl.TmLeft, 1, 0), one(impl.TmRep, 1998, 1)), 1999}, {"1999 and one", term(variable(1), one(impl.TmLeft, 1, 0), one(impl.TmRep, 1999, 1)), 2000}, {"2000 and one", term(variable(1), one(impl.TmLeft, 1, 0), one(impl.TmRep, 2000, 1)), 0},
		// the last segment has no place of its own any more, but becomes one with the one ahead
		{"2000 and its next bit", term(variable(1), part(1, 1, 0), part(0, 0, 0), one(impl.TmRep, 2000, 2), cat(1, 3)), 2000},
		{"2000 and its first bit", term(variable(1), part(0, 0, 0), one(impl.TmRep, 2000, 1), cat(1, 2)), 0},
		{"a constant is the last of 2000", term(variable(0), constant("1"), one(impl.TmRep, 1999, 0), cat(1, 2), one(impl.TmZero, 2000, 3)), 2000},
		{"a constant is one too many", term(variable(0), constant("1"), one(impl.TmRep, 2000, 0), cat(1, 2)), 0},
		// an inner node has too many, the last one few
		{"a part of too many", term(variable(0), one(impl.TmRep, 2001, 0), part(0, 0, 1)), 0}, {"a part of enough", term(variable(0), one(impl.TmRep, 2000, 0), part(0, 0, 1)), 1}, {"a part of too many that is a whole", term(variable(0), one(impl.TmSign, 2000, 0), part(1999, 0, 1)), 0},
		{"far inside", term(variable(0), one(impl.TmRep, 2001, 0), part(3, 1, 1), constant("101"), cat(3, 2), part(5, 3, 4)), 0},
		{"every other bit", term(variable(0), constant("0"), cat(0, 1), one(impl.TmRep, 1000, 2)), 2000}, {"every other bit, and one", term(variable(0), constant("0"), cat(0, 1), one(impl.TmRep, 1000, 2), cat(3, 0)), 0}, {"every other bit, turned", term(variable(0), constant("0"), cat(0, 1), one(impl.TmRep, 1000, 2), one(impl.TmLeft, 1, 3)), 2000},
	} {
		f, ok := impl.Flatten(decls, c.x)
		if ok != (c.count > 0) || len(f) != c.count {
			t.Errorf("%s: %v with %d segments, want %d", c.what, ok, len(f), c.count)
		}
		checkFlat(t, decls, c.x)
	}
}

// A term of 400 nodes that are wide, each, is told in the time of its nodes.
func TestFlattenOfManyWideNodes(t *testing.T) {
	decls := []impl.Decl{{Name: "a", Width: 1}, {Name: "b", Width: 4096}}
	x := term(variable(0), constant("0"), cat(1, 0), one(impl.TmRep, 990, 2), one(impl.TmSign, 2116, 3))
	for len(x.Nodes) < 400 {
		last := int64(len(x.Nodes) - 1)
		x.Nodes = append(x.Nodes, []impl.TNode{one(impl.TmLeft, 3, last), one(impl.TmRight, 1, last), part(4000, 0, last), one(impl.TmZero, 95, last)}[len(x.Nodes)%4])
	}
	if f, ok := impl.Flatten(decls, x); !ok || len(f) < 1900 {
		t.Errorf("%d segments, %v", len(f), ok)
	}
	checkFlat(t, decls, x)
	y := term(constant("1"))
	for len(y.Nodes) < 399 {
		last := int64(len(y.Nodes) - 1)
		y.Nodes = append(y.Nodes, one(impl.TmSign, 4095, last), part(7, 7, last+1))
	}
	checkFlat(t, decls, y)
}

func TestFlatPartOfAllBits(t *testing.T) {
	d := dice{state: 75}
	decls := someDecls()[:4]
	for range 150 {
		f := thrownForm(&d, decls, 6)
		wires := wiresOfForm(f)
		width := int64(len(wires))
		for low := int64(-1); low <= width; low++ {
			for high := int64(-1); high <= width; high++ {
				got, ok := impl.FlatPart(decls, f, high, low)
				if 0 <= low && low <= high && high < width {
					wantForm(t, fmt.Sprint(high, low, f), got, ok, formOfWires(wires[low:high+1]))
				} else {
					wantNoForm(t, fmt.Sprint(high, low, f), got, ok)
				}
			}
		}
		for at := range width - 1 {
			checkPartsJoined(t, decls, f, at)
		}
	}
	wide := []impl.Decl{{Name: "a", Width: 4096}}
	for _, c := range [][2]int64{{0, 0}, {4095, 4095}, {4095, 0}, {4094, 1}, {64, 63}} {
		got, ok := impl.FlatPart(wide, form(seg(0, 0, 4096)), c[0], c[1])
		wantForm(t, fmt.Sprint(c), got, ok, form(seg(0, c[1], c[0]-c[1]+1)))
	}
}

func TestFlatJoinMakesOne(t *testing.T) {
	decls := someDecls()
	for _, c := range []struct{ high, low, want []impl.Seg }{
		{form(fixed("01")), form(fixed("1")), form(fixed("011"))}, {form(fixed("1")), form(fixed("10")), form(fixed("110"))},
		{form(seg(0, 2, 2)), form(seg(0, 0, 2)), form(seg(0, 0, 4))}, {form(seg(0, 0, 2)), form(seg(0, 2, 2)), form(seg(0, 2, 2), seg(0, 0, 2))}, {form(seg(0, 1, 1)), form(seg(0, 0, 1)), form(seg(0, 0, 2))},
		{form(seg(0, 2, 2)), form(seg(0, 0, 1)), form(seg(0, 0, 1), seg(0, 2, 2))}, {form(seg(3, 2, 1)), form(seg(0, 0, 2)), form(seg(0, 0, 2), seg(3, 2, 1))},
		{form(seg(0, 0, 4)), form(seg(0, 0, 4)), form(seg(0, 0, 4), seg(0, 0, 4))},
		{form(fixed("1"), seg(2, 0, 1)), form(seg(2, 0, 1), fixed("0")), form(seg(2, 0, 1), fixed("10"), seg(2, 0, 1))},
		{form(seg(0, 2, 1), fixed("1")), form(fixed("1"), seg(0, 1, 1)), form(fixed("1"), seg(0, 1, 2), fixed("1"))},
		{form(fixed(strings.Repeat("1", 64))), form(fixed(strings.Repeat("0", 64))), form(fixed(strings.Repeat("1", 64) + strings.Repeat("0", 64)))}, {form(fixed(strings.Repeat("1", 65))), form(fixed(strings.Repeat("0", 63))), form(fixed(strings.Repeat("1", 65) + strings.Repeat("0", 63)))},
	} {
		got, ok := impl.FlatJoin(decls, c.high, c.low)
		wantForm(t, fmt.Sprint(c), got, ok, c.want)
	}
	d := dice{state: 76}
	for range 3000 {
		high, low := thrownForm(&d, decls, 5), thrownForm(&d, decls, 5)
		got, ok := impl.FlatJoin(decls, high, low)
		wantForm(t, fmt.Sprint(high, low), got, ok, formOfWires(slices.Concat(wiresOfForm(low), wiresOfForm(high))))
	}
}

func TestFlatJoinAtItsLimits(t *testing.T) {
	decls := []impl.Decl{{Name: "a", Width: 1}, {Name: "b", Width: 4096}}
	ones := func(count int) []impl.Seg { return slices.Repeat(form(seg(0, 0, 1)), count) }
	for _, c := range []struct {
		what      string
		high, low []impl.Seg
		want      bool
	}{
		{"2000", ones(1000), ones(1000), true}, {"2001", ones(1000), ones(1001), false}, {"2001", ones(1001), ones(1000), false}, {"1 and 2000", ones(1), ones(2000), false}, {"1 and 1999", ones(1), ones(1999), true}, {"twice 2000", ones(2000), ones(2000), false},
		{"a constant in the middle", append(form(fixed("1")), ones(1000)...), append(ones(999), fixed("0")), true}, {"one too many with a constant in the middle", append(form(fixed("1")), ones(1000)...), append(ones(1000), fixed("0")), false},
		{"bits in the middle", append(form(seg(1, 1, 1)), ones(1000)...), append(ones(999), seg(1, 0, 1)), true}, {"2000 and what becomes one with the last", form(seg(1, 1, 1)), append(ones(1999), seg(1, 0, 1)), true}, {"2000 and what does not", form(seg(1, 2, 1)), append(ones(1999), seg(1, 0, 1)), false},
		{"4096 bits", form(seg(1, 0, 4095)), ones(1), true}, {"4097 bits", form(seg(1, 0, 4096)), ones(1), false}, {"4097 bits", ones(1), form(seg(1, 0, 4096)), false}, {"twice 2048", form(seg(1, 2048, 2048)), form(seg(1, 0, 2048)), true}, {"twice 4096", form(seg(1, 0, 4096)), form(seg(1, 0, 4096)), false}, {"constants of 4096", form(fixed(strings.Repeat("1", 4000))), form(fixed(strings.Repeat("0", 96))), true}, {"constants of 4097", form(fixed(strings.Repeat("1", 4000))), form(fixed(strings.Repeat("0", 97))), false},
	} {
		got, ok := impl.FlatJoin(decls, c.high, c.low)
		if c.want {
			wantForm(t, c.what, got, ok, formOfWires(slices.Concat(wiresOfForm(c.low), wiresOfForm(c.high))))
		} else {
			wantNoForm(t, c.what, got, ok)
		}
	}
}

func TestUnflatByHand(t *testing.T) {
	decls := someDecls()
	for _, c := range []struct {
		f     []impl.Seg
		text  string
		nodes impl.Term
	}{
		{form(seg(0, 0, 4)), "a", term(variable(0))}, {form(seg(2, 0, 1)), "c", term(variable(2))}, {form(fixed("01")), "#b01", term(constant("01"))}, {form(fixed("0001")), "#x1", term(constant("0001"))},
		{form(seg(0, 1, 2)), "(part 2 1 a)", term(variable(0), part(2, 1, 0))}, {form(seg(0, 0, 3)), "(part 2 0 a)", term(variable(0), part(2, 0, 0))}, {form(seg(0, 1, 3)), "(part 3 1 a)", term(variable(0), part(3, 1, 0))},
		{form(seg(0, 3, 1), seg(0, 0, 3)), "(cat (part 2 0 a) (part 3 3 a))", term(variable(0), part(2, 0, 0), part(3, 3, 0), cat(1, 2))},
		{form(seg(0, 0, 4), fixed("1"), seg(0, 0, 4)), "(cat a #b1 a)", term(variable(0), constant("1"), cat(0, 1, 0))},
		{form(fixed("1"), seg(1, 1, 1), fixed("1"), seg(1, 0, 1), seg(1, 0, 2)), "(cat b (part 0 0 b) #b1 (part 1 1 b) #b1)", term(variable(1), part(0, 0, 0), constant("1"), part(1, 1, 0), cat(0, 1, 2, 3, 2))},
		{form(seg(1, 0, 1), seg(0, 0, 4), seg(1, 0, 1)), "(cat (part 0 0 b) a (part 0 0 b))", term(variable(1), part(0, 0, 0), variable(0), cat(1, 2, 1))},
	} {
		x, ok := impl.Unflat(decls, c.f)
		if text := impl.WriteTerm(decls, x); !ok || text != c.text || !sameTerm(x, c.nodes) {
			t.Errorf("%v: %s, %v, want %s", c.f, text, ok, c.text)
		}
		checkForm(t, decls, c.f)
	}
}

// mixed has so many unlike constants of two bytes, each with a variable behind it.
func mixed(count int) []impl.Seg {
	var f []impl.Seg
	for i := range count {
		f = append(f, fixed(fmt.Sprintf("%09b", i)), seg(0, 0, 1))
	}
	return f
}

func TestUnflatAtItsLimit(t *testing.T) {
	decls := []impl.Decl{{Name: "a", Width: 1}, {Name: "b", Width: 2000}}
	var parts []impl.Seg
	for at := range int64(500) {
		parts = append(parts, seg(1, 2*at, 1))
	}
	for _, c := range []struct {
		what  string
		f     []impl.Seg
		nodes int
	}{
		{"398 constants, a variable, a cat", mixed(398), 400}, {"399 constants", mixed(399), 401}, {"398 constants and one that stood already", append(mixed(398), fixed("000000000")), 400}, {"398 constants and another one", append(mixed(398), fixed("1")), 401},
		{"398 parts", parts[:398], 400}, {"399 parts", parts[:399], 401}, {"500 parts", parts, 502},
		{"2000 that are the same", slices.Repeat(form(seg(0, 0, 1)), 2000), 2}, {"1000 pairs", slices.Repeat(form(fixed("1"), seg(0, 0, 1)), 1000), 3}, {"10 times 199 parts", slices.Repeat(parts[:199], 10), 201},
	} {
		x, ok := impl.Unflat(decls, c.f)
		if ok != (c.nodes <= 400) || ok && len(x.Nodes) != c.nodes || !ok && len(x.Nodes) != 0 {
			t.Errorf("%s: %v with %d nodes", c.what, ok, len(x.Nodes))
		}
		checkForm(t, decls, c.f)
	}
}

func TestFlatEvalRefusesValues(t *testing.T) {
	decls := someDecls()
	d := dice{state: 77}
	f := form(seg(0, 1, 2), fixed("1"))
	for place := range decls {
		for _, b := range append(wrongBits(), bitsOfRow(d.row(int(decls[place].Width)+1))) {
			values := valuesOfRows(thrownRows(&d, decls))
			values[place] = b
			got, ok := impl.FlatEval(decls, values, f)
			wantNoBits(t, "a wrong value", got, ok)
		}
	}
	values := valuesOfRows(thrownRows(&d, decls))
	for _, values := range [][]impl.Bits{nil, values[:5], append(values, bitsOfRow("1"))} {
		got, ok := impl.FlatEval(decls, values, f)
		wantNoBits(t, "another count of values", got, ok)
	}
	b, ok := impl.FlatEval(nil, nil, form(fixed("10")))
	wantRow(t, "no values", b, ok, "10")
}

func TestFlatKeeps(t *testing.T) {
	d := dice{state: 78}
	decls := someDecls()
	for range 300 {
		x := thrownTerm(&d, decls, 10)
		f, g := thrownForm(&d, decls, 6), thrownForm(&d, decls, 6)
		width := int64(len(wiresOfForm(f)))
		low := int64(d.below(int(width)))
		high := low + int64(d.below(int(width-low)))
		values := valuesOfRows(thrownRows(&d, decls))
		keeps(t, impl.FlatOk, decls, f)
		keeps(t, impl.Flatten, decls, x)
		keeps(t, impl.FlatPart, decls, f, high, low)
		keeps(t, impl.FlatJoin, decls, f, g)
		keeps(t, impl.FlatJoin, decls, form(fixed("1")), form(fixed(d.row(1+d.below(140)))))
		keeps(t, impl.Unflat, decls, f)
		keeps(t, impl.FlatEval, decls, values, f)
	}
	for _, f := range changedForms(thrownForm(&d, decls, 5)) {
		keeps(t, impl.FlatOk, decls, f)
		keeps(t, impl.FlatPart, decls, f, int64(0), int64(0))
		keeps(t, impl.FlatJoin, decls, f, f)
		keeps(t, impl.Unflat, decls, f)
		keeps(t, impl.FlatEval, decls, valuesOfRows(thrownRows(&d, decls)), f)
	}
}
