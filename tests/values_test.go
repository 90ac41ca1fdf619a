package tests

import (
	"fmt"
	"math"
	"slices"
	"strings"
	"testing"

	"loop.example/g00081/impl"
)

func TestValuesOk(t *testing.T) {
	decls := someDecls()
	d := dice{state: 1}
	fine := func() []impl.Bits { return valuesOfRows(thrownRows(&d, decls)) }
	if !impl.ValuesOk(decls, fine()) {
		t.Error("values are right")
	}
	if !impl.ValuesOk(nil, nil) || !impl.ValuesOk([]impl.Decl{}, []impl.Bits{}) {
		t.Error("no values for no decls are right")
	}
	x := term(constant("1"))
	l := impl.Literal{Id: 1, Equal: true, S: x, T: x}
	refused := func(what string, decls []impl.Decl, values []impl.Bits) {
		t.Helper()
		if impl.ValuesOk(decls, values) {
			t.Errorf("%s: values are right", what)
		}
		b, ok := impl.Eval(decls, values, x)
		wantNoBits(t, what, b, ok)
		if is, ok := impl.Holds(decls, values, l); is || ok {
			t.Errorf("%s: holds %v, %v", what, is, ok)
		}
		if got := impl.FirstFails(decls, values, []impl.Literal{l}); got != -1 {
			t.Errorf("%s: %d fails", what, got)
		}
		if got := impl.FirstFails(decls, values, nil); got != -1 {
			t.Errorf("%s: %d of none fails", what, got)
		}
	}
	refused("one less", decls, fine()[:5])
	refused("none", decls, nil)
	refused("one more", decls, append(fine(), bitsOfRow("0")))
	refused("some for none", nil, fine())
	for place := range decls {
		for _, b := range append(wrongBits(), bitsOfRow(d.row(int(decls[place].Width)+1))) {
			values := fine()
			values[place] = b
			refused(fmt.Sprint(place, b), decls, values)
		}
		if width := int(decls[place].Width); width > 1 {
			values := fine()
			values[place] = bitsOfRow(d.row(width - 1))
			refused("narrower", decls, values)
		}
	}
	swapped := fine()
	swapped[0], swapped[1] = swapped[1], swapped[0]
	refused("another order", decls, swapped)
	refused("wrong decls", []impl.Decl{{Name: "a", Width: 1}, {Name: "a", Width: 1}}, []impl.Bits{bitsOfRow("0"), bitsOfRow("0")})
	refused("a name that is none", []impl.Decl{{Name: "A", Width: 1}}, []impl.Bits{bitsOfRow("0")})
	if all := manyDecls(60, 333); !impl.ValuesOk(all, valuesOfRows(thrownRows(&d, all))) {
		t.Error("60 values are right")
	}
	all := manyDecls(61, 1)
	refused("61 values", all, valuesOfRows(thrownRows(&d, all)))
	wide := manyDecls(1, 4096)
	if !impl.ValuesOk(wide, valuesOfRows(thrownRows(&d, wide))) {
		t.Error("a value of 4096 bits is right")
	}
}

func TestEvalByHand(t *testing.T) {
	decls := someDecls()
	rows := []string{"1010", "01", "1", "110", strings.Repeat("1", 63) + "0", "1" + strings.Repeat("0", 64)}
	for _, c := range []struct{ text, want string }{
		{"a", "1010"}, {"cat", "110"}, {"#b011", "011"}, {"#xf0", "11110000"},
		{"(cat a b)", "101001"}, {"(cat b a)", "011010"}, {"(cat c c #b0 b)", "11001"},
		{"(part 3 3 a)", "1"}, {"(part 0 0 a)", "0"}, {"(part 2 1 a)", "01"}, {"(part 3 0 a)", "1010"},
		{"(zero 0 a)", "1010"}, {"(zero 3 a)", "0001010"}, {"(sign 0 a)", "1010"}, {"(sign 3 a)", "1111010"}, {"(sign 3 b)", "00001"},
		{"(left 0 a)", "1010"}, {"(left 1 cat)", "101"}, {"(left 2 cat)", "011"}, {"(left 3 cat)", "110"}, {"(left 4 cat)", "101"}, {"(left 4096 cat)", "101"}, {"(left 4095 cat)", "110"},
		{"(right 0 a)", "1010"}, {"(right 1 cat)", "011"}, {"(right 2 cat)", "101"}, {"(right 3 cat)", "110"}, {"(right 4 cat)", "011"}, {"(right 4096 cat)", "011"}, {"(right 4095 cat)", "110"},
		{"(left 4096 c)", "1"}, {"(right 4096 c)", "1"}, {"(right 4095 c)", "1"},
		{"(rep 1 b)", "01"}, {"(rep 3 b)", "010101"},
		{"(left 1 x9)", strings.Repeat("1", 62) + "01"}, {"(right 1 x9)", "0" + strings.Repeat("1", 63)}, {"(right 65 x9)", "0" + strings.Repeat("1", 63)},
		{"(left 1 w)", strings.Repeat("0", 64) + "1"}, {"(right 1 w)", "01" + strings.Repeat("0", 63)}, {"(right 131 w)", "01" + strings.Repeat("0", 63)},
		{"(cat x9 c)", strings.Repeat("1", 63) + "01"}, {"(part 64 63 (cat x9 c))", "11"},
	} {
		x := readTerm(t, decls, c.text)
		b, ok := impl.Eval(decls, valuesOfRows(rows), x)
		wantRow(t, c.text, b, ok, c.want)
	}
}

func TestEvalTurnsBothWays(t *testing.T) {
	d := dice{state: 9}
	for _, width := range []int{1, 2, 3, 5, 63, 64, 65, 127, 128, 129, 4095, 4096} {
		decls := []impl.Decl{{Name: "a", Width: int64(width)}}
		row := d.row(width)
		for _, by := range []int{0, 1, 2, 3, width / 2, width - 1, width, width + 1, 2*width - 1, 2 * width, 2*width + 1, 3*width + 2, 4095, 4096} {
			if by > 4096 {
				continue
			}
			for _, op := range []int64{impl.TmLeft, impl.TmRight} {
				x := term(variable(0), one(op, int64(by), 0))
				b, ok := impl.Eval(decls, []impl.Bits{bitsOfRow(row)}, x)
				wantRow(t, fmt.Sprint(op, by, width), b, ok, rowOfOne(x.Nodes[1], row))
			}
			back := term(variable(0), one(impl.TmLeft, int64(by), 0), one(impl.TmRight, int64(by), 1))
			b, ok := impl.Eval(decls, []impl.Bits{bitsOfRow(row)}, back)
			wantRow(t, fmt.Sprint("there and back", by, width), b, ok, row)
		}
	}
}

func TestEvalAtItsLimits(t *testing.T) {
	d := dice{state: 4}
	decls := []impl.Decl{{Name: "a", Width: 1}, {Name: "b", Width: 4096}, {Name: "c", Width: 7}, {Name: "d", Width: 64}}
	rows := thrownRows(&d, decls)
	values := valuesOfRows(rows)
	many := func(v int64, count int) impl.Term { return term(variable(v), cat(make([]int64, count)...)) }
	for i, x := range []impl.Term{
		many(0, 4096), many(2, 585), many(3, 64), many(3, 63),
		term(variable(0), one(impl.TmRep, 4096, 0)), term(variable(2), one(impl.TmRep, 585, 0)),
		term(variable(0), one(impl.TmZero, 4095, 0)), term(variable(0), one(impl.TmSign, 4095, 0)), term(variable(1), one(impl.TmSign, 0, 0)),
		term(variable(1), part(4095, 0, 0)), term(variable(1), part(4095, 4095, 0)), term(variable(1), part(4094, 1, 0)),
		term(variable(1), part(63, 0, 0), part(127, 64, 0), part(4095, 128, 0), cat(1, 2, 3)),
		chain(variable(1), 399), chain(constant(rows[1]), 399),
	} {
		b, ok := impl.Eval(decls, values, x)
		wantRow(t, fmt.Sprint(i), b, ok, lastOf(rowsByTable(rows, x)))
	}
	wide := term(variable(0))
	for len(wide.Nodes) < 400 {
		last := int64(len(wide.Nodes) - 1)
		wide.Nodes = append(wide.Nodes, cat(slices.Repeat([]int64{last}, 4096)...), part(7, 7, last+1))
	}
	wide.Nodes = wide.Nodes[:400]
	b, ok := impl.Eval(decls, values, wide)
	wantRow(t, "wide again and again", b, ok, strings.Repeat(rows[0], 4096))
}

func TestEvalThrownTerms(t *testing.T) {
	d := dice{state: 31}
	decls := someDecls()
	for range 6000 {
		x := thrownTerm(&d, decls, 16)
		rows := thrownRows(&d, decls)
		want := lastOf(rowsByTable(rows, x))
		b, ok := impl.Eval(decls, valuesOfRows(rows), x)
		wantRow(t, impl.WriteTerm(decls, x), b, ok, want)
		b, ok = impl.Eval(decls, valuesOfRows(rows), impl.Share(decls, x))
		wantRow(t, "shared", b, ok, want)
		if int64(len(want)) != impl.WidthOf(decls, x) {
			t.Fatalf("width %d of %d bits", impl.WidthOf(decls, x), len(want))
		}
	}
}

func literal(id int64, equal bool, s, t impl.Term) impl.Literal {
	return impl.Literal{Id: id, Equal: equal, S: s, T: t}
}

func TestLiteralsOkByIds(t *testing.T) {
	decls := someDecls()
	x := term(variable(0))
	for _, c := range []struct {
		ids  []int64
		want bool
	}{
		{nil, true}, {[]int64{1}, true}, {[]int64{0}, false}, {[]int64{-1}, false}, {[]int64{1000000}, true}, {[]int64{1000001}, false}, {[]int64{math.MaxInt64}, false}, {[]int64{math.MinInt64}, false},
		{[]int64{1, 2, 3}, true}, {[]int64{1, 1}, false}, {[]int64{2, 1}, false}, {[]int64{1, 3, 2}, false}, {[]int64{1, 2, 2}, false}, {[]int64{1, 1000000}, true}, {[]int64{1, 1000001}, false}, {[]int64{0, 1}, false}, {[]int64{999999, 1000000}, true},
	} {
		var list []impl.Literal
		for _, id := range c.ids {
			list = append(list, literal(id, true, x, x))
		}
		checkLiterals(t, fmt.Sprint(c.ids), decls, list, c.want)
	}
	for _, count := range []int{59, 60, 61, 1000} {
		var list []impl.Literal
		for id := range int64(count) {
			list = append(list, literal(id+1, true, x, x))
		}
		checkLiterals(t, fmt.Sprint(count), decls, list, count <= 60)
	}
}

func checkLiterals(t *testing.T, what string, decls []impl.Decl, list []impl.Literal, want bool) {
	t.Helper()
	if impl.LiteralsOk(decls, list) != want {
		t.Errorf("%s: want %v", what, want)
	}
	if !rightDecls(decls) {
		return
	}
	values := valuesOfRows(thrownRows(&dice{state: 7}, decls))
	if got := impl.FirstFails(decls, values, list); got < 0 == want {
		t.Errorf("%s: %d fails", what, got)
	}
	if len(list) == 1 {
		if is, ok := impl.Holds(decls, values, list[0]); ok != want || is && !ok {
			t.Errorf("%s: holds %v, %v", what, is, ok)
		}
	}
}

func TestLiteralsOkBySides(t *testing.T) {
	decls := someDecls()
	a, b, wrong := term(variable(0)), term(variable(1), one(impl.TmRep, 2, 0)), term(variable(6))
	narrow, wide := term(variable(1)), chain(variable(0), 399)
	for _, c := range []struct {
		what string
		s, t impl.Term
		want bool
	}{
		{"two of one width", a, b, true}, {"a term and itself", a, a, true}, {"400 nodes twice", wide, wide, true},
		{"narrower", narrow, a, false}, {"wider", a, narrow, false}, {"a wrong S", wrong, a, false}, {"a wrong T", a, wrong, false}, {"both wrong", wrong, wrong, false},
		{"no S", impl.Term{}, a, false}, {"no T", a, impl.Term{}, false}, {"neither", impl.Term{}, impl.Term{}, false}, {"401 nodes", a, chain(variable(0), 400), false},
	} {
		for _, equal := range []bool{false, true} {
			checkLiterals(t, c.what, decls, []impl.Literal{literal(1, equal, c.s, c.t)}, c.want)
			checkLiterals(t, c.what, decls, []impl.Literal{literal(1, true, a, a), literal(2, equal, c.s, c.t)}, c.want)
			checkLiterals(t, c.what, decls, []impl.Literal{literal(1, equal, c.s, c.t), literal(2, false, b, a)}, c.want)
		}
	}
	x := term(constant("0"))
	for _, decls := range [][]impl.Decl{{{Name: "a", Width: 0}}, {{Name: "a", Width: 1}, {Name: "a", Width: 1}}, manyDecls(61, 1)} {
		checkLiterals(t, "wrong decls", decls, nil, false)
		checkLiterals(t, "wrong decls", decls, []impl.Literal{literal(1, true, x, x)}, false)
	}
	checkLiterals(t, "no decls", nil, nil, true)
	checkLiterals(t, "no decls", nil, []impl.Literal{literal(1, true, x, x)}, true)
}

func TestHoldsOrItsOpposite(t *testing.T) {
	d := dice{state: 41}
	decls := []impl.Decl{{Name: "a", Width: 4}, {Name: "b", Width: 2}, {Name: "c", Width: 1}}
	told := [2]int{}
	for range 5000 {
		s, u := thrownTerm(&d, decls, 9), thrownTerm(&d, decls, 9)
		width := min(impl.WidthOf(decls, s), impl.WidthOf(decls, u), int64(1+d.below(3)))
		s.Nodes = append(s.Nodes, part(width-1, 0, int64(len(s.Nodes)-1)))
		u.Nodes = append(u.Nodes, part(width-1, 0, int64(len(u.Nodes)-1)))
		rows := thrownRows(&d, decls)
		same := lastOf(rowsByTable(rows, s)) == lastOf(rowsByTable(rows, u))
		for _, equal := range []bool{false, true} {
			is, ok := impl.Holds(decls, valuesOfRows(rows), literal(int64(1+d.below(1000000)), equal, s, u))
			if !ok || is != (same == equal) {
				t.Fatalf("%v, %v of %v and %v by %v, equal %v", is, ok, s, u, rows, equal)
			}
		}
		if same {
			told[1]++
		} else {
			told[0]++
		}
	}
	if told[0] < 500 || told[1] < 500 {
		t.Errorf("too seldom: %v", told)
	}
}

func TestHoldsAtEachBit(t *testing.T) {
	decls := []impl.Decl{{Name: "a", Width: 130}, {Name: "b", Width: 130}}
	d := dice{state: 6}
	row := d.row(130)
	s, u := term(variable(0)), term(variable(1))
	for at := range 131 {
		other := []byte(row)
		if at < 130 {
			other[at] ^= 1
		}
		for _, equal := range []bool{false, true} {
			is, ok := impl.Holds(decls, valuesOfRows([]string{row, string(other)}), literal(1, equal, s, u))
			if !ok || is != ((at == 130) == equal) {
				t.Fatalf("%v, %v with another bit at %d", is, ok, at)
			}
		}
	}
}

func TestFirstFailsTellsTheFirst(t *testing.T) {
	decls := []impl.Decl{{Name: "a", Width: 2}, {Name: "b", Width: 2}}
	a, b, one := term(variable(0)), term(variable(1)), term(constant("01"))
	list := []impl.Literal{literal(3, true, a, b), literal(7, false, a, one), literal(8, true, b, one), literal(1000000, false, b, a)}
	for _, x := range allRows(2) {
		for _, y := range allRows(2) {
			for from := range len(list) + 1 {
				want := int64(0)
				for _, l := range slices.Backward(list[from:]) {
					left, right := lastOf(rowsByTable([]string{x, y}, l.S)), lastOf(rowsByTable([]string{x, y}, l.T))
					if (left == right) != l.Equal {
						want = l.Id
					}
				}
				if got := impl.FirstFails(decls, valuesOfRows([]string{x, y}), list[from:]); got != want {
					t.Errorf("%s, %s, from %d: %d fails, want %d", x, y, from, got, want)
				}
			}
		}
	}
	var many []impl.Literal
	for id := range int64(60) {
		many = append(many, literal(id+1, true, a, a))
	}
	values := valuesOfRows([]string{"00", "11"})
	if got := impl.FirstFails(decls, values, many); got != 0 {
		t.Errorf("%d of 60 fails", got)
	}
	for at := range many {
		many[at].Equal = false
		if got := impl.FirstFails(decls, values, many); got != int64(at+1) {
			t.Errorf("%d of 60 fails, want %d", got, at+1)
		}
		many[at].Equal = true
	}
}
