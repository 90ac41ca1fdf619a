package tests

import (
	"fmt"
	"math"
	"slices"
	"strings"
	"testing"

	"loop.example/g00081/impl"
)

func cutsOf(lists ...[]int64) impl.Cuts { return impl.Cuts{At: lists} }

func at(places ...int64) []int64 { return places }

func wantNoCuts(t *testing.T, what string, got impl.Cuts, ok bool) {
	t.Helper()
	if ok || len(got.At) != 0 {
		t.Fatalf("%s: %v, %v, want nothing and false", what, got, ok)
	}
}

func rightCuts(decls []impl.Decl, c impl.Cuts) bool {
	if !rightDecls(decls) || len(c.At) != len(decls) {
		return false
	}
	for v, places := range c.At {
		for i, p := range places {
			if p < 1 || p > decls[v].Width-1 || i > 0 && places[i-1] >= p {
				return false
			}
		}
	}
	return true
}

// checkCuts asks all functions of cuts: those that are not right are refused by each.
func checkCuts(t *testing.T, what string, decls []impl.Decl, c impl.Cuts, want bool) {
	t.Helper()
	if rightCuts(decls, c) != want || impl.CutsOk(decls, c) != want {
		t.Fatalf("%s: %v is told %v, want %v", what, c, impl.CutsOk(decls, c), want)
	}
	x := term(constant("01"))
	l := literal(1, true, x, x)
	pieces, piecesOk := impl.PiecesOf(decls, l, c)
	closed, closedOk := impl.CloseCuts(decls, []impl.Literal{l}, c)
	both, bothOk := impl.AddCuts(decls, c, c)
	if want {
		m := marksOf(decls, c)
		if !piecesOk || len(pieces) != 1 || !closedOk || !sameCuts(closed, c) || !bothOk || !sameCuts(both, c) {
			t.Fatalf("%s: %v with pieces %v, closed %v, added %v", what, c, pieces, closed, both)
		}
		if got := impl.Gauge(decls, c); got != int64(len(m.slices())) {
			t.Fatalf("%s: %d slices, want %d", what, got, len(m.slices()))
		}
		if got := impl.SlicesOf(decls, c); !slices.Equal(got, m.slices()) {
			t.Fatalf("%s: slices %v, want %v", what, got, m.slices())
		}
		return
	}
	if piecesOk || len(pieces) != 0 {
		t.Fatalf("%s: pieces %v, %v", what, pieces, piecesOk)
	}
	wantNoCuts(t, what, closed, closedOk)
	closed, closedOk = impl.CloseCuts(decls, nil, c)
	wantNoCuts(t, what, closed, closedOk)
	wantNoCuts(t, what, both, bothOk)
	none := impl.Cuts{At: make([][]int64, len(decls))}
	for _, pair := range [][2]impl.Cuts{{c, none}, {none, c}} {
		both, ok := impl.AddCuts(decls, pair[0], pair[1])
		wantNoCuts(t, what, both, ok)
	}
	if got := impl.Gauge(decls, c); got != -1 {
		t.Fatalf("%s: %d slices", what, got)
	}
	if got := impl.SlicesOf(decls, c); len(got) != 0 {
		t.Fatalf("%s: slices %v", what, got)
	}
}

func TestCutsOkByHand(t *testing.T) {
	decls := []impl.Decl{{Name: "a", Width: 4}, {Name: "b", Width: 1}, {Name: "c", Width: 4096}}
	for _, c := range []struct {
		what string
		c    impl.Cuts
		want bool
	}{
		{"no places", cutsOf(nil, nil, nil), true}, {"empty lists", cutsOf(at(), nil, at()), true}, {"all places", cutsOf(at(1, 2, 3), nil, nil), true}, {"the first and the last", cutsOf(at(1), at(), at(1, 4095)), true}, {"the last", cutsOf(at(3), nil, at(4095)), true},
		{"0", cutsOf(at(0), nil, nil), false}, {"0 and 1", cutsOf(at(0, 1), nil, nil), false}, {"the width", cutsOf(at(4), nil, nil), false}, {"above the width", cutsOf(at(1, 5), nil, nil), false}, {"0 of one bit", cutsOf(nil, at(0), nil), false}, {"1 of one bit", cutsOf(nil, at(1), nil), false}, {"the width of the last", cutsOf(nil, nil, at(4096)), false}, {"above it", cutsOf(nil, nil, at(4097)), false},
		{"twice", cutsOf(at(2, 2), nil, nil), false}, {"falling", cutsOf(at(2, 1), nil, nil), false}, {"falling in the end", cutsOf(at(1, 3, 2), nil, nil), false}, {"twice in the end", cutsOf(at(1, 2, 2), nil, nil), false}, {"falling in the last", cutsOf(nil, nil, at(64, 63)), false},
		{"one list less", cutsOf(nil, nil), false}, {"one list more", cutsOf(nil, nil, nil, nil), false}, {"no lists", impl.Cuts{}, false}, {"one that is empty", cutsOf(nil), false},
		{"below 0", cutsOf(at(-1), nil, nil), false}, {"the least", cutsOf(at(math.MinInt64), nil, nil), false}, {"the greatest", cutsOf(at(math.MaxInt64), nil, nil), false}, {"the least behind", cutsOf(at(1, math.MinInt64), nil, nil), false}, {"the greatest behind", cutsOf(at(1, math.MaxInt64), nil, nil), false},
	} {
		checkCuts(t, c.what, decls, c.c, c.want)
	}
	checkCuts(t, "no decls", nil, impl.Cuts{}, true)
	checkCuts(t, "no decls", nil, cutsOf(), true)
	checkCuts(t, "a list for no decl", nil, cutsOf(nil), false)
	var all []int64
	for p := range int64(4095) {
		all = append(all, p+1)
	}
	checkCuts(t, "all places of 4096 bits", decls, cutsOf(nil, nil, all), true)
	checkCuts(t, "all places and the width", decls, cutsOf(nil, nil, append(all, 4096)), false)
	many := manyDecls(60, 333)
	checkCuts(t, "60 variables", many, impl.Cuts{At: slices.Repeat([][]int64{{1, 2, 332}}, 60)}, true)
	checkCuts(t, "the last of 60 is wrong", many, impl.Cuts{At: append(slices.Repeat([][]int64{{1, 2, 332}}, 59), at(333))}, false)
	for _, decls := range [][]impl.Decl{{{Name: "a", Width: 0}}, {{Name: "A", Width: 4}}, {{Name: "a", Width: 4}, {Name: "a", Width: 4}}, {{Name: "a", Width: 4097}}, manyDecls(61, 2)} {
		checkCuts(t, "wrong decls", decls, impl.Cuts{At: make([][]int64, len(decls))}, false)
		checkCuts(t, "wrong decls", decls, impl.Cuts{}, false)
	}
}

func TestCutsOkOfThrownPlaces(t *testing.T) {
	decls := []impl.Decl{{Name: "a", Width: 4}, {Name: "b", Width: 3}}
	d := dice{state: 81}
	told := [2]int{}
	for range 4000 {
		c := impl.Cuts{At: make([][]int64, 2)}
		for v := range c.At {
			for range d.below(4) {
				c.At[v] = append(c.At[v], int64(d.below(6)))
			}
			if d.below(2) == 0 {
				slices.Sort(c.At[v])
			}
		}
		want := rightCuts(decls, c)
		checkCuts(t, "thrown", decls, c, want)
		if want {
			told[1]++
		} else {
			told[0]++
		}
	}
	if told[0] < 500 || told[1] < 500 {
		t.Errorf("too seldom: %v", told)
	}
}

// readLiterals has one literal for each text "S = T" or "S ! T".
func readLiterals(t *testing.T, decls []impl.Decl, texts ...string) []impl.Literal {
	t.Helper()
	var list []impl.Literal
	for i, text := range texts {
		s, u, equal := strings.Cut(text, " = ")
		if !equal {
			s, u, _ = strings.Cut(text, " ! ")
		}
		list = append(list, literal(int64(i+1), equal, readTerm(t, decls, s), readTerm(t, decls, u)))
	}
	return list
}

func TestCloseCutsByHand(t *testing.T) {
	decls := []impl.Decl{{Name: "a", Width: 6}, {Name: "b", Width: 6}, {Name: "c", Width: 6}, {Name: "d", Width: 3}}
	none := cutsOf(nil, nil, nil, nil)
	for _, c := range []struct {
		texts []string
		from  impl.Cuts
		want  impl.Cuts
	}{
		{nil, none, none}, {nil, cutsOf(at(1, 5), nil, at(2), at(1)), cutsOf(at(1, 5), nil, at(2), at(1))},
		{[]string{"a = b"}, none, none}, {[]string{"a ! b"}, cutsOf(at(2), at(3), at(4), nil), cutsOf(at(2, 3), at(2, 3), at(4), nil)}, {[]string{"a = a"}, cutsOf(at(2), at(3), nil, nil), cutsOf(at(2), at(3), nil, nil)},
		// parts cut where they begin and end, in inequalities, too
		{[]string{"(part 3 2 a) = (part 1 0 d)"}, none, cutsOf(at(2, 4), nil, nil, at(2))}, {[]string{"(part 3 2 a) ! #b01"}, none, cutsOf(at(2, 4), nil, nil, nil)}, {[]string{"(part 5 4 a) = (part 1 0 a)"}, none, cutsOf(at(2, 4), nil, nil, nil)}, {[]string{"(part 5 0 a) = b"}, none, none}, {[]string{"(part 4 0 a) = (part 5 1 b)"}, none, cutsOf(at(5), at(1), nil, nil)},
		// a segment that begins cuts what lies across from it
		{[]string{"(cat d d) = a"}, none, cutsOf(at(3), nil, nil, nil)}, {[]string{"a = (cat d d)"}, none, cutsOf(at(3), nil, nil, nil)}, {[]string{"(cat d d) = a"}, cutsOf(at(1), nil, nil, nil), cutsOf(at(1, 3, 4), nil, nil, at(1))}, {[]string{"(cat d d) = a"}, cutsOf(nil, nil, nil, at(2)), cutsOf(at(2, 3, 5), nil, nil, at(2))}, {[]string{"(cat d #b000) = a"}, none, cutsOf(at(3), nil, nil, nil)}, {[]string{"(cat #b00 d #b1) = a"}, none, cutsOf(at(1, 4), nil, nil, nil)}, {[]string{"(zero 3 d) = a"}, none, cutsOf(at(3), nil, nil, nil)}, {[]string{"(sign 3 d) = a"}, none, cutsOf(at(2, 3, 4, 5), nil, nil, at(2))},
		// constants stop cuts
		{[]string{"a = #b010101"}, cutsOf(at(2), nil, nil, nil), cutsOf(at(2), nil, nil, nil)}, {[]string{"#b010101 = a", "b = #b000000"}, cutsOf(at(2), at(3), nil, nil), cutsOf(at(2), at(3), nil, nil)}, {[]string{"(cat d #b000) = (cat #b00000 (part 0 0 a))"}, none, cutsOf(at(1), nil, nil, nil)}, {[]string{"(cat d #b000) = (cat #b00 (part 3 0 a))"}, none, cutsOf(at(3, 4), nil, nil, at(1))}, {[]string{"(cat d #b0 d) = (cat #b00 (part 4 0 a))"}, none, cutsOf(at(1, 3, 4, 5), nil, nil, at(1))},
		// cuts over several steps
		{[]string{"a = b", "b = c", "c = (cat d d)"}, none, cutsOf(at(3), at(3), at(3), nil)}, {[]string{"c = (cat d d)", "b = c", "a = b"}, cutsOf(at(1), nil, nil, nil), cutsOf(at(1, 3, 4), at(1, 3, 4), at(1, 3, 4), at(1))}, {[]string{"a = b", "(part 3 0 b) = (part 5 2 c)", "(part 2 2 c) = #b1"}, none, cutsOf(at(1, 4), at(1, 4), at(2, 3), nil)}, {[]string{"a ! b", "b ! c"}, cutsOf(nil, nil, at(5), nil), cutsOf(at(5), at(5), at(5), nil)},
		// cuts that come round to where they began
		{[]string{"a = (left 1 a)"}, none, cutsOf(at(1, 2, 3, 4, 5), nil, nil, nil)}, {[]string{"a = (left 2 a)"}, none, cutsOf(at(2, 4), nil, nil, nil)}, {[]string{"a = (left 3 a)"}, none, cutsOf(at(3), nil, nil, nil)}, {[]string{"a ! (right 2 a)"}, cutsOf(at(3), nil, nil, nil), cutsOf(at(1, 2, 3, 4, 5), nil, nil, nil)}, {[]string{"a = (right 3 a)"}, cutsOf(at(1), nil, nil, nil), cutsOf(at(1, 3, 4), nil, nil, nil)}, {[]string{"a = (left 4 a)"}, none, cutsOf(at(2, 4), nil, nil, nil)}, {[]string{"a = (left 6 a)"}, none, none}, {[]string{"a = (left 5 a)"}, none, cutsOf(at(1, 2, 3, 4, 5), nil, nil, nil)},
		{[]string{"a = b", "b = (left 2 a)"}, none, cutsOf(at(2, 4), at(2, 4), nil, nil)}, {[]string{"a = b", "b = c", "c = (left 3 a)"}, none, cutsOf(at(3), at(3), at(3), nil)}, {[]string{"a = (left 2 b)", "b = (left 2 c)", "c = (left 3 a)"}, none, cutsOf(at(1, 2, 3, 4, 5), at(1, 2, 3, 4, 5), at(1, 2, 3, 4, 5), nil)},
		{[]string{"(part 3 0 a) = (part 5 2 a)"}, none, cutsOf(at(2, 4), nil, nil, nil)}, {[]string{"(part 4 0 a) = (part 5 1 a)"}, none, cutsOf(at(1, 2, 3, 4, 5), nil, nil, nil)}, {[]string{"(part 2 0 a) = (part 5 3 a)"}, none, cutsOf(at(3), nil, nil, nil)}, {[]string{"(part 2 0 a) = (part 4 2 a)"}, none, cutsOf(at(1, 2, 3, 4, 5), nil, nil, nil)}, {[]string{"(part 2 0 a) = (part 5 3 a)"}, cutsOf(at(1), nil, nil, nil), cutsOf(at(1, 3, 4), nil, nil, nil)},
		{[]string{"(part 3 0 a) = (part 5 2 b)", "(part 3 0 b) = (part 5 2 a)"}, none, cutsOf(at(2, 4), at(2, 4), nil, nil)},
	} {
		list := readLiterals(t, decls, c.texts...)
		got, ok := impl.CloseCuts(decls, list, c.from)
		if !ok || !sameCuts(got, c.want) {
			t.Errorf("%v from %v: %v, %v, want %v", c.texts, c.from, got, ok, c.want)
		}
		checkClosed(t, decls, list, c.from)
	}
}

// checkClosed holds cuts against the marks, and asks for the pieces by them.
func checkClosed(t *testing.T, decls []impl.Decl, list []impl.Literal, c impl.Cuts) {
	t.Helper()
	got, ok := impl.CloseCuts(decls, list, c)
	want, wantOk := marksOf(decls, c).closed(decls, list)
	if !wantOk {
		wantNoCuts(t, "a side without a form", got, ok)
		return
	}
	if !ok || !sameCuts(got, want.cuts()) {
		t.Fatalf("%v, %v for %v from %v, want %v", got, ok, list, c, want.cuts())
	}
	if again, ok := impl.CloseCuts(decls, list, got); !ok || !sameCuts(again, got) {
		t.Fatalf("%v, %v when %v are closed again", again, ok, got)
	}
	if both, ok := impl.AddCuts(decls, got, c); !ok || !sameCuts(both, got) {
		t.Fatalf("%v do not hold %v", got, c)
	}
	for _, l := range list {
		checkPieces(t, decls, l, got)
	}
}

// checkPieces asks for pieces by any right cuts, closed or not.
func checkPieces(t *testing.T, decls []impl.Decl, l impl.Literal, c impl.Cuts) bool {
	t.Helper()
	got, ok := impl.PiecesOf(decls, l, c)
	sides, formsOk := wiresOfSides(decls, l)
	m := marksOf(decls, c)
	if !formsOk || !m.closedFor(decls, sides) {
		if ok || len(got) != 0 {
			t.Fatalf("%v, %v of %v by %v, which are not closed", got, ok, l, c)
		}
		return false
	}
	if want := m.pieces(sides); !ok || !slices.EqualFunc(got, want, samePiece) {
		t.Fatalf("%v, %v of %v by %v, want %v", got, ok, l, c, want)
	}
	rows := thrownRows(&dice{state: uint64(len(got))}, decls)
	for i, wires := range sides {
		if row := rowOfPieces(decls, rows, got, c, i); row != rowOfWires(rows, wires) {
			t.Fatalf("the pieces %v of %v are %s by %v", got, l, row, rows)
		}
	}
	return true
}

// rowOfPieces puts the atoms of one side together, by the program's own slices.
func rowOfPieces(decls []impl.Decl, rows []string, pieces []impl.Piece, c impl.Cuts, side int) string {
	all := impl.SlicesOf(decls, c)
	row := ""
	for _, p := range pieces {
		atom := []impl.Atom{p.A, p.B}[side]
		if atom.Slice < 0 {
			row = rowOfBits(atom.Value) + row
			continue
		}
		s := all[atom.Slice]
		whole := rows[s.Var]
		end := int64(len(whole)) - s.Low
		row = whole[end-s.Width:end] + row
		if s.Width != p.Width {
			return "no slice of this width"
		}
	}
	return row
}

func TestCloseCutsOfThrownLiterals(t *testing.T) {
	d := dice{state: 82}
	decls := []impl.Decl{{Name: "a", Width: 13}, {Name: "b", Width: 9}, {Name: "c", Width: 8}, {Name: "d", Width: 1}, {Name: "e", Width: 70}}
	slices := 0
	for range 1500 {
		list := thrownLiterals(&d, decls, d.below(5), 1+d.below(5))
		c := thrownMarks(&d, decls, 2+d.below(60)).cuts()
		checkClosed(t, decls, list, c)
		got, _ := impl.CloseCuts(decls, list, c)
		slices += int(impl.Gauge(decls, got))
	}
	if slices < 1500*10 || slices > 1500*80 {
		t.Errorf("%d slices in all: too few, or all bits", slices)
	}
}

// Of the closed cuts that hold those asked for, the least is what all of them have.
func TestCloseCutsAreTheLeastOfAll(t *testing.T) {
	d := dice{state: 83}
	decls := []impl.Decl{{Name: "a", Width: 4}, {Name: "b", Width: 3}, {Name: "c", Width: 3}}
	all := allMarks(decls)
	for range 150 {
		list := thrownLiterals(&d, decls, 1+d.below(3), 1+d.below(3))
		c := thrownMarks(&d, decls, 2+d.below(9)).cuts()
		least := noMarks(decls)
		for v := range least {
			for p := 1; p < len(least[v]); p++ {
				least[v][p] = true
			}
		}
		for _, m := range all {
			if !holdsAll(m, marksOf(decls, c)) || slices.ContainsFunc(list, func(l impl.Literal) bool {
				sides, _ := wiresOfSides(decls, l)
				return !m.closedFor(decls, sides)
			}) {
				continue
			}
			for v := range least {
				for p := range least[v] {
					least[v][p] = least[v][p] && m[v][p]
				}
			}
		}
		got, ok := impl.CloseCuts(decls, list, c)
		if !ok || !sameCuts(got, least.cuts()) {
			t.Fatalf("%v, %v for %v from %v, want %v", got, ok, list, c, least.cuts())
		}
	}
}

func holdsAll(m, others marks) bool {
	for v := range others {
		for p, cut := range others[v] {
			if cut && !m[v][p] {
				return false
			}
		}
	}
	return true
}

func TestPiecesOfByAllCuts(t *testing.T) {
	d := dice{state: 84}
	decls := []impl.Decl{{Name: "a", Width: 4}, {Name: "b", Width: 3}, {Name: "c", Width: 2}}
	told := [2]int{}
	for range 120 {
		s, u := thrownSides(&d, decls, 1+d.below(3))
		l := literal(int64(1+d.below(1000000)), d.below(2) == 0, s, u)
		for _, m := range allMarks(decls) {
			if checkPieces(t, decls, l, m.cuts()) {
				told[1]++
			} else {
				told[0]++
			}
		}
	}
	if told[0] < 500 || told[1] < 500 {
		t.Errorf("too seldom: %v", told)
	}
}

func TestPiecesOfByAllValues(t *testing.T) {
	d := dice{state: 85}
	decls := []impl.Decl{{Name: "a", Width: 3}, {Name: "b", Width: 2}, {Name: "c", Width: 2}}
	for range 150 {
		s, u := thrownSides(&d, decls, 1+d.below(4))
		l := literal(1, true, s, u)
		c, _ := impl.CloseCuts(decls, []impl.Literal{l}, thrownMarks(&d, decls, 4).cuts())
		pieces, ok := impl.PiecesOf(decls, l, c)
		if !ok {
			t.Fatalf("%v has no pieces by %v", l, c)
		}
		for _, all := range allRows(7) {
			rows := []string{all[:3], all[3:5], all[5:]}
			for i, x := range []impl.Term{s, u} {
				b, ok := impl.Eval(decls, valuesOfRows(rows), x)
				wantRow(t, "pieces put together", b, ok, rowOfPieces(decls, rows, pieces, c, i))
			}
		}
	}
}

func TestPiecesOfByHand(t *testing.T) {
	decls := []impl.Decl{{Name: "a", Width: 6}, {Name: "b", Width: 6}, {Name: "d", Width: 3}}
	slice := func(n int64) impl.Atom { return impl.Atom{Slice: n} }
	value := func(row string) impl.Atom { return impl.Atom{Slice: -1, Value: bitsOfRow(row)} }
	for _, c := range []struct {
		text string
		c    impl.Cuts
		want []impl.Piece
	}{
		{"a = b", cutsOf(nil, nil, nil), []impl.Piece{{A: slice(0), B: slice(1), Width: 6}}},
		{"b = a", cutsOf(at(2), at(2), nil), []impl.Piece{{A: slice(2), B: slice(0), Width: 2}, {A: slice(3), B: slice(1), Width: 4}}},
		{"a ! a", cutsOf(at(2), at(3), nil), []impl.Piece{{A: slice(0), B: slice(0), Width: 2}, {A: slice(1), B: slice(1), Width: 4}}},
		{"(cat d d) = a", cutsOf(at(3), nil, nil), []impl.Piece{{A: slice(3), B: slice(0), Width: 3}, {A: slice(3), B: slice(1), Width: 3}}},
		{"a = (left 2 a)", cutsOf(at(2, 4), nil, nil), []impl.Piece{{A: slice(0), B: slice(2), Width: 2}, {A: slice(1), B: slice(0), Width: 2}, {A: slice(2), B: slice(1), Width: 2}}},
		{"a = #b110100", cutsOf(nil, nil, nil), []impl.Piece{{A: slice(0), B: value("110100"), Width: 6}}}, {"#b110100 ! a", cutsOf(at(1, 4), nil, nil), []impl.Piece{{A: value("0"), B: slice(0), Width: 1}, {A: value("010"), B: slice(1), Width: 3}, {A: value("11"), B: slice(2), Width: 2}}},
		{"#b01 = #b10", cutsOf(at(1), nil, nil), []impl.Piece{{A: value("01"), B: value("10"), Width: 2}}}, {"(cat #b0 #b1) = (rep 2 #b1)", cutsOf(nil, nil, nil), []impl.Piece{{A: value("01"), B: value("11"), Width: 2}}},
		{"(cat d #b001) = (cat #b0110 (part 1 0 a))", cutsOf(at(2), nil, nil), []impl.Piece{{A: value("01"), B: slice(0), Width: 2}, {A: value("0"), B: value("0"), Width: 1}, {A: slice(3), B: value("011"), Width: 3}}},
		{"(zero 2 d) = (sign 2 d)", cutsOf(nil, nil, at(2)), []impl.Piece{{A: slice(2), B: slice(2), Width: 2}, {A: slice(3), B: slice(3), Width: 1}, {A: value("0"), B: slice(3), Width: 1}, {A: value("0"), B: slice(3), Width: 1}}},
		{"(cat (part 5 3 a) (part 2 0 a)) = b", cutsOf(nil, nil, at(1)), []impl.Piece{{A: slice(0), B: slice(1), Width: 6}}},
	} {
		l := readLiterals(t, decls, c.text)[0]
		got, ok := impl.PiecesOf(decls, l, c.c)
		if !ok || !slices.EqualFunc(got, c.want, samePiece) {
			t.Errorf("%s by %v: %v, %v, want %v", c.text, c.c, got, ok, c.want)
		}
		checkPieces(t, decls, l, c.c)
	}
}

func TestPiecesOfRefusesCutsThatAreNotClosed(t *testing.T) {
	decls := []impl.Decl{{Name: "a", Width: 6}, {Name: "b", Width: 6}, {Name: "d", Width: 3}}
	for _, c := range []struct {
		text string
		c    impl.Cuts
		want bool
	}{
		{"a = b", cutsOf(at(2), nil, nil), false}, {"a = b", cutsOf(nil, at(2), nil), false}, {"a = b", cutsOf(at(2), at(3), nil), false}, {"a = b", cutsOf(at(2), at(2, 3), nil), false}, {"a = b", cutsOf(at(2, 3), at(2, 3), nil), true}, {"a = b", cutsOf(nil, nil, at(1)), true},
		{"(part 2 1 a) = #b01", cutsOf(at(1, 3), nil, nil), true}, {"(part 2 1 a) = #b01", cutsOf(at(1), nil, nil), false}, {"(part 2 1 a) = #b01", cutsOf(at(3), nil, nil), false}, {"#b01 = (part 2 1 a)", cutsOf(at(3), nil, nil), false}, {"#b01 = (part 2 1 a)", cutsOf(at(1), nil, nil), false}, {"(part 2 0 a) = #b011", cutsOf(nil, nil, nil), false}, {"(part 2 0 a) = #b011", cutsOf(at(3), nil, nil), true}, {"(part 5 3 a) = #b011", cutsOf(nil, nil, nil), false}, {"(part 5 3 a) = #b011", cutsOf(at(3), nil, nil), true},
		{"(cat d d) = a", cutsOf(nil, nil, nil), false}, {"(cat d d) = a", cutsOf(at(3), nil, at(1)), false}, {"(cat d d) = a", cutsOf(at(1, 3), nil, at(1)), false}, {"(cat d d) = a", cutsOf(at(1, 3, 4), nil, at(1)), true}, {"(cat d #b000) = a", cutsOf(nil, nil, nil), false}, {"(cat d #b000) = a", cutsOf(at(1, 3), nil, nil), true},
		{"a = (left 2 a)", cutsOf(at(4), nil, nil), false}, {"a = (left 2 a)", cutsOf(at(2), nil, nil), false}, {"a = (left 2 a)", cutsOf(at(2, 4, 5), nil, nil), false}, {"a ! (left 2 a)", cutsOf(at(1, 3, 5), nil, nil), false},
	} {
		l := readLiterals(t, decls, c.text)[0]
		if got, ok := impl.PiecesOf(decls, l, c.c); ok != c.want || len(got) > 0 != c.want {
			t.Errorf("%s by %v: %v, %v, want %v", c.text, c.c, got, ok, c.want)
		}
		checkPieces(t, decls, l, c.c)
	}
}

func TestCutsRefuseLiterals(t *testing.T) {
	decls := someDecls()
	none := impl.Cuts{At: make([][]int64, len(decls))}
	a := term(variable(0))
	refused := func(what string, decls []impl.Decl, list ...impl.Literal) {
		t.Helper()
		got, ok := impl.CloseCuts(decls, list, impl.Cuts{At: make([][]int64, len(decls))})
		wantNoCuts(t, what, got, ok)
		if len(list) == 1 {
			if got, ok := impl.PiecesOf(decls, list[0], impl.Cuts{At: make([][]int64, len(decls))}); ok || len(got) != 0 {
				t.Errorf("%s: pieces %v, %v", what, got, ok)
			}
		}
	}
	for _, id := range []int64{math.MinInt64, -1, 0, 1000001, math.MaxInt64} {
		refused(fmt.Sprint("the Id ", id), decls, literal(id, true, a, a))
	}
	for _, id := range []int64{1, 1000000} {
		if _, ok := impl.PiecesOf(decls, literal(id, true, a, a), none); !ok {
			t.Errorf("the Id %d is refused", id)
		}
	}
	refused("Ids that do not rise", decls, literal(2, true, a, a), literal(2, true, a, a))
	refused("Ids that fall", decls, literal(2, true, a, a), literal(1, true, a, a))
	refused("sides of two widths", decls, literal(1, true, a, term(variable(1))))
	refused("no side", decls, literal(1, true, a, impl.Term{}))
	refused("wrong decls", []impl.Decl{{Name: "a", Width: 4}, {Name: "a", Width: 4}}, literal(1, true, a, a))
	refused("a variable that is none", decls, literal(1, true, term(variable(6)), term(variable(6))))
	refused("the second one is wrong", decls, literal(1, true, a, a), literal(2, true, a, term(variable(1))))
	for _, x := range wrongTerms(term(variable(0), part(2, 1, 0), constant("01"), cat(1, 2))) {
		if widthsByTable(decls, x) == nil {
			refused("a wrong term", decls, literal(1, true, x, x))
		}
	}
	// a side that has no flat form, in an equality or not, as the first side or the second
	long := term(variable(2), one(impl.TmRep, 2001, 0))
	zero := term(constant(strings.Repeat("0", 2001)))
	hidden := term(variable(2), one(impl.TmRep, 2001, 0), part(3, 0, 1))
	for _, equal := range []bool{false, true} {
		refused("a long S", decls, literal(1, equal, long, zero))
		refused("a long T", decls, literal(1, equal, zero, long))
		refused("both long", decls, literal(1, equal, long, long))
		refused("a long node inside of S", decls, literal(1, equal, hidden, a))
		refused("a long node inside of T", decls, literal(1, equal, a, hidden))
		refused("a long one in the end", decls, literal(1, true, a, a), literal(2, equal, long, zero))
		refused("a long one first", decls, literal(1, equal, zero, long), literal(2, true, a, a))
	}
	var many []impl.Literal
	for id := range int64(61) {
		many = append(many, literal(id+1, true, a, a))
	}
	if got, ok := impl.CloseCuts(decls, many[:60], none); !ok || !sameCuts(got, none) {
		t.Errorf("60 literals: %v, %v", got, ok)
	}
	refused("61 literals", decls, many...)
}

// A chain of 60 variables is cut from its one end to the other, whichever way
// the literals stand.
func TestCloseCutsAlongAChain(t *testing.T) {
	decls := manyDecls(60, 12)
	for _, turn := range []int64{0, 1, 5} {
		for _, from := range []int{0, 30, 59} {
			var list []impl.Literal
			for v := range int64(59) {
				next := term(variable(v+1), one(impl.TmLeft, turn, 0))
				list = append(list, literal(v+1, v%2 == 0, term(variable(v)), next))
			}
			c := impl.Cuts{At: make([][]int64, 60)}
			c.At[from] = at(4)
			checkClosed(t, decls, list, c)
			got, _ := impl.CloseCuts(decls, list, c)
			for v := range got.At {
				if turn == 0 && !slices.Equal(got.At[v], at(4)) || len(got.At[v]) == 0 {
					t.Fatalf("turned by %d, from %d: %v", turn, from, got)
				}
			}
			for i := range list {
				list[i].S, list[len(list)-1-i].S = list[len(list)-1-i].S, list[i].S
				list[i].T, list[len(list)-1-i].T = list[len(list)-1-i].T, list[i].T
			}
			if back, ok := impl.CloseCuts(decls, list, c); !ok {
				t.Fatalf("another order: %v", back)
			}
		}
	}
}

func TestCutsOfWideWords(t *testing.T) {
	decls := []impl.Decl{{Name: "a", Width: 4096}, {Name: "b", Width: 4096}, {Name: "c", Width: 4096}, {Name: "d", Width: 1}}
	none := cutsOf(nil, nil, nil, nil)
	for _, c := range []struct {
		texts []string
		from  impl.Cuts
		gauge int64
	}{
		{[]string{"a = b"}, none, 4}, {[]string{"a = b"}, cutsOf(at(1), at(4095), nil, nil), 8}, {[]string{"a = (left 1 a)"}, none, 4095 + 4}, {[]string{"a = (left 4095 a)"}, none, 4095 + 4}, {[]string{"a = (left 4096 a)"}, none, 4}, {[]string{"a = (left 2048 a)"}, none, 1 + 4}, {[]string{"a = (right 64 b)", "b = c"}, none, 2 + 4 + 1}, {[]string{"a = (right 64 b)", "b = a"}, none, 63*2 + 4}, {[]string{"(part 4094 0 a) = (part 4095 1 a)"}, none, 4095 + 4}, {[]string{"a = (zero 4095 d)", "b ! (cat d (part 4095 1 c))"}, none, 1 + 1 + 1 + 4}, {[]string{"a = (left 1 b)", "b = (left 1 c)", "c = a"}, cutsOf(nil, nil, at(100), nil), 3*4095 + 4},
	} {
		list := readLiterals(t, decls, c.texts...)
		got, ok := impl.CloseCuts(decls, list, c.from)
		if gauge := impl.Gauge(decls, got); !ok || gauge != c.gauge {
			t.Errorf("%v: %v with %d slices, want %d", c.texts, ok, gauge, c.gauge)
		}
		if c.gauge < 200 {
			checkClosed(t, decls, list, c.from)
		}
	}
	// pieces at both ends
	l := readLiterals(t, decls, "a = (cat d (part 4095 1 b))")[0]
	c, _ := impl.CloseCuts(decls, []impl.Literal{l}, cutsOf(at(1), nil, nil, nil))
	if !sameCuts(c, cutsOf(at(1, 4095), at(1, 2), nil, nil)) {
		t.Errorf("%v", c)
	}
	checkPieces(t, decls, l, c)
	single := readLiterals(t, decls, "a = (left 1 a)")[0]
	c, _ = impl.CloseCuts(decls, []impl.Literal{single}, none)
	pieces, ok := impl.PiecesOf(decls, single, c)
	if !ok || len(pieces) != 4096 {
		t.Fatalf("%d pieces, %v", len(pieces), ok)
	}
	for i, p := range pieces {
		if !samePiece(p, impl.Piece{A: impl.Atom{Slice: int64(i)}, B: impl.Atom{Slice: int64(i+4095) % 4096}, Width: 1}) {
			t.Fatalf("piece %d is %v", i, p)
		}
	}
}

// 60 literals with as many bits as there can be.
func TestCloseCutsOfManyWideLiterals(t *testing.T) {
	decls := manyDecls(4, 4096)
	var list []impl.Literal
	for id := range int64(60) {
		v := id % 4
		list = append(list, literal(id+1, id%3 > 0, term(variable(v), one(impl.TmLeft, id*64, 0)), term(variable((v+1)%4))))
	}
	got, ok := impl.CloseCuts(decls, list, impl.Cuts{At: make([][]int64, 4)})
	if !ok || impl.Gauge(decls, got) != 4*64 {
		t.Fatalf("%v with %d slices", ok, impl.Gauge(decls, got))
	}
	for v := range got.At {
		for i, p := range got.At[v] {
			if p != int64(64*(i+1)) {
				t.Fatalf("%d is cut at %v", v, got.At[v])
			}
		}
	}
}

func TestSlicesCoverEachVariableOnce(t *testing.T) {
	d := dice{state: 86}
	decls := someDecls()
	for range 500 {
		m := thrownMarks(&d, decls, 1+d.below(20))
		c := m.cuts()
		list := impl.SlicesOf(decls, c)
		if int64(len(list)) != impl.Gauge(decls, c) || !slices.Equal(list, m.slices()) {
			t.Fatalf("%v by %v", list, c)
		}
		met := make(map[wire]int)
		for _, s := range list {
			for i := range s.Width {
				met[wire{s.Var, s.Low + i}]++
			}
		}
		for v, decl := range decls {
			for bit := range decl.Width {
				if met[wire{int64(v), bit}] != 1 {
					t.Fatalf("bit %d of %d is met %d times in %v", bit, v, met[wire{int64(v), bit}], list)
				}
			}
		}
	}
	if got := impl.SlicesOf(nil, impl.Cuts{}); len(got) != 0 || impl.Gauge(nil, impl.Cuts{}) != 0 {
		t.Errorf("no decls have %v", got)
	}
}

func TestAddCutsHasAllPlaces(t *testing.T) {
	decls := []impl.Decl{{Name: "a", Width: 6}, {Name: "b", Width: 2}, {Name: "c", Width: 1}}
	for _, c := range []struct{ a, b, want impl.Cuts }{
		{cutsOf(nil, nil, nil), cutsOf(nil, nil, nil), cutsOf(nil, nil, nil)}, {cutsOf(at(1), nil, nil), cutsOf(at(5), at(1), nil), cutsOf(at(1, 5), at(1), nil)}, {cutsOf(at(5), nil, nil), cutsOf(at(1), nil, nil), cutsOf(at(1, 5), nil, nil)}, {cutsOf(at(2, 4), nil, nil), cutsOf(at(1, 2, 3, 5), nil, nil), cutsOf(at(1, 2, 3, 4, 5), nil, nil)}, {cutsOf(at(3), at(1), nil), cutsOf(at(3), at(1), nil), cutsOf(at(3), at(1), nil)},
	} {
		if got, ok := impl.AddCuts(decls, c.a, c.b); !ok || !sameCuts(got, c.want) {
			t.Errorf("%v and %v: %v, %v", c.a, c.b, got, ok)
		}
	}
	d := dice{state: 87}
	decls = someDecls()
	for range 500 {
		a, b := thrownMarks(&d, decls, 1+d.below(9)), thrownMarks(&d, decls, 1+d.below(9))
		want := marksOf(decls, a.cuts())
		for v := range b {
			for p, cut := range b[v] {
				want[v][p] = want[v][p] || cut
			}
		}
		if got, ok := impl.AddCuts(decls, a.cuts(), b.cuts()); !ok || !sameCuts(got, want.cuts()) {
			t.Fatalf("%v and %v: %v, %v", a.cuts(), b.cuts(), got, ok)
		}
	}
	if got, ok := impl.AddCuts(nil, impl.Cuts{}, impl.Cuts{}); !ok || len(got.At) != 0 {
		t.Errorf("no decls: %v, %v", got, ok)
	}
}

func TestCutsKeep(t *testing.T) {
	d := dice{state: 88}
	decls := []impl.Decl{{Name: "a", Width: 9}, {Name: "b", Width: 6}, {Name: "c", Width: 1}}
	for range 300 {
		list := thrownLiterals(&d, decls, 1+d.below(3), 4)
		a, b := thrownMarks(&d, decls, 5).cuts(), thrownMarks(&d, decls, 3).cuts()
		closed, _ := impl.CloseCuts(decls, list, a)
		keeps(t, impl.CutsOk, decls, a)
		keeps(t, impl.CloseCuts, decls, list, a)
		keeps(t, impl.Gauge, decls, a)
		keeps(t, impl.SlicesOf, decls, a)
		keeps(t, impl.PiecesOf, decls, list[0], closed)
		keeps(t, impl.PiecesOf, decls, list[0], a)
		keeps(t, impl.AddCuts, decls, a, b)
		wrong := impl.Cuts{At: append(a.At, at(1))}
		keeps(t, impl.CloseCuts, decls, list, wrong)
		keeps(t, impl.AddCuts, decls, wrong, b)
		keeps(t, impl.SlicesOf, decls, wrong)
	}
}
