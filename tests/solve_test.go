package tests

import (
	"fmt"
	"math"
	"slices"
	"strings"
	"testing"

	"loop.example/g00081/impl"
)

func checkSolve(t *testing.T, decls []impl.Decl, list []impl.Literal) ([]impl.Binding, []impl.Literal) {
	t.Helper()
	got, left, ok := impl.Solve(decls, list)
	want, rest := solvedByPicture(decls, list)
	if !ok || !slices.EqualFunc(got, want, sameBinding) || !slices.EqualFunc(left, rest, sameLiteral) {
		t.Fatalf("%s: %s with %v and %v, %v, want %s with %v and %v", solvedText(decls, nil, list), solvedText(decls, got, left), got, left, ok, solvedText(decls, want, rest), want, rest)
	}
	if !impl.LiteralsOk(decls, left) || !impl.Straight(decls, got) {
		t.Fatalf("%s: %s is not right", solvedText(decls, nil, list), solvedText(decls, got, left))
	}
	return got, left
}

func solveDecls() []impl.Decl {
	return []impl.Decl{{Name: "a", Width: 4}, {Name: "b", Width: 2}, {Name: "c", Width: 2}, {Name: "d", Width: 4}, {Name: "e", Width: 4}}
}

func TestSolveByHand(t *testing.T) {
	decls := solveDecls()
	for _, c := range []struct {
		texts []string
		want  string
	}{
		{nil, "; "},
		// a side that is a variable alone, S before T
		{texts("a = (rep 2 b)"), "a is (rep 2 b); "}, {texts("(rep 2 b) = a"), "a is (rep 2 b); "}, {texts("a = #x5"), "a is #x5; "}, {texts("#x5 = a"), "a is #x5; "}, {texts("a = d"), "a is d; "}, {texts("d = a"), "d is a; "}, {texts("(cat c b) = d"), "d is (cat c b); "},
		// none such
		{texts("#x5 = #x5"), "; 1 #x5 = #x5"}, {texts("#x5 = #x6"), "; 1 #x5 = #x6"}, {texts("(left 1 a) = d", "(left 1 a) = (left 2 d)"), "d is (left 1 a); 2 (left 1 a) = (left 2 (left 1 a))"}, {texts("(part 3 0 a) = (part 3 0 d)"), "; 1 (part 3 0 a) = (part 3 0 d)"}, {texts("(rep 2 b) = (cat b c)"), "; 1 (rep 2 b) = (cat b c)"},
		// a variable in its own term
		{texts("a = a"), "; 1 a = a"}, {texts("a = (left 1 a)"), "; 1 a = (left 1 a)"}, {texts("(left 1 a) = a"), "; 1 (left 1 a) = a"}, {texts("a = (cat (part 1 0 a) b)"), "; 1 a = (cat (part 1 0 a) b)"}, {texts("(zero 0 a) = a", "a = d"), "a is d; 1 (zero 0 d) = d"}, {texts("a = (left 1 a)", "d = a"), "d is a; 1 a = (left 1 a)"},
		// inequalities are not taken, but replaced in
		{texts("a ! d"), "; 1 a ! d"}, {texts("a ! #x5", "a = d"), "a is d; 1 d ! #x5"}, {texts("a = d", "a ! d"), "a is d; 2 d ! d"}, {texts("a ! (rep 2 b)", "(rep 2 b) ! a", "b = c"), "b is c; 1 a ! (rep 2 c), 2 (rep 2 c) ! a"},
		// the first of several
		{texts("a = d", "a = e"), "a is d, d is e; "}, {texts("a = #x1", "a = #x2"), "a is #x1; 2 #x1 = #x2"}, {texts("a = d", "d = a"), "a is d; 2 d = d"}, {texts("(left 1 a) = (left 1 d)", "d = a", "a = d"), "d is a; 1 (left 1 a) = (left 1 a), 3 a = a"}, {texts("a = (rep 2 b)", "d = (rep 2 b)"), "a is (rep 2 b), d is (rep 2 b); "},
		// the variable of S stands in T, or T is no variable, so that there is none, or T's is taken
		{texts("(rep 2 b) = a", "(rep 2 b) = d"), "a is (rep 2 b), d is (rep 2 b); "}, {texts("b = (part 1 0 a)", "a = (rep 2 b)"), "b is (part 1 0 a); 2 a = (rep 2 (part 1 0 a))"}, {texts("a = (rep 2 b)", "b = (part 1 0 a)"), "a is (rep 2 b); 2 b = (part 1 0 (rep 2 b))"},
		// one hangs on the other
		{texts("a = (cat b c)", "b = #b01", "c = b"), "a is (cat b c), b is #b01, c is #b01; "}, {texts("c = b", "b = #b01", "a = (cat b c)"), "c is b, b is #b01, a is (cat #b01 #b01); "}, {texts("a = d", "d = e", "e = #x3"), "a is d, d is e, e is #x3; "}, {texts("e = #x3", "d = e", "a = d"), "e is #x3, d is #x3, a is #x3; "}, {texts("d = e", "e = a", "a = d"), "d is e, e is a; 3 a = a"},
		// both sides of what is left, and what has nothing to do with it
		{texts("(cat a b) = (cat b a)", "b ! c", "a = (rep 2 c)", "(left 1 d) = (left 1 a)"), "a is (rep 2 c); 1 (cat (rep 2 c) b) = (cat b (rep 2 c)), 2 b ! c, 4 (left 1 d) = (left 1 (rep 2 c))"},
		{texts("b ! #b01", "(rep 2 b) = a", "(part 1 0 a) = #b10"), "a is (rep 2 b); 1 b ! #b01, 3 (part 1 0 (rep 2 b)) = #b10"},
	} {
		list := readLiterals(t, decls, c.texts...)
		got, left := checkSolve(t, decls, list)
		if text := solvedText(decls, got, left); text != c.want {
			t.Errorf("%q: %s, want %s", c.texts, text, c.want)
		}
	}
}

// What is bound is as Share tells it; of what is left a side in which the
// variable does not stand is as it was, however often its nodes stand in it,
// also where the variable stands in the other side.
func TestSolveSharesWhatItChanges(t *testing.T) {
	decls := solveDecls()
	twice, once := term(variable(1), variable(1), cat(0, 1)), term(variable(1), cat(0, 0))
	odd := term(constant("01"), constant("01"), cat(0, 1))
	for what, c := range map[string]struct {
		list []impl.Literal
		want []impl.Binding
		left []impl.Literal
	}{
		"what is bound":           {[]impl.Literal{literal(7, true, term(variable(0)), twice)}, bindings(binding(0, once)), nil},
		"what is bound, in S":     {[]impl.Literal{literal(7, true, twice, term(variable(0)))}, bindings(binding(0, once)), nil},
		"what has nothing of it":  {[]impl.Literal{literal(7, true, term(variable(0)), term(variable(3))), literal(9, true, twice, odd)}, bindings(binding(0, term(variable(3)))), []impl.Literal{literal(9, true, twice, odd)}},
		"an inequality with none": {[]impl.Literal{literal(1, false, odd, twice), literal(2, true, term(variable(0)), term(variable(3)))}, bindings(binding(0, term(variable(3)))), []impl.Literal{literal(1, false, odd, twice)}},
		"what has it":             {[]impl.Literal{literal(1, true, term(variable(2)), term(variable(1))), literal(2, false, term(variable(2), variable(1), cat(0, 1)), term(variable(1), variable(2), cat(1, 0)))}, bindings(binding(2, term(variable(1)))), []impl.Literal{literal(2, false, once, once)}},
		"nothing is solved":       {[]impl.Literal{literal(1, true, twice, odd), literal(3, false, odd, odd)}, nil, []impl.Literal{literal(1, true, twice, odd), literal(3, false, odd, odd)}},
		"what is put in is ahead": {[]impl.Literal{literal(1, true, term(variable(0)), term(variable(2), variable(1), cat(0, 1))), literal(2, false, term(variable(1), variable(0), cat(0, 1)), term(constant("000000")))}, bindings(binding(0, term(variable(2), variable(1), cat(0, 1)))), []impl.Literal{literal(2, false, term(variable(2), variable(1), cat(0, 1), cat(1, 2)), term(constant("000000")))}},
		"S has it, T stays":       {[]impl.Literal{literal(1, true, term(variable(0)), term(variable(3))), literal(2, false, term(variable(0)), odd)}, bindings(binding(0, term(variable(3)))), []impl.Literal{literal(2, false, term(variable(3)), odd)}},
		"T has it, S stays":       {[]impl.Literal{literal(1, true, term(variable(0)), term(variable(3))), literal(2, false, twice, term(variable(0)))}, bindings(binding(0, term(variable(3)))), []impl.Literal{literal(2, false, twice, term(variable(3)))}},
		"ahead, T stays":          {[]impl.Literal{literal(5, true, twice, odd), literal(7, true, term(variable(1)), term(variable(2)))}, bindings(binding(1, term(variable(2)))), []impl.Literal{literal(5, true, term(variable(2), cat(0, 0)), odd)}},
		"one after the other":     {[]impl.Literal{literal(1, true, term(variable(2)), term(variable(1))), literal(2, true, term(variable(0)), term(variable(3))), literal(3, false, term(variable(2), variable(2), cat(0, 1)), odd), literal(4, true, odd, term(variable(0), variable(0), cat(0, 1), part(3, 0, 2)))}, bindings(binding(2, term(variable(1))), binding(0, term(variable(3)))), []impl.Literal{literal(3, false, once, odd), literal(4, true, odd, term(variable(3), cat(0, 0), part(3, 0, 1)))}},
		"shared when it is bound": {[]impl.Literal{literal(1, true, term(variable(0)), term(variable(3))), literal(2, true, term(variable(0)), odd)}, bindings(binding(0, term(variable(3))), binding(3, term(constant("01"), cat(0, 0)))), nil},
	} {
		got, left := checkSolve(t, decls, c.list)
		if !slices.EqualFunc(got, c.want, sameBinding) || !slices.EqualFunc(left, c.left, sameLiteral) {
			t.Errorf("%s: %v and %v, want %v and %v", what, got, left, c.want, c.left)
		}
	}
}

// solveWithin asks with a variable bound to a term of deep nodes, and literals
// in which that variable has so many nodes around it.
func solveWithin(deep int, around ...int) ([]impl.Literal, []impl.Binding, []impl.Literal, bool) {
	other := func(count int) impl.Term {
		x := term(variable(3))
		for i := range count {
			x.Nodes = append(x.Nodes, one(impl.TmSign, 0, int64(i)))
		}
		return x
	}
	list := []impl.Literal{literal(1, true, term(variable(0)), other(deep-1))}
	for i, count := range around {
		list = append(list, literal(int64(i+2), false, chain(variable(0), count), term(variable(4))))
	}
	got, left, ok := impl.Solve(solveDecls(), list)
	return list, got, left, ok
}

// Where a Replace is false the list is as it was, in all literals.
func TestSolveAtItsLimit(t *testing.T) {
	for _, c := range []struct {
		deep   int
		around []int
		solved bool
	}{
		{200, []int{199}, true}, {200, []int{200}, true}, {200, []int{201}, false}, {400, nil, true}, {400, []int{0}, true}, {400, []int{1}, false}, {1, []int{399}, true}, {2, []int{399}, false}, {200, []int{3, 200, 5}, true}, {200, []int{3, 201, 5}, false}, {200, []int{201, 3}, false}, {200, []int{3, 4, 201}, false}, {200, []int{200, 200, 201}, false},
	} {
		list, got, left, ok := solveWithin(c.deep, c.around...)
		if !ok || len(got) != 1 && c.solved || len(got) != 0 && !c.solved {
			t.Fatalf("%v: %d bindings, %v", c, len(got), ok)
		}
		if !c.solved {
			if !slices.EqualFunc(left, list, sameLiteral) {
				t.Errorf("%v: the list is not as it was", c)
			}
			continue
		}
		for i, l := range left {
			if len(l.S.Nodes) != c.deep+c.around[i] || !sameTerm(l.T, list[i+1].T) || l.Id != list[i+1].Id || l.Equal {
				t.Errorf("%v: %d nodes at %d", c, len(l.S.Nodes), i)
			}
		}
		if len(left) != len(c.around) || got[0].Var != 0 || !sameTerm(got[0].Term, list[0].T) {
			t.Errorf("%v: %d left", c, len(left))
		}
	}
}

// It is over then, ahead of that Binding alone, whatever could be solved behind it.
func TestSolveEndsOnTheWay(t *testing.T) {
	decls := solveDecls()
	long, wide := chain(variable(3), 199), chain(variable(0), 201)
	for what, c := range map[string]struct {
		list []impl.Literal
		want []impl.Binding
		left []impl.Literal
	}{
		"one that could be solved behind it": {[]impl.Literal{literal(1, true, term(variable(0)), long), literal(2, false, wide, term(variable(4))), literal(3, true, term(variable(1)), term(variable(2)))}, nil, []impl.Literal{literal(1, true, term(variable(0)), long), literal(2, false, wide, term(variable(4))), literal(3, true, term(variable(1)), term(variable(2)))}},
		"one that was solved ahead of it":    {[]impl.Literal{literal(3, true, term(variable(1)), term(variable(2))), literal(4, true, term(variable(0)), long), literal(5, false, wide, term(variable(4))), literal(6, false, term(variable(1)), term(constant("00")))}, bindings(binding(1, term(variable(2)))), []impl.Literal{literal(4, true, term(variable(0)), long), literal(5, false, wide, term(variable(4))), literal(6, false, term(variable(2)), term(constant("00")))}},
		"the other side is too long, too":    {[]impl.Literal{literal(1, true, long, term(variable(0))), literal(2, true, term(variable(4)), wide)}, nil, []impl.Literal{literal(1, true, long, term(variable(0))), literal(2, true, term(variable(4)), wide)}},
		"solved in another order it would":   {[]impl.Literal{literal(1, true, term(variable(4)), wide), literal(2, true, term(variable(0)), long)}, bindings(binding(4, wide), binding(0, long)), nil},
		"made too long by the one ahead":     {[]impl.Literal{literal(1, true, term(variable(3)), chain(variable(4), 200)), literal(2, true, term(variable(0)), long), literal(3, false, chain(variable(0), 10), term(variable(4)))}, bindings(binding(3, chain(variable(4), 200))), []impl.Literal{literal(2, true, term(variable(0)), chain(variable(4), 399)), literal(3, false, chain(variable(0), 10), term(variable(4)))}},
	} {
		got, left, ok := impl.Solve(decls, c.list)
		if !ok || !slices.EqualFunc(got, c.want, sameBinding) || !slices.EqualFunc(left, c.left, sameLiteral) {
			t.Errorf("%s: %d bindings and %d literals, %v", what, len(got), len(left), ok)
		}
	}
}

func TestSolveOfManyVariables(t *testing.T) {
	decls := manyDecls(60, 3)
	var list []impl.Literal
	for v := range int64(60) {
		x := term(variable(v+1), one(impl.TmLeft, 1, 0))
		if v == 59 {
			x = term(constant("001"))
		}
		list = append(list, literal(v+1, true, x, term(variable(v))))
	}
	got, left := checkSolve(t, decls, list)
	if len(got) != 60 || len(left) != 0 {
		t.Fatalf("%d bindings and %d literals", len(got), len(left))
	}
	rows := thrownRows(&dice{state: 6}, decls)
	values, ok := impl.Bind(decls, got, valuesOfRows(rows))
	if !ok || !holdByRows(list, rowsOfValues(values)) || rowOfBits(values[59]) != "001" || rowOfBits(values[58]) != "010" || rowOfBits(values[0]) != "100" {
		t.Errorf("%v, %v", rowsOfValues(values), ok)
	}
	slices.Reverse(list)
	for i := range list {
		list[i].Id = int64(i + 1)
	}
	got, left, ok = impl.Solve(decls, list)
	if !ok || len(got) != 60 || len(left) != 0 || got[0].Var != 59 || got[59].Var != 0 || len(got[59].Term.Nodes) != 60 {
		t.Errorf("%d bindings and %d literals, %v", len(got), len(left), ok)
	}
}

func TestSolveRefuses(t *testing.T) {
	refused := func(what string, decls []impl.Decl, list []impl.Literal) {
		t.Helper()
		if got, left, ok := impl.Solve(decls, list); ok || len(got) != 0 || len(left) != 0 {
			t.Errorf("%s: %v, %v, %v", what, got, left, ok)
		}
	}
	for what, list := range wrongLists() {
		if !strings.Contains(what, "long") {
			refused(what, someDecls(), list)
		} else if _, _, ok := impl.Solve(someDecls(), list); !ok {
			// a side needs no flat form here
			t.Errorf("%s: refused", what)
		}
	}
	for _, wrong := range wrongDecls() {
		refused("wrong decls", wrong, nil)
		refused("wrong decls", wrong, []impl.Literal{literal(1, true, term(variable(0)), term(constant("0000")))})
	}
	full := wrongLists()["61 literals"]
	for i := range full {
		full[i].S = term(constant("0000"))
	}
	refused("61 literals", someDecls(), full)
	got, left, ok := impl.Solve(someDecls(), full[:60])
	if !ok || len(got) != 1 || len(left) != 59 || left[58].Id != 60 {
		t.Errorf("60 literals: %d bindings and %d literals, %v", len(got), len(left), ok)
	}
	for _, decls := range [][]impl.Decl{nil, someDecls()} {
		if got, left, ok := impl.Solve(decls, nil); !ok || len(got) != 0 || len(left) != 0 {
			t.Errorf("no literals: %v, %v, %v", got, left, ok)
		}
	}
	// a term without a flat form is bound as any
	long := term(variable(0), one(impl.TmRep, 2001, 0))
	wide := []impl.Decl{{Name: "a", Width: 1}, {Name: "b", Width: 2001}}
	got, left, ok = impl.Solve(wide, []impl.Literal{literal(1, true, long, term(variable(1))), literal(2, false, term(variable(1)), long)})
	if !ok || !slices.EqualFunc(got, bindings(binding(1, long)), sameBinding) || !slices.EqualFunc(left, []impl.Literal{literal(2, false, long, long)}, sameLiteral) {
		t.Errorf("no flat form: %v, %v, %v", got, left, ok)
	}
}

func TestSolveOfThrownLiterals(t *testing.T) {
	d := dice{state: 191}
	decls := someDecls()
	told := make(map[int]int)
	for range 1500 {
		got, left := checkSolve(t, decls, thrownEquations(&d, decls, d.below(9)))
		told[min(3, len(got))]++
		told[10+min(3, len(left))]++
	}
	for _, key := range []int{0, 1, 2, 3, 10, 11, 12, 13} {
		if told[key] < 30 {
			t.Errorf("%d is too seldom: %v", key, told)
		}
	}
}

// The promise: values that are bound, and by which what is left holds, are
// values by which all hold; and there are no others.
func TestSolveByAllValues(t *testing.T) {
	d := dice{state: 192}
	holding, failing, solved := 0, 0, 0
	check := func(decls []impl.Decl, list []impl.Literal) {
		got, left := checkSolve(t, decls, list)
		solved += len(got)
		for _, rows := range valuesOfAll(decls, nil) {
			values, ok := impl.Bind(decls, got, valuesOfRows(rows))
			if !ok || !impl.ValuesOk(decls, values) {
				t.Fatalf("%v by %q: %v, %v", got, rows, values, ok)
			}
			bound := rowsOfValues(values)
			if !slices.Equal(bound, boundByRows(rows, got)) {
				t.Fatalf("%v by %q: %q, want %q", got, rows, bound, boundByRows(rows, got))
			}
			is := holdByRows(left, rows)
			if is != holdByRows(left, bound) || is != holdByRows(list, bound) || is != (impl.FirstFails(decls, values, list) == 0) {
				t.Fatalf("%s by %q: %v of %s", solvedText(decls, nil, list), bound, is, solvedText(decls, got, left))
			}
			if is {
				holding++
			} else {
				failing++
			}
			if holdByRows(list, rows) && !slices.Equal(bound, rows) {
				t.Fatalf("%s holds by %q, and %q is bound", solvedText(decls, nil, list), rows, bound)
			}
		}
	}
	cut := []impl.Decl{{Name: "a", Width: 3}, {Name: "b", Width: 2}, {Name: "c", Width: 2}, {Name: "d", Width: 1}}
	for range 120 {
		check(cut, thrownEquations(&d, cut, 1+d.below(5)))
	}
	narrowLists(&d, 20, check)
	if holding < 3000 || failing < 3000 || solved < 150 {
		t.Errorf("too seldom: %d, %d, %d", holding, failing, solved)
	}
}

func TestBindByHand(t *testing.T) {
	decls := solveDecls()
	read := func(v int64, text string) impl.Binding { return binding(v, readTerm(t, decls, text)) }
	rows := texts("0001", "10", "01", "0110", "1111")
	for _, c := range []struct {
		list []impl.Binding
		want []string
	}{
		{nil, rows}, {bindings(), rows},
		{bindings(read(0, "(rep 2 b)")), texts("1010", "10", "01", "0110", "1111")}, {bindings(read(0, "#x7")), texts("0111", "10", "01", "0110", "1111")}, {bindings(read(4, "(cat c b)")), texts("0001", "10", "01", "0110", "0110")},
		// from the last to the first: one hangs on one behind it
		{bindings(read(0, "d"), read(3, "e"), read(4, "#x3")), texts("0011", "10", "01", "0011", "0011")}, {bindings(read(0, "(rep 2 b)"), read(1, "c")), texts("0101", "01", "01", "0110", "1111")},
		// and on one ahead of it: that still has its value
		{bindings(read(4, "#x3"), read(3, "e"), read(0, "d")), texts("0110", "10", "01", "1111", "0011")}, {bindings(read(1, "c"), read(0, "(rep 2 b)")), texts("1010", "01", "01", "0110", "1111")},
		// its own variable
		{bindings(read(0, "a")), rows}, {bindings(read(0, "(left 1 a)")), texts("0010", "10", "01", "0110", "1111")},
		// two of the same: the first comes last
		{bindings(read(0, "#x3"), read(0, "#x5")), texts("0011", "10", "01", "0110", "1111")}, {bindings(read(0, "(left 1 a)"), read(0, "#x5")), texts("1010", "10", "01", "0110", "1111")}, {bindings(read(0, "(left 1 a)"), read(0, "(left 1 a)"), read(0, "(left 1 a)")), texts("1000", "10", "01", "0110", "1111")}, {bindings(read(0, "#x3"), read(3, "a"), read(0, "#x5")), texts("0011", "10", "01", "0101", "1111")},
		// to and fro
		{bindings(read(1, "c"), read(2, "b")), texts("0001", "10", "10", "0110", "1111")}, {bindings(read(2, "b"), read(1, "c")), texts("0001", "01", "01", "0110", "1111")},
	} {
		got, ok := impl.Bind(decls, c.list, valuesOfRows(rows))
		if !ok || !slices.Equal(rowsOfValues(got), c.want) {
			t.Errorf("%s: %q, %v, want %q", solvedText(decls, c.list, nil), rowsOfValues(got), ok, c.want)
		}
		if !slices.Equal(boundByRows(rows, c.list), c.want) {
			t.Errorf("%s: the picture has %q", solvedText(decls, c.list, nil), boundByRows(rows, c.list))
		}
	}
	if got, ok := impl.Bind(nil, nil, nil); !ok || len(got) != 0 {
		t.Errorf("no variables: %v, %v", got, ok)
	}
}

func TestBindOfMany(t *testing.T) {
	decls := solveDecls()
	rows := thrownRows(&dice{state: 7}, decls)
	turn := binding(0, readTerm(t, decls, "(left 1 a)"))
	for _, count := range []int{0, 1, 59, 60, 61, 62, 1000} {
		list := slices.Repeat(bindings(turn), count)
		got, ok := impl.Bind(decls, list, valuesOfRows(rows))
		if count > 60 {
			if ok || len(got) != 0 {
				t.Errorf("%d: %v, %v", count, got, ok)
			}
			continue
		}
		if !ok || !slices.Equal(rowsOfValues(got), boundByRows(rows, list)) {
			t.Errorf("%d: %q, %v", count, rowsOfValues(got), ok)
		}
	}
	// 60 of 60 variables are straight, and one more is not
	all := manyDecls(60, 2)
	var list []impl.Binding
	for v := range int64(60) {
		list = append(list, binding(v, term(constant("10"))))
	}
	got, ok := impl.Bind(all, list, valuesOfRows(zeroRows(all)))
	if !ok || !slices.Equal(rowsOfValues(got), slices.Repeat(texts("10"), 60)) || !impl.Straight(all, list) || !impl.Straight(all, list[:59]) {
		t.Errorf("60: %q, %v", rowsOfValues(got), ok)
	}
	list = append(list, list[0])
	if got, ok := impl.Bind(all, list, valuesOfRows(zeroRows(all))); ok || len(got) != 0 || impl.Straight(all, list) {
		t.Errorf("61: %v, %v", got, ok)
	}
}

// wrongBindings are none for someDecls, each with what is wrong with it.
func wrongBindings() map[string]impl.Binding {
	decls := someDecls()
	list := make(map[string]impl.Binding)
	for _, v := range append(slices.Clone(farPlaces), 6, 7, 60) {
		list[fmt.Sprint("the variable ", v)] = binding(v, term(constant("0000")))
	}
	for v := range int64(6) {
		for width := range 70 {
			if int64(width) != decls[v].Width && width > 0 {
				list[fmt.Sprint("a width of ", width, " for ", v)] = binding(v, term(constant(strings.Repeat("1", width))))
			}
		}
	}
	for i, x := range append(wrongTerms(term(variable(0), one(impl.TmLeft, 1, 0))), wrongTerms(term(variable(1), variable(1), cat(0, 1)))...) {
		if b := binding(0, x); !fittingBinding(decls, b) {
			list[fmt.Sprint("the wrong term ", i)] = b
		}
	}
	list["no term"] = binding(0, impl.Term{})
	list["401 nodes"] = binding(0, chain(variable(0), 400))
	return list
}

func TestBindRefuses(t *testing.T) {
	decls := someDecls()
	d := dice{state: 193}
	fine := func() []impl.Bits { return valuesOfRows(thrownRows(&d, decls)) }
	refused := func(what string, decls []impl.Decl, list []impl.Binding, values []impl.Bits) {
		t.Helper()
		if got, ok := impl.Bind(decls, list, values); ok || len(got) != 0 {
			t.Errorf("%s: %v, %v", what, got, ok)
		}
	}
	good := binding(0, term(variable(1), cat(0, 0)))
	for what, wrong := range wrongBindings() {
		for _, list := range [][]impl.Binding{bindings(wrong), bindings(good, wrong), bindings(wrong, good), bindings(good, wrong, good)} {
			refused(what, decls, list, fine())
		}
	}
	if got, ok := impl.Bind(decls, bindings(binding(0, chain(variable(0), 399))), fine()); !ok || len(got) != 6 {
		t.Errorf("400 nodes: %v, %v", got, ok)
	}
	for _, list := range [][]impl.Binding{nil, bindings(good)} {
		refused("too few", decls, list, fine()[:5])
		refused("none", decls, list, nil)
		refused("too many", decls, list, append(fine(), bitsOfRow("0")))
		refused("some for no variables", nil, nil, fine())
		for place := range decls {
			for _, b := range append(wrongBits(), bitsOfRow(d.row(int(decls[place].Width)+1))) {
				values := fine()
				values[place] = b
				refused(fmt.Sprint(place, b), decls, list, values)
			}
			// a value of another width, where that variable is bound anyway
			values := fine()
			values[place] = bitsOfRow(d.row(int(decls[place].Width) + 1))
			refused("another width", decls, bindings(binding(int64(place), term(constant(d.row(int(decls[place].Width)))))), values)
		}
	}
	for _, wrong := range wrongDecls() {
		var values []impl.Bits
		for _, decl := range wrong {
			values = append(values, bitsOfRow(strings.Repeat("0", int(max(0, min(decl.Width, 5000))))))
		}
		refused("wrong decls", wrong, nil, values)
		refused("wrong decls", wrong, bindings(binding(0, term(constant("0000")))), values)
	}
}

func TestBindOfThrownBindings(t *testing.T) {
	d := dice{state: 194}
	decls := someDecls()
	told := make(map[bool]int)
	for range 2000 {
		var list []impl.Binding
		for range d.below(7) {
			list = append(list, thrownBinding(&d, decls))
		}
		rows := thrownRows(&d, decls)
		got, ok := impl.Bind(decls, list, valuesOfRows(rows))
		if want := boundByRows(rows, list); !ok || !slices.Equal(rowsOfValues(got), want) {
			t.Fatalf("%s by %q: %q, %v, want %q", solvedText(decls, list, nil), rows, rowsOfValues(got), ok, want)
		}
		straight := straightByTable(decls, list)
		if impl.Straight(decls, list) != straight {
			t.Fatalf("%s: told %v", solvedText(decls, list, nil), !straight)
		}
		told[straight]++
		// bound once more they are the same, and each variable is its term
		if again, ok := impl.Bind(decls, list, got); straight && (!ok || !slices.EqualFunc(again, got, sameBits)) {
			t.Fatalf("%s: %q, and then %q", solvedText(decls, list, nil), rowsOfValues(got), rowsOfValues(again))
		}
	}
	if told[true] < 300 || told[false] < 300 {
		t.Errorf("too seldom: %v", told)
	}
}

func TestStraightByHand(t *testing.T) {
	decls := solveDecls()
	read := func(v int64, text string) impl.Binding { return binding(v, readTerm(t, decls, text)) }
	for what, c := range map[string]struct {
		list []impl.Binding
		want bool
	}{
		"none":                       {nil, true},
		"one":                        {bindings(read(0, "(rep 2 b)")), true},
		"a constant":                 {bindings(read(0, "#x0")), true},
		"its own":                    {bindings(read(0, "a")), false},
		"its own, within":            {bindings(read(0, "(cat (part 1 0 a) b)")), false},
		"its own, behind another":    {bindings(read(1, "c"), read(0, "(left 1 a)")), false},
		"one behind it":              {bindings(read(0, "(rep 2 b)"), read(1, "c")), true},
		"one ahead of it":            {bindings(read(1, "c"), read(0, "(rep 2 b)")), false},
		"one ahead of one ahead":     {bindings(read(0, "d"), read(1, "c"), read(4, "a")), false},
		"two that have one":          {bindings(read(0, "(rep 2 b)"), read(3, "(rep 2 b)")), true},
		"two of the same":            {bindings(read(0, "#x0"), read(0, "#x0")), false},
		"two of the same, apart":     {bindings(read(0, "#x0"), read(1, "c"), read(0, "#x0")), false},
		"to and fro":                 {bindings(read(0, "d"), read(3, "a")), false},
		"all, one after the other":   {bindings(read(0, "(cat b c)"), read(1, "c"), read(2, "(part 1 0 d)"), read(3, "e"), read(4, "#xf")), true},
		"all, and the last once":     {bindings(read(0, "(cat b c)"), read(1, "c"), read(2, "(part 1 0 d)"), read(3, "e"), read(4, "(left 1 d)")), false},
		"all, and the last its own":  {bindings(read(0, "(cat b c)"), read(1, "c"), read(2, "(part 1 0 d)"), read(3, "e"), read(4, "(left 1 e)")), false},
		"all, and the first's again": {bindings(read(0, "(cat b c)"), read(1, "c"), read(2, "(part 1 0 d)"), read(3, "e"), read(4, "(zero 0 a)")), false},
		"another width":              {bindings(read(0, "b")), false},
		"another width, the last":    {bindings(read(0, "d"), read(1, "d")), false},
	} {
		if got := impl.Straight(decls, c.list); got != c.want || straightByTable(decls, c.list) != c.want {
			t.Errorf("%s: told %v", what, got)
		}
	}
}

func TestStraightRefuses(t *testing.T) {
	decls := someDecls()
	good := binding(3, term(variable(1), part(0, 0, 0), cat(0, 1)))
	if !impl.Straight(decls, bindings(good)) {
		t.Error("one is straight")
	}
	for what, wrong := range wrongBindings() {
		for _, list := range [][]impl.Binding{bindings(wrong), bindings(good, wrong), bindings(wrong, good)} {
			if impl.Straight(decls, list) {
				t.Errorf("%s: straight", what)
			}
		}
	}
	for _, wrong := range append(wrongDecls(), []impl.Decl{{Name: "a", Width: -1}}, []impl.Decl{{Name: "a", Width: -1}, {Name: "b", Width: 4}}) {
		for _, x := range []impl.Term{{}, term(constant("0000")), term(variable(1)), term(constant("01"))} {
			if impl.Straight(wrong, bindings(binding(0, x))) {
				t.Errorf("straight for %v", short(fmt.Sprint(wrong)))
			}
		}
	}
	if impl.Straight(nil, bindings(binding(0, term(constant("0"))))) || !impl.Straight(nil, nil) {
		t.Error("no variables")
	}
	if x := binding(math.MaxInt64, impl.Term{}); impl.Straight(nil, bindings(x)) {
		t.Error("no variables, and a far one")
	}
}

func TestSolveKeeps(t *testing.T) {
	d := dice{state: 195}
	decls := someDecls()
	for range 200 {
		list := thrownEquations(&d, decls, d.below(7))
		keeps(t, impl.Solve, decls, list)
		got, _, _ := impl.Solve(decls, list)
		got = append(got, thrownBinding(&d, decls))
		keeps(t, impl.Bind, decls, got, valuesOfRows(thrownRows(&d, decls)))
		keeps(t, impl.Straight, decls, got)
	}
	// one term that is bound, and put into several, and literals that stay as they are
	word := "#x0123456789abcdef"
	wide := manyDecls(3, 64)
	list := readLiterals(t, wide, "v0 = (left 1 "+word+")", "v0 ! v1", "(left 1 v0) = (left 2 v0)", word+" ! "+word, "v1 = v2", "(cat v1 v0) = (cat v0 v2)")
	if got, left := checkSolve(t, wide, list); len(got) != 2 || len(left) != 4 {
		t.Errorf("%d bindings and %d literals", len(got), len(left))
	}
	keeps(t, impl.Solve, wide, list)
	same := binding(1, term(variable(2)))
	keeps(t, impl.Bind, wide, bindings(binding(0, term(variable(2))), same, binding(2, readTerm(t, wide, word))), valuesOfRows(zeroRows(wide)))
	keeps(t, impl.Solve, wide, append(slices.Clone(list), literal(1, true, impl.Term{}, impl.Term{})))
}
