package tests

import (
	"math"
	"slices"
	"testing"

	"loop.example/g00081/impl"
)

func readTerm(t *testing.T, decls []impl.Decl, text string) impl.Term {
	t.Helper()
	x, code, at := impl.ReadTerm(decls, text)
	if code != 0 {
		t.Fatalf("%q: %d at %d", text, code, at)
	}
	return x
}

func TestShareKeepsTheFirst(t *testing.T) {
	decls := someDecls()
	for _, c := range []struct{ x, want impl.Term }{
		{term(variable(0), variable(0), cat(0, 1)), term(variable(0), cat(0, 0))},
		{term(variable(0), variable(1), variable(0), cat(2, 1, 0)), term(variable(0), variable(1), cat(0, 1, 0))},
		{term(variable(0), one(impl.TmLeft, 1, 0), variable(0), one(impl.TmLeft, 1, 2), cat(3, 1)), term(variable(0), one(impl.TmLeft, 1, 0), cat(1, 1))},
		{term(variable(0), one(impl.TmLeft, 1, 0), one(impl.TmLeft, 1, 0), cat(2, 1)), term(variable(0), one(impl.TmLeft, 1, 0), cat(1, 1))},
		{term(variable(0), one(impl.TmLeft, 1, 0), one(impl.TmLeft, 2, 0), cat(2, 1)), term(variable(0), one(impl.TmLeft, 1, 0), one(impl.TmLeft, 2, 0), cat(2, 1))},
		{term(variable(0), one(impl.TmLeft, 1, 0), one(impl.TmRight, 1, 0), cat(2, 1)), term(variable(0), one(impl.TmLeft, 1, 0), one(impl.TmRight, 1, 0), cat(2, 1))},
		{term(variable(0), part(2, 1, 0), part(2, 0, 0), part(3, 1, 0), cat(1, 2, 3)), term(variable(0), part(2, 1, 0), part(2, 0, 0), part(3, 1, 0), cat(1, 2, 3))},
		{term(constant("01"), constant("001"), constant("01"), cat(2, 1, 0)), term(constant("01"), constant("001"), cat(0, 1, 0))},
		{term(constant("01"), constant("10"), cat(1, 0)), term(constant("01"), constant("10"), cat(1, 0))},
		{term(variable(0), variable(1), cat(0, 1), cat(1, 0), cat(2, 3)), term(variable(0), variable(1), cat(0, 1), cat(1, 0), cat(2, 3))},
		{term(variable(0), cat(0, 0), cat(0, 0, 0), cat(1, 2)), term(variable(0), cat(0, 0), cat(0, 0, 0), cat(1, 2))},
		{term(variable(0), one(impl.TmLeft, 0, 0), cat(0, 1)), term(variable(0), one(impl.TmLeft, 0, 0), cat(0, 1))},
	} {
		if got := impl.Share(decls, c.x); !sameTerm(got, c.want) {
			t.Errorf("%v is shared as %v, want %v", c.x, got, c.want)
		}
		checkTerm(t, decls, c.x)
	}
}

// Lists of places of two digits that would be one when they are only put behind one another.
func TestShareTellsListsApart(t *testing.T) {
	decls := manyDecls(13, 1)
	var x impl.Term
	for v := range int64(13) {
		x.Nodes = append(x.Nodes, variable(v))
	}
	x.Nodes = append(x.Nodes, cat(1, 11), cat(11, 1), cat(1, 1, 1), cat(1, 12), cat(11, 2), cat(1, 1, 2))
	x.Nodes = append(x.Nodes, cat(0, 2, 3, 4, 5, 6, 7, 8, 9, 10, 13, 14, 15, 16, 17, 18))
	if got := impl.Share(decls, x); !sameTerm(got, x) {
		t.Errorf("%v is shared as %v", x, got)
	}
}

func TestShareOfLongWords(t *testing.T) {
	d := dice{state: 3}
	row := d.row(2000)
	for at := range len(row) {
		other := []byte(row)
		other[at] ^= 1
		x := term(constant(row), constant(string(other)), cat(0, 1), part(1, 0, 2))
		if got := impl.Share(nil, x); !sameTerm(got, x) {
			t.Fatalf("words with another bit at %d are one", at)
		}
	}
	x := term(constant(row), constant(row), cat(1, 0), part(1, 0, 2))
	if got := impl.Share(nil, x); len(got.Nodes) != 3 {
		t.Errorf("shared as %d nodes", len(got.Nodes))
	}
}

func TestVarsOfRise(t *testing.T) {
	decls := someDecls()
	for _, c := range []struct {
		text string
		want []int64
	}{{"a", []int64{0}}, {"#b0", nil}, {"(cat c a)", []int64{0, 2}}, {"(cat c b a b c)", []int64{0, 1, 2}}, {"(cat w (left 3 w))", []int64{5}}, {"(part 0 0 (cat #b1 c))", []int64{2}}, {"(cat #b1 #b1)", nil}} {
		if got := impl.VarsOf(decls, readTerm(t, decls, c.text)); !slices.Equal(got, c.want) {
			t.Errorf("%s: %v, want %v", c.text, got, c.want)
		}
	}
	all := manyDecls(60, 1)
	var x impl.Term
	var kids []int64
	for v := range int64(60) {
		x.Nodes = append(x.Nodes, variable(59-v))
		kids = append(kids, v)
	}
	x.Nodes = append(x.Nodes, cat(kids...))
	if got := impl.VarsOf(all, x); !slices.Equal(got, kids) {
		t.Errorf("all: %v", got)
	}
}

// checkReplace asks for the document's order of nodes, and for the value that replacing is to have.
func checkReplace(t *testing.T, d *dice, decls []impl.Decl, x impl.Term, v int64, u impl.Term) {
	t.Helper()
	got, ok := impl.Replace(decls, x, v, u)
	if v < 0 || v >= int64(len(decls)) || impl.WidthOf(decls, u) != decls[v].Width {
		if ok || len(got.Nodes) != 0 {
			t.Fatalf("%v, %v of %d in %v by %v", got, ok, v, x, u)
		}
		return
	}
	want := replacedByWords(decls, x, v, u)
	if !ok || !sameTerm(got, want) {
		t.Fatalf("%v, %v of %d in %v by %v, want %v", got, ok, v, x, u, want)
	}
	if impl.WidthOf(decls, got) != impl.WidthOf(decls, x) {
		t.Fatalf("%v is not right or of another width: %d in %v by %v", got, v, x, u)
	}
	rows := thrownRows(d, decls)
	instead := slices.Clone(rows)
	instead[v] = lastOf(rowsByTable(rows, u))
	b, ok := impl.Eval(decls, valuesOfRows(rows), got)
	wantRow(t, "replaced", b, ok, lastOf(rowsByTable(instead, x)))
	c, ok := impl.Eval(decls, valuesOfRows(instead), x)
	if !ok || !sameBits(b, c) {
		t.Fatalf("%v has another value than %v with %d as %v", got, x, v, u)
	}
}

func TestReplaceByHand(t *testing.T) {
	decls := someDecls()
	for _, c := range []struct {
		x     string
		v     int64
		u     string
		want  string
		nodes int
	}{
		{"a", 0, "(rep 2 b)", "(rep 2 b)", 2},
		{"a", 0, "a", "a", 1},
		{"a", 0, "(left 1 a)", "(left 1 a)", 2},
		{"(left 1 a)", 0, "(left 1 a)", "(left 1 (left 1 a))", 3},
		{"(cat a a)", 0, "(rep 2 b)", "(cat (rep 2 b) (rep 2 b))", 3},
		{"(cat a b)", 0, "(rep 2 b)", "(cat (rep 2 b) b)", 3},
		{"(cat b (rep 2 b) a)", 0, "(rep 2 b)", "(cat b (rep 2 b) (rep 2 b))", 3},
		{"(cat b b)", 0, "(rep 2 b)", "(cat b b)", 2},
		{"(cat b (rep 2 b))", 0, "(rep 2 b)", "(cat b (rep 2 b))", 3},
		{"(cat b c)", 2, "(part 0 0 w)", "(cat b (part 0 0 w))", 4},
		{"#b01", 1, "#b10", "#b01", 1},
		{"(cat a a a)", 0, "#x7", "(cat #x7 #x7 #x7)", 2},
		{"(cat a (cat b c) a)", 1, "(cat c c)", "(cat a (cat (cat c c) c) a)", 5},
	} {
		x, u := readTerm(t, decls, c.x), readTerm(t, decls, c.u)
		got, ok := impl.Replace(decls, x, c.v, u)
		if text := impl.WriteTerm(decls, got); !ok || text != c.want || len(got.Nodes) != c.nodes {
			t.Errorf("%s with %d as %s: %s of %d nodes, %v", c.x, c.v, c.u, text, len(got.Nodes), ok)
		}
		checkReplace(t, &dice{state: 2}, decls, x, c.v, u)
	}
}

func TestReplaceKeepsTheOrder(t *testing.T) {
	decls := someDecls()
	x := term(variable(1), variable(0), variable(0), variable(2), cat(3, 2, 1, 0))
	u := term(variable(2), variable(1), variable(2), cat(0, 1, 2))
	want := term(variable(2), variable(1), cat(0, 1, 0), cat(0, 2, 2, 1))
	if got, ok := impl.Replace(decls, x, 0, u); !ok || !sameTerm(got, want) {
		t.Errorf("%v, %v, want %v", got, ok, want)
	}
	// Where the variable does not stand, not even the order is that of u.
	x = term(variable(2), variable(1), cat(0, 1))
	want = term(variable(2), variable(1), cat(0, 1))
	u = term(variable(1), variable(2), cat(0, 1, 1))
	if got, ok := impl.Replace(decls, x, 0, u); !ok || !sameTerm(got, want) {
		t.Errorf("%v, %v, want %v", got, ok, want)
	}
}

func TestReplaceRefuses(t *testing.T) {
	decls := someDecls()
	x, u := readTerm(t, decls, "(cat a b)"), readTerm(t, decls, "(rep 2 b)")
	for _, v := range []int64{math.MinInt64, -1, 1, 2, 3, 4, 5, 6, 7, 60, math.MaxInt64} {
		if got, ok := impl.Replace(decls, x, v, u); ok || len(got.Nodes) != 0 {
			t.Errorf("%d: %v, %v", v, got, ok)
		}
	}
	wrong := term(variable(1), variable(1), one(impl.TmRep, 2, 0))
	for _, pair := range [][2]impl.Term{{wrong, u}, {x, wrong}, {impl.Term{}, u}, {x, impl.Term{}}} {
		if got, ok := impl.Replace(decls, pair[0], 0, pair[1]); ok || len(got.Nodes) != 0 {
			t.Errorf("%v: %v, %v", pair, got, ok)
		}
	}
	// A width that does not fit is refused, though the variable does not stand there.
	if got, ok := impl.Replace(decls, u, 2, u); ok || len(got.Nodes) != 0 {
		t.Errorf("%v, %v", got, ok)
	}
	if got, ok := impl.Replace(nil, term(constant("0")), 0, term(constant("0"))); ok || len(got.Nodes) != 0 {
		t.Errorf("no decls: %v, %v", got, ok)
	}
}

func TestReplaceAtItsLimit(t *testing.T) {
	decls := someDecls()
	for _, c := range []struct {
		around, deep int
		want         bool
	}{{199, 200, true}, {200, 199, true}, {200, 200, false}, {399, 0, true}, {399, 1, false}, {0, 399, true}, {1, 398, true}, {1, 399, false}, {399, 399, false}} {
		x := chain(variable(0), c.around)
		u := term(variable(0))
		for i := range c.deep {
			u.Nodes = append(u.Nodes, one(impl.TmSign, 0, int64(i)))
		}
		got, ok := impl.Replace(decls, x, 0, u)
		if ok != c.want || ok && len(got.Nodes) != c.around+c.deep+1 || !ok && len(got.Nodes) != 0 {
			t.Errorf("%d around %d: %v with %d nodes", c.around, c.deep, ok, len(got.Nodes))
		}
	}
	// More than 400 stand in both, but no more than 400 unlike ones.
	x, u := chain(variable(1), 399), chain(variable(1), 398)
	x.Nodes[399] = cat(398, 398)
	if got, ok := impl.Replace(decls, x, 1, u); ok || len(got.Nodes) != 0 {
		t.Errorf("too many unlike ones: %v", ok)
	}
	same := impl.Term{Nodes: append(chain(variable(1), 397).Nodes, variable(2), cat(397, 398))}
	if got, ok := impl.Replace(decls, same, 2, term(variable(2))); !ok || len(got.Nodes) != 400 {
		t.Errorf("itself: %v with %d nodes", ok, len(got.Nodes))
	}
	narrow := impl.Term{Nodes: append(chain(variable(1), 397).Nodes, part(0, 0, 397))}
	got, ok := impl.Replace(decls, same, 2, narrow)
	if !ok || len(got.Nodes) != 400 || !sameNode(got.Nodes[398], part(0, 0, 397)) || !sameNode(got.Nodes[399], cat(397, 398)) {
		t.Errorf("the same chain twice: %v with %d nodes", ok, len(got.Nodes))
	}
	full := impl.Term{Nodes: append(chain(variable(1), 398).Nodes, part(0, 0, 398))}
	if got, ok := impl.Replace(decls, same, 2, full); ok || len(got.Nodes) != 0 {
		t.Errorf("one too many: %v with %d nodes", ok, len(got.Nodes))
	}
	// Where the variable does not stand, the nodes of u count for nothing.
	if got, ok := impl.Replace(decls, chain(variable(1), 399), 0, chain(variable(0), 399)); !ok || len(got.Nodes) != 400 {
		t.Errorf("not there: %v with %d nodes", ok, len(got.Nodes))
	}
}

func TestReplaceInThrownTerms(t *testing.T) {
	d := dice{state: 23}
	decls := []impl.Decl{{Name: "a", Width: 4}, {Name: "b", Width: 2}, {Name: "c", Width: 1}}
	fitting := 0
	for range 6000 {
		x, u := thrownTerm(&d, decls, 12), thrownTerm(&d, decls, 8)
		width := impl.WidthOf(decls, u)
		v := int64(d.below(3))
		if width >= decls[v].Width {
			last := int64(len(u.Nodes) - 1)
			u.Nodes = append(u.Nodes, part(decls[v].Width-1, 0, last))
			fitting++
		}
		checkReplace(t, &d, decls, x, v, u)
		checkReplace(t, &d, decls, x, int64(d.below(5)-1), u)
	}
	if fitting < 2000 {
		t.Errorf("only %d fit", fitting)
	}
}
