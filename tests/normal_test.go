package tests

import (
	"slices"
	"strings"
	"testing"

	"loop.example/g00081/impl"
)

func TestNormalByHand(t *testing.T) {
	decls := someDecls()
	for _, c := range []struct{ text, want string }{
		{"a", "a"}, {"#b01", "#b01"}, {"(part 2 1 a)", "(part 2 1 a)"}, {"(part 3 0 a)", "a"}, {"(zero 0 a)", "a"}, {"(sign 0 a)", "a"}, {"(left 4 a)", "a"}, {"(right 8 a)", "a"}, {"(rep 1 a)", "a"},
		{"(zero 3 b)", "(cat #b000 b)"}, {"(sign 2 b)", "(cat (part 1 1 b) (part 1 1 b) b)"}, {"(sign 2 c)", "(cat c c c)"}, {"(left 1 a)", "(cat (part 2 0 a) (part 3 3 a))"}, {"(right 1 a)", "(cat (part 0 0 a) (part 3 1 a))"}, {"(rep 2 b)", "(cat b b)"}, {"(rep 2 #b01)", "#x5"},
		{"(cat (part 3 2 a) (part 1 0 a))", "a"}, {"(cat (part 3 3 a) (part 1 0 a))", "(cat (part 3 3 a) (part 1 0 a))"}, {"(cat (part 3 2 a) (part 1 1 a))", "(part 3 1 a)"}, {"(cat #b1 #b0)", "#b10"}, {"(cat b (cat #b1 #b0) (cat #b11 a))", "(cat b #xb a)"}, {"(cat b (cat a b) a)", "(cat b a b a)"}, {"(part 4 1 (cat b a))", "(cat (part 0 0 b) (part 3 1 a))"}, {"(left 1 (cat (part 3 1 a) (part 0 0 a)))", "(cat (part 2 0 a) (part 3 3 a))"}, {"(right 1 (left 1 a))", "a"}, {"(part 1 0 (part 3 2 a))", "(part 3 2 a)"}, {"(part 64 63 (cat x9 c))", "(part 63 62 x9)"},
	} {
		got, ok := impl.Normal(decls, readTerm(t, decls, c.text))
		if text := impl.WriteTerm(decls, got); !ok || text != c.want {
			t.Errorf("%s: %s, %v, want %s", c.text, text, ok, c.want)
		}
	}
	// as Share tells it
	got, ok := impl.Normal(decls, readTerm(t, decls, "(cat (part 0 0 a) (part 0 0 a) b #b1 b #b1)"))
	if want := term(variable(0), part(0, 0, 0), variable(1), constant("1"), cat(1, 1, 2, 3, 2, 3)); !ok || !sameTerm(got, want) {
		t.Errorf("%v, %v, want %v", got, ok, want)
	}
}

// checkNormal: the same word, by its form and by thrown values, and normal.
func checkNormal(t *testing.T, d *dice, decls []impl.Decl, x impl.Term) {
	t.Helper()
	got, ok := impl.Normal(decls, x)
	if want := termOfForm(decls, formByTable(decls, x)); !ok || !sameTerm(got, want) {
		t.Fatalf("%v: %v, %v, want %v", x, got, ok, want)
	}
	again, ok := impl.Normal(decls, got)
	if !ok || !sameTerm(again, got) {
		t.Fatalf("%v is normal, and then %v, %v", got, again, ok)
	}
	if !impl.SameWord(decls, x, got) || !impl.SameWord(decls, got, x) || !impl.SameWord(decls, x, x) {
		t.Fatalf("%v and %v are two words", x, got)
	}
	rows := thrownRows(d, decls)
	b, ok := impl.Eval(decls, valuesOfRows(rows), got)
	wantRow(t, "normal", b, ok, lastOf(rowsByTable(rows, x)))
}

// The promise, by all values: a normal term is the same word; and two terms
// have one form just where they are the same by all values.
func TestNormalByAllValues(t *testing.T) {
	d := dice{state: 181}
	decls := []impl.Decl{{Name: "a", Width: 3}, {Name: "b", Width: 2}, {Name: "c", Width: 1}}
	all := valuesOfAll(decls, nil)
	told := [2]int{}
	for range 600 {
		x := thrownTower(&d, decls, 8)
		checkNormal(t, &d, decls, x)
		got, _ := impl.Normal(decls, x)
		for _, rows := range all {
			if lastOf(rowsByTable(rows, got)) != lastOf(rowsByTable(rows, x)) {
				t.Fatalf("%v and %v are unlike by %q", x, got, rows)
			}
		}
		for range 4 {
			s, u := thrownSides(&d, decls, 1)
			same := !slices.ContainsFunc(all, func(rows []string) bool { return lastOf(rowsByTable(rows, s)) != lastOf(rowsByTable(rows, u)) })
			if impl.SameWord(decls, s, u) != same || impl.SameWord(decls, u, s) != same {
				t.Fatalf("%v and %v: told %v", s, u, !same)
			}
			if same {
				told[1]++
			} else {
				told[0]++
			}
		}
	}
	if told[0] < 300 || told[1] < 30 {
		t.Errorf("too seldom: %v", told)
	}
}

func TestNormalOfThrownTerms(t *testing.T) {
	d := dice{state: 182}
	decls := someDecls()
	for range 1500 {
		checkNormal(t, &d, decls, thrownTerm(&d, decls, 14))
		checkNormal(t, &d, decls, thrownTower(&d, decls, 14))
	}
}

func TestSameWordByHand(t *testing.T) {
	decls := append(someDecls(), impl.Decl{Name: "a2", Width: 4})
	for _, c := range []struct {
		s, u string
		want bool
	}{
		{"a", "a", true}, {"a", "a2", false}, {"(rep 2 b)", "(cat b b)", true}, {"a", "(rep 2 b)", false}, {"(rep 2 b)", "(rep 4 c)", false}, {"(zero 2 b)", "(cat #b00 b)", true}, {"(zero 2 b)", "(cat b #b00)", false}, {"(zero 2 b)", "(cat #b0 b)", false}, {"(left 1 a)", "(right 3 a)", true}, {"(left 1 a)", "(right 1 a)", false}, {"(sign 1 c)", "(cat c c)", true}, {"(sign 1 #b1)", "#b11", true}, {"(sign 1 #b1)", "(zero 1 #b1)", false}, {"(part 3 2 (cat (part 3 2 a) b))", "(part 3 2 a)", true}, {"(part 1 0 (cat a b))", "b", true}, {"#b01", "#b001", false}, {"#b01", "#b01", true}, {"#b01", "#b11", false}, {"(part 1 0 a)", "(part 2 1 a)", false}, {"(part 1 0 a)", "(part 0 0 a)", false},
	} {
		s, u := readTerm(t, decls, c.s), readTerm(t, decls, c.u)
		if impl.SameWord(decls, s, u) != c.want || impl.SameWord(decls, u, s) != c.want {
			t.Errorf("%s and %s: told %v", c.s, c.u, !c.want)
		}
	}
}

// A term may be right and have no flat form: then it is no normal one's word,
// not even its own; rules fit there as anywhere.
func TestWordsWithoutForm(t *testing.T) {
	decls := someDecls()
	half, long := term(variable(2), one(impl.TmRep, 2000, 0)), term(variable(2), one(impl.TmRep, 2001, 0))
	inner := term(variable(2), one(impl.TmRep, 2001, 0), part(0, 0, 1))
	for what, x := range map[string]impl.Term{"the whole": long, "a node of it": inner} {
		got, ok := impl.Normal(decls, x)
		wantNoTerm(t, what, got, ok)
		if impl.SameWord(decls, x, x) || impl.SameWord(decls, x, term(variable(2))) || impl.SameWord(decls, term(variable(2)), x) {
			t.Errorf("%s: the same word", what)
		}
		if got, ok := impl.Rewrite(decls, x, 1, impl.RwRep); !ok || len(got.Nodes) != len(x.Nodes) || len(got.Nodes[1].Kids) != 2001 {
			t.Errorf("%s: %v with %d nodes", what, ok, len(got.Nodes))
		}
		if got := impl.Leaves(decls, x); got != 1 {
			t.Errorf("%s: %d leaves", what, got)
		}
	}
	got, ok := impl.Normal(decls, half)
	if want := term(variable(2), cat(make([]int64, 2000)...)); !ok || !sameTerm(got, want) || !impl.SameWord(decls, half, half) {
		t.Errorf("2000 segments: %v with %d nodes", ok, len(got.Nodes))
	}
}

// turnedVars are variables of 10 bits, each turned by 1 .. 9: of each there
// are 18 parts, all unlike, so that a normal term has 19 nodes for each, and one.
func turnedVars(count int) (impl.Term, []int64) {
	var x impl.Term
	var kids []int64
	for v := range int64(count) {
		at := int64(len(x.Nodes))
		x.Nodes = append(x.Nodes, variable(v))
		for by := int64(1); by < 10; by++ {
			kids = append(kids, at+by)
			x.Nodes = append(x.Nodes, one(impl.TmLeft, by, at))
		}
	}
	return x, kids
}

func TestNormalAtItsLimit(t *testing.T) {
	decls := manyDecls(22, 10)
	for what, c := range map[string]struct {
		vars int
		more []impl.TNode
		want int
	}{
		"21 variables":              {21, nil, 400},
		"21 variables, one twice":   {21, []impl.TNode{one(impl.TmLeft, 3, 0)}, 400},
		"21 variables, and a bit":   {21, []impl.TNode{constant("1")}, 0},
		"21 variables, and a part":  {21, []impl.TNode{part(4, 3, 0)}, 0},
		"21 variables, parts alike": {21, []impl.TNode{part(4, 0, 0), part(9, 2, 10)}, 400},
		"20 variables and 3 others": {20, []impl.TNode{part(4, 3, 0), part(5, 3, 0), constant("1")}, 384},
		"22 variables":              {22, nil, 0},
	} {
		x, kids := turnedVars(c.vars)
		for _, node := range c.more {
			kids = append(kids, int64(len(x.Nodes)))
			x.Nodes = append(x.Nodes, node)
		}
		x.Nodes = append(x.Nodes, cat(kids...))
		got, ok := impl.Normal(decls, x)
		if ok != (c.want > 0) || len(got.Nodes) != c.want {
			t.Errorf("%s: %v with %d nodes, want %d", what, ok, len(got.Nodes), c.want)
		}
		if ok && !sameTerm(got, termOfForm(decls, formByTable(decls, x))) {
			t.Errorf("%s: another term", what)
		}
		// whatever becomes of the term, it is a word
		if !impl.SameWord(decls, x, x) {
			t.Errorf("%s: no word", what)
		}
	}
	// a term of 400 nodes, and of one more
	for _, nodes := range []int{399, 400, 401} {
		x := chain(variable(0), nodes-1)
		got, ok := impl.Normal(decls, x)
		if ok != (nodes <= 400) || ok && !sameTerm(got, term(variable(0))) || impl.SameWord(decls, x, term(variable(0))) != ok {
			t.Errorf("%d nodes: %v, %v", nodes, got, ok)
		}
	}
}

// leavesOf counts by going through the tree.
func leavesOf(x impl.Term, place int64) int64 {
	count := int64(0)
	for _, kid := range x.Nodes[place].Kids {
		count += leavesOf(x, kid)
	}
	return max(1, count)
}

func TestLeavesByHand(t *testing.T) {
	decls := someDecls()
	for _, c := range []struct {
		text string
		want int64
	}{
		{"a", 1}, {"#b1", 1}, {"(cat a a)", 2}, {"(cat b b #b1)", 3}, {"(cat (cat b b) (cat b b))", 4}, {"(rep 5 a)", 1}, {"(rep 5 (cat a b))", 2}, {"(left 1 (part 2 1 (sign 1 a)))", 1}, {"(cat a (rep 2 (cat a b #b1)) a)", 5},
	} {
		x := readTerm(t, decls, c.text)
		for _, x := range []impl.Term{x, impl.Share(decls, x)} {
			if got := impl.Leaves(decls, x); got != c.want {
				t.Errorf("%s with %d nodes: %d leaves, want %d", c.text, len(x.Nodes), got, c.want)
			}
		}
	}
	if got := impl.Leaves(nil, term(constant("1"), cat(make([]int64, 4096)...))); got != 4096 {
		t.Errorf("4096 Kids: %d leaves", got)
	}
	for _, nodes := range []int{399, 400, 401} {
		want := int64(1)
		if nodes > 400 {
			want = -1
		}
		if got := impl.Leaves(decls, chain(variable(0), nodes-1)); got != want {
			t.Errorf("%d nodes: %d leaves", nodes, got)
		}
	}
}

func TestLeavesOfThrownTerms(t *testing.T) {
	d := dice{state: 183}
	decls := someDecls()
	most := int64(0)
	for range 2000 {
		x := thrownTerm(&d, decls, 14)
		want := leavesOf(x, int64(len(x.Nodes)-1))
		if got := impl.Leaves(decls, x); got != want {
			t.Fatalf("%v: %d leaves, want %d", x, got, want)
		}
		if got := impl.Leaves(decls, impl.Share(decls, x)); got != want {
			t.Fatalf("%v: shared it has %d leaves, want %d", x, got, want)
		}
		most = max(most, want)
	}
	if most < 20 {
		t.Errorf("at most %d leaves", most)
	}
}

// leavesTerm has a tree of just so many leaves: each two nodes have twice as
// many as the two ahead of them, and the last one has those that are needed.
func leavesTerm(count int64) impl.Term {
	x := term(variable(0))
	var kids []int64
	for ; count > 0; count /= 2 {
		last := int64(len(x.Nodes) - 1)
		if count%2 == 1 {
			kids = append(kids, last)
		}
		if count > 1 {
			x.Nodes = append(x.Nodes, cat(last, last), part(0, 0, last+1))
		}
	}
	if len(kids) > 1 {
		x.Nodes = append(x.Nodes, cat(kids...))
	}
	return x
}

func TestLeavesAtTheirLimit(t *testing.T) {
	decls := manyDecls(1, 1)
	for _, count := range []int64{1, 2, 3, 1000, 524288, 524289, 999998, 999999, 1000000, 1000001, 1000002, 1048576, 2000000, 1 << 31, 1<<32 + 1, 1 << 62, 1<<63 - 1} {
		if got, want := impl.Leaves(decls, leavesTerm(count)), min(count, 1000000); got != want {
			t.Errorf("%d leaves: %d, want %d", count, got, want)
		}
	}
	// so many that no number holds them
	x := term(variable(0))
	for len(x.Nodes) < 43 {
		last := int64(len(x.Nodes) - 1)
		x.Nodes = append(x.Nodes, cat(slices.Repeat([]int64{last}, 4096)...), part(0, 0, last+1))
		want := int64(1000000)
		if len(x.Nodes) == 3 {
			want = 4096
		}
		if got := impl.Leaves(decls, x); got != want {
			t.Fatalf("%d nodes: %d leaves, want %d", len(x.Nodes), got, want)
		}
	}
	for what, wrong := range map[string]impl.Term{"nothing": {}, "no Kid of any": term(variable(0), variable(0)), "a Kid behind it": term(cat(0, 1), variable(0)), "too wide": term(constant(strings.Repeat("1", 4096)), cat(0, 0))} {
		if got := impl.Leaves(decls, wrong); got != -1 {
			t.Errorf("%s: %d leaves", what, got)
		}
	}
}
