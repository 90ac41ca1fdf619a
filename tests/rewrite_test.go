package tests

import (
	"fmt"
	"math"
	"slices"
	"strings"
	"testing"

	"loop.example/g00081/impl"
)

var allRules = []int64{impl.RwWhole, impl.RwParts, impl.RwTurn0, impl.RwRight, impl.RwWiden0, impl.RwZero, impl.RwRep, impl.RwRep1, impl.RwFlat, impl.RwConst, impl.RwCut}

// noRules are numbers of which the table has none.
var noRules = []int64{math.MinInt64, math.MinInt64 + 1, -11, -1, 0, 12, 13, 1 << 32, 1<<32 + 1, math.MaxInt64 - 1, math.MaxInt64}

func TestRewriteCodes(t *testing.T) {
	for i, rule := range allRules {
		if rule != int64(i+1) {
			t.Errorf("the rule %d is %d", i+1, rule)
		}
	}
	if impl.MaxLeaves != 1000000 {
		t.Errorf("at most %d leaves", impl.MaxLeaves)
	}
}

func wantNoTerm(t *testing.T, what string, got impl.Term, ok bool) {
	t.Helper()
	if ok || len(got.Nodes) != 0 {
		t.Fatalf("%s: %v, %v, want nothing and false", what, got, ok)
	}
}

// checkRewrite holds an answer against the picture, node by node.
func checkRewrite(t *testing.T, decls []impl.Decl, x impl.Term, place, rule int64) (impl.Term, bool) {
	t.Helper()
	got, ok := impl.Rewrite(decls, x, place, rule)
	what := fmt.Sprint("rule ", rule, " at ", place, " of ", short(textByTable(decls, x)))
	o, fits := outcomesByTable(decls, x, place)[rule]
	if !fits {
		wantNoTerm(t, what, got, ok)
		return got, false
	}
	if widths := widthsByTable(decls, got); !ok || widths == nil || lastOf(widths) != lastOf(widthsByTable(decls, x)) {
		t.Fatalf("%s: %v, %v is not right or of another width", what, got, ok)
	}
	if told, want := textsByTable(decls, got), textsBehind(decls, x, place, o); !slices.Equal(told, want) {
		t.Fatalf("%s: nodes %q, want %q", what, told, want)
	}
	if again := impl.Share(decls, got); !sameTerm(again, got) {
		t.Fatalf("%s: %v is shared as %v", what, got, again)
	}
	return got, true
}

// checkSite asks for all rules at a place, and for such as there are not.
func checkSite(t *testing.T, decls []impl.Decl, x impl.Term, place int64) {
	t.Helper()
	if got, want := impl.Rules(decls, x, place), rulesByTable(decls, x, place); !slices.Equal(got, want) {
		t.Fatalf("at %d of %s fit %v, want %v", place, short(textByTable(decls, x)), got, want)
	}
	for _, rule := range slices.Concat(allRules, noRules) {
		checkRewrite(t, decls, x, place, rule)
	}
}

func checkNoPlaces(t *testing.T, decls []impl.Decl, x impl.Term) {
	t.Helper()
	count := int64(len(x.Nodes))
	for _, place := range append(slices.Clone(farPlaces), count, count+1) {
		if got := impl.Rules(decls, x, place); len(got) != 0 {
			t.Fatalf("at %d of %d nodes fit %v", place, count, got)
		}
		for _, rule := range slices.Concat(allRules, noRules) {
			got, ok := impl.Rewrite(decls, x, place, rule)
			wantNoTerm(t, fmt.Sprint("rule ", rule, " at ", place, " of ", count), got, ok)
		}
	}
}

type ruleCase struct {
	rule int64
	list []string // what stands, and what it becomes: nothing where it does not fit
}

// Each rule at the last node, where it fits and where it just does not.
func TestRewriteByHand(t *testing.T) {
	decls := someDecls()
	for _, c := range []ruleCase{
		{impl.RwWhole, texts("(part 3 0 a)", "a", "(part 2 0 a)", "", "(part 3 1 a)", "", "(part 0 0 c)", "c", "(part 64 0 w)", "w", "(part 63 0 w)", "", "(part 64 1 w)", "", "(part 63 0 x9)", "x9", "(part 1 0 #b10)", "#b10", "(part 1 0 (part 2 1 a))", "(part 2 1 a)", "(part 5 0 (cat a b))", "(cat a b)", "(part 3 0 (left 1 a))", "(left 1 a)", "a", "", "(left 4 a)", "", "(zero 0 a)", "")},
		{impl.RwParts, texts("(part 1 0 (part 3 2 a))", "(part 3 2 a)", "(part 1 1 (part 3 1 a))", "(part 2 2 a)", "(part 0 0 (part 0 0 a))", "(part 0 0 a)", "(part 3 0 (part 3 0 a))", "(part 3 0 a)", "(part 0 0 (part 3 3 a))", "(part 3 3 a)", "(part 1 0 (part 2 1 (part 3 1 a)))", "(part 2 1 (part 3 1 a))", "(part 60 1 (part 64 2 w))", "(part 62 3 w)", "(part 0 0 (part 1 0 #b10))", "(part 0 0 #b10)", "(part 1 0 a)", "", "(part 1 0 (left 0 (part 3 2 a)))", "", "(left 0 (part 1 0 a))", "", "(part 1 0 (cat (part 3 2 a) (part 1 0 a)))", "")},
		{impl.RwTurn0, texts("(left 0 a)", "a", "(left 4 a)", "a", "(left 8 a)", "a", "(left 4096 a)", "a", "(right 0 a)", "a", "(right 4 a)", "a", "(right 8 a)", "a", "(right 4096 a)", "a", "(left 1 c)", "c", "(right 4095 c)", "c", "(left 63 cat)", "cat", "(right 130 w)", "w", "(left 3 a)", "", "(left 5 a)", "", "(left 9 a)", "", "(left 4095 a)", "", "(right 3 a)", "", "(right 5 a)", "", "(right 7 a)", "", "(left 64 w)", "", "(zero 0 a)", "", "(part 3 0 a)", "", "(rep 1 a)", "")},
		{impl.RwRight, texts("(right 1 a)", "(left 3 a)", "(right 2 a)", "(left 2 a)", "(right 3 a)", "(left 1 a)", "(right 5 a)", "(left 3 a)", "(right 7 a)", "(left 1 a)", "(right 9 a)", "(left 3 a)", "(right 4095 a)", "(left 1 a)", "(right 4096 cat)", "(left 2 cat)", "(right 1 w)", "(left 64 w)", "(right 66 w)", "(left 64 w)", "(right 64 w)", "(left 1 w)", "(right 1 (right 1 a))", "(left 3 (right 1 a))", "(right 0 a)", "", "(right 4 a)", "", "(right 8 a)", "", "(right 4096 a)", "", "(right 1 c)", "", "(left 1 a)", "", "(left 5 a)", "")},
		{impl.RwWiden0, texts("(zero 0 a)", "a", "(sign 0 a)", "a", "(zero 0 (sign 0 b))", "(sign 0 b)", "(sign 0 (zero 1 b))", "(zero 1 b)", "(zero 1 a)", "", "(sign 1 a)", "", "(left 0 a)", "", "(right 0 a)", "", "(rep 1 a)", "")},
		{impl.RwZero, texts("(zero 1 a)", "(cat #b0 a)", "(zero 3 b)", "(cat #b000 b)", "(zero 4 b)", "(cat #x0 b)", "(zero 65 c)", "(cat #b"+strings.Repeat("0", 65)+" c)", "(zero 4095 c)", "(cat #b"+strings.Repeat("0", 4095)+" c)", "(zero 1 (zero 1 a))", "(cat #b0 (zero 1 a))", "(zero 1 (cat #b0 a))", "(cat #b0 (cat #b0 a))", "(zero 0 a)", "", "(sign 1 a)", "", "(sign 0 a)", "", "(cat #b0 a)", "")},
		{impl.RwRep, texts("(rep 2 b)", "(cat b b)", "(rep 3 b)", "(cat b b b)", "(rep 4096 c)", "(cat"+strings.Repeat(" c", 4096)+")", "(rep 63 w)", "(cat"+strings.Repeat(" w", 63)+")", "(rep 2 (rep 2 b))", "(cat (rep 2 b) (rep 2 b))", "(rep 2 (cat b c))", "(cat (cat b c) (cat b c))", "(rep 1 b)", "", "(cat b b)", "", "b", "")},
		{impl.RwRep1, texts("(rep 1 b)", "b", "(rep 1 (rep 2 b))", "(rep 2 b)", "(rep 1 (rep 1 b))", "(rep 1 b)", "(rep 2 b)", "", "(rep 3 b)", "", "(left 0 b)", "", "(zero 0 b)", "")},
		{impl.RwFlat, texts("(cat b (cat a b) a)", "(cat b a b a)", "(cat b (cat a c))", "(cat b a c)", "(cat (cat a c) b)", "(cat a c b)", "(cat (cat a b) (cat b a))", "(cat a b (cat b a))", "(cat c (cat a b) (cat b a) c)", "(cat c a b (cat b a) c)", "(cat (cat a b) (cat a b))", "(cat a b (cat a b))", "(cat a (cat b (cat c c)) b)", "(cat a b (cat c c) b)", "(cat (cat (cat b c) b) a)", "(cat (cat b c) b a)", "(cat (cat b b b) (left 1 (cat a b)))", "(cat b b b (left 1 (cat a b)))", "(cat a b)", "", "(cat a (left 0 (cat a b)))", "", "(cat a (rep 2 b))", "", "(left 1 (cat a b))", "", "(rep 2 (cat a b))", "")},
		{impl.RwConst, texts("(sign 2 #b10)", "#xe", "(sign 2 #b01)", "#x1", "(zero 3 #b1)", "#x1", "(zero 0 #b1)", "#b1", "(cat #b1 #b0)", "#b10", "(cat #b1 #b1 #b00)", "#xc", "(part 2 1 #b1010)", "#b01", "(part 3 0 #b1010)", "#xa", "(left 1 #b100)", "#b001", "(right 1 #b100)", "#b010", "(right 5 #b100)", "#b001", "(right 4096 #b110)", "#b011", "(left 3 #b100)", "#b100", "(rep 3 #b01)", "#b010101", "(rep 1 #b01)", "#b01", "(rep 4 #x8000000000000001)", "#x"+strings.Repeat("8000000000000001", 4), "(cat #b1 c)", "", "(cat c #b1)", "", "(cat #b1 c #b0)", "", "(cat #b1 #b0 (left 1 #b10))", "", "(left 1 (left 1 #b10))", "", "(part 0 0 c)", "", "#b1", "", "#x0", "", "c", "", "a", "")},
		{impl.RwCut, texts("(part 2 1 (cat b a))", "(part 2 1 a)", "(part 5 4 (cat b a))", "(part 1 0 b)", "(part 3 0 (cat b a))", "(part 3 0 a)", "(part 4 4 (cat b a))", "(part 0 0 b)", "(part 3 3 (cat b a))", "(part 3 3 a)", "(part 4 3 (cat b a))", "", "(part 5 3 (cat b a))", "", "(part 4 0 (cat b a))", "", "(part 5 0 (cat b a))", "", "(part 4 4 (cat a c b b))", "(part 0 0 c)", "(part 3 2 (cat a c b b))", "(part 1 0 b)", "(part 1 1 (cat a c b b))", "(part 1 1 b)", "(part 8 5 (cat a c b b))", "(part 3 0 a)", "(part 8 8 (cat a c b b))", "(part 3 3 a)", "(part 2 1 (cat a c b b))", "", "(part 4 3 (cat a c b b))", "", "(part 5 4 (cat a c b b))", "", "(part 63 1 (cat c x9))", "(part 63 1 x9)", "(part 64 1 (cat c x9))", "", "(part 64 64 (cat c x9))", "(part 0 0 c)", "(part 3 2 (cat c (cat a b)))", "(part 3 2 (cat a b))", "(part 1 0 (cat (cat a b) (cat b c)))", "(part 1 0 (cat b c))", "(part 1 0 (rep 2 b))", "", "(part 1 0 (left 0 (cat a b)))", "", "(part 1 0 a)", "", "(cat a b)", "")},
	} {
		for i := 0; i < len(c.list); i += 2 {
			x := readTerm(t, decls, c.list[i])
			last := int64(len(x.Nodes) - 1)
			got, ok := impl.Rewrite(decls, x, last, c.rule)
			if text := impl.WriteTerm(decls, got); ok != (c.list[i+1] != "") || text != c.list[i+1] {
				t.Errorf("rule %d of %s: %s, %v, want %s", c.rule, short(c.list[i]), short(text), ok, short(c.list[i+1]))
			}
			if fits := slices.Contains(impl.Rules(decls, x, last), c.rule); fits != (c.list[i+1] != "") {
				t.Errorf("rule %d of %s: told %v", c.rule, short(c.list[i]), fits)
			}
			for place := range last + 1 {
				checkSite(t, decls, x, place)
			}
			checkNoPlaces(t, decls, x)
		}
	}
}

func TestRulesByHand(t *testing.T) {
	decls := someDecls()
	for _, c := range []struct {
		text string
		want []int64
	}{
		{"a", nil}, {"#b1", nil}, {"(cat a b)", nil}, {"(sign 1 a)", nil}, {"(left 1 a)", nil}, {"(part 2 1 a)", nil}, {"(part 4 3 (cat b a))", nil},
		{"(part 3 0 (part 3 0 a))", at(1, 2)}, {"(part 1 0 #b10)", at(1, 10)}, {"(part 0 0 #b10)", at(10)}, {"(part 5 0 (cat b a))", at(1)}, {"(part 3 0 (cat b a))", at(11)}, {"(left 4 a)", at(3)}, {"(left 1 #b10)", at(10)}, {"(left 2 #b10)", at(3, 10)}, {"(right 1 #b10)", at(4, 10)}, {"(right 2 #b10)", at(3, 10)}, {"(right 1 a)", at(4)}, {"(right 1 c)", at(3)}, {"(sign 0 #b1)", at(5, 10)}, {"(sign 1 #b1)", at(10)}, {"(zero 0 #b1)", at(5, 10)}, {"(zero 1 #b1)", at(6, 10)}, {"(zero 1 a)", at(6)}, {"(rep 1 #b1)", at(8, 10)}, {"(rep 2 #b1)", at(7, 10)}, {"(rep 2 a)", at(7)}, {"(rep 1 a)", at(8)}, {"(cat a (cat b b))", at(9)}, {"(cat #b1 #b0)", at(10)}, {"(cat #b1 (cat #b1 #b0))", at(9)},
	} {
		x := readTerm(t, decls, c.text)
		if got := impl.Rules(decls, x, int64(len(x.Nodes)-1)); !slices.Equal(got, c.want) {
			t.Errorf("%s: %v, want %v", c.text, got, c.want)
		}
	}
}

// A node that several nodes have, or one has twice; nodes that are no Kid of
// any then, and ones that are the same as others then.
func TestRewriteWhatIsShared(t *testing.T) {
	decls := someDecls()
	left, right, rep, sign, zero := int64(impl.TmLeft), int64(impl.TmRight), int64(impl.TmRep), int64(impl.TmSign), int64(impl.TmZero)
	for what, c := range map[string]struct {
		x           impl.Term
		place, rule int64
		want        impl.Term
	}{
		"two have it":                {term(variable(0), part(3, 0, 0), one(left, 1, 1), one(sign, 1, 1), cat(2, 3)), 1, impl.RwWhole, term(variable(0), one(left, 1, 0), one(sign, 1, 0), cat(1, 2))},
		"two have it as it is new":   {term(variable(0), one(right, 1, 0), one(sign, 1, 1), one(rep, 2, 1), cat(2, 3, 1)), 1, impl.RwRight, term(variable(0), one(left, 3, 0), one(sign, 1, 1), one(rep, 2, 1), cat(2, 3, 1))},
		"two have the two":           {term(variable(1), one(zero, 1, 0), one(left, 1, 1), cat(2, 1, 1)), 1, impl.RwZero, term(variable(1), constant("0"), cat(1, 0), one(left, 1, 2), cat(3, 2, 2))},
		"one has it twice":           {term(variable(1), one(rep, 1, 0), cat(1, 1)), 1, impl.RwRep1, term(variable(1), cat(0, 0))},
		"one has it twice, new":      {term(variable(1), one(rep, 2, 0), cat(1, 0, 1)), 1, impl.RwRep, term(variable(1), cat(0, 0), cat(1, 0, 1))},
		"the last of one":            {term(variable(1), one(zero, 0, 0)), 1, impl.RwWiden0, term(variable(1))},
		"the last of many":           {term(variable(1), variable(2), cat(0, 1), one(rep, 1, 2)), 3, impl.RwRep1, term(variable(1), variable(2), cat(0, 1))},
		"the last, alone then":       {term(constant("1"), constant("0"), cat(0, 1, 0)), 2, impl.RwConst, term(constant("101"))},
		"its Kid goes":               {term(variable(0), part(3, 1, 0), part(1, 0, 1), cat(2, 0)), 2, impl.RwParts, term(variable(0), part(2, 1, 0), cat(1, 0))},
		"its Kid stays":              {term(variable(0), part(3, 1, 0), part(1, 0, 1), cat(2, 1)), 2, impl.RwParts, term(variable(0), part(3, 1, 0), part(2, 1, 0), cat(2, 1))},
		"many go":                    {term(variable(0), one(left, 1, 0), variable(1), one(rep, 2, 2), cat(1, 3), variable(2), cat(4, 5), part(0, 0, 6)), 7, impl.RwCut, term(variable(2), part(0, 0, 0))},
		"many stay":                  {term(variable(0), one(left, 1, 0), variable(1), one(rep, 2, 2), cat(1, 3), variable(2), cat(4, 5), part(2, 2, 6)), 7, impl.RwCut, term(variable(0), one(left, 1, 0), variable(1), one(rep, 2, 2), cat(1, 3), part(1, 1, 4))},
		"an inner cat goes":          {term(variable(0), variable(1), cat(0, 1), variable(2), cat(3, 2)), 4, impl.RwFlat, term(variable(0), variable(1), variable(2), cat(2, 0, 1))},
		"an inner cat stays":         {term(variable(0), variable(1), cat(0, 1), cat(1, 2, 2)), 3, impl.RwFlat, term(variable(0), variable(1), cat(0, 1), cat(1, 0, 1, 2))},
		"alike with one ahead":       {term(variable(0), one(left, 1, 0), one(right, 3, 0), cat(1, 2)), 2, impl.RwRight, term(variable(0), one(left, 1, 0), cat(1, 1))},
		"alike with one behind":      {term(variable(0), one(right, 3, 0), one(left, 1, 0), cat(1, 2)), 1, impl.RwRight, term(variable(0), one(left, 1, 0), cat(1, 1))},
		"those that have it alike":   {term(variable(0), one(left, 1, 0), one(right, 3, 0), one(sign, 1, 1), one(sign, 1, 2), cat(3, 4)), 2, impl.RwRight, term(variable(0), one(left, 1, 0), one(sign, 1, 1), cat(2, 2))},
		"alike by the Kid":           {term(variable(0), one(sign, 0, 0), one(left, 1, 1), one(left, 1, 0), cat(2, 3)), 1, impl.RwWiden0, term(variable(0), one(left, 1, 0), cat(1, 1))},
		"alike, and no matter":       {term(variable(1), variable(1), one(rep, 1, 1), cat(0, 2, 0)), 2, impl.RwRep1, term(variable(1), cat(0, 0, 0))},
		"others were alike":          {term(variable(1), variable(1), one(left, 1, 0), one(left, 1, 1), one(rep, 2, 3), cat(2, 4)), 4, impl.RwRep, term(variable(1), one(left, 1, 0), cat(1, 1), cat(1, 2))},
		"noughts that stand ahead":   {term(constant("00"), variable(1), one(zero, 2, 1), cat(0, 2)), 2, impl.RwZero, term(constant("00"), variable(1), cat(0, 1), cat(0, 2))},
		"noughts that stand behind":  {term(variable(1), one(zero, 2, 0), constant("00"), cat(1, 2)), 1, impl.RwZero, term(variable(1), constant("00"), cat(1, 0), cat(2, 1))},
		"noughts of another width":   {term(constant("0"), variable(1), one(zero, 2, 1), cat(0, 2)), 2, impl.RwZero, term(constant("0"), variable(1), constant("00"), cat(2, 1), cat(0, 3))},
		"the same cat as there is":   {term(constant("00"), variable(1), cat(0, 1), one(zero, 2, 1), cat(2, 3)), 3, impl.RwZero, term(constant("00"), variable(1), cat(0, 1), cat(2, 2))},
		"alike with one that goes":   {term(variable(2), variable(1), cat(0, 1), part(2, 2, 2), variable(1), cat(3, 4)), 3, impl.RwCut, term(variable(2), part(0, 0, 0), variable(1), cat(1, 2))},
		"a constant as one that was": {term(constant("1"), part(0, 0, 0), cat(1, 1)), 1, impl.RwConst, term(constant("1"), cat(0, 0))},
		"nothing but a Kid of it":    {term(variable(0), part(3, 0, 0), part(3, 0, 1), part(3, 0, 2)), 2, impl.RwWhole, term(variable(0), part(3, 0, 0), part(3, 0, 1))},
	} {
		got, ok := impl.Rewrite(decls, c.x, c.place, c.rule)
		if !ok || !sameTerm(got, c.want) {
			t.Errorf("%s: %v, %v, want %v", what, got, ok, c.want)
		}
		for place := range c.x.Nodes {
			checkSite(t, decls, c.x, int64(place))
		}
		checkNoPlaces(t, decls, c.x)
	}
}

// grown is a chain with more nodes behind it, whose Kids count from its last node on.
func grown(around int, more ...impl.TNode) impl.Term {
	x := chain(variable(1), around)
	for _, node := range more {
		node.Kids = slices.Clone(node.Kids)
		for i := range node.Kids {
			node.Kids[i] += int64(around)
		}
		x.Nodes = append(x.Nodes, node)
	}
	return x
}

// Noughts ahead are one node more: the one rule behind which there may be too many.
func TestRewriteAtItsLimit(t *testing.T) {
	decls := someDecls()
	zero := one(impl.TmZero, 2, 0)
	for what, c := range map[string]struct {
		x     impl.Term
		place int
		want  int
	}{
		"399 nodes":                          {grown(397, zero), 398, 400},
		"400 nodes":                          {grown(398, zero), 399, 0},
		"400 nodes, not the last":            {grown(397, zero, one(impl.TmLeft, 1, 1)), 398, 0},
		"399 nodes, not the last":            {grown(396, zero, one(impl.TmLeft, 1, 1)), 397, 400},
		"400 nodes, the noughts stand ahead": {grown(396, constant("00"), one(impl.TmZero, 2, 0), cat(1, 2)), 398, 400},
		"400 nodes, other noughts ahead":     {grown(396, constant("000"), one(impl.TmZero, 2, 0), cat(1, 2)), 398, 0},
		"400 nodes, the noughts behind":      {grown(396, zero, constant("00"), cat(1, 2)), 397, 400},
		"400 nodes, two alike":               {grown(396, variable(1), one(impl.TmZero, 2, 0), cat(1, 2)), 398, 400},
		"400 nodes, two alike, and more":     {grown(395, constant("01"), constant("01"), zero, cat(1, 2, 3)), 398, 400},
		"401 nodes, two alike":               {grown(397, variable(1), one(impl.TmZero, 2, 0), cat(1, 2)), 399, 0},
	} {
		got, ok := impl.Rewrite(decls, c.x, int64(c.place), impl.RwZero)
		if ok != (c.want > 0) || len(got.Nodes) != c.want || ok && impl.WidthOf(decls, got) != impl.WidthOf(decls, c.x) {
			t.Errorf("%s: %v with %d nodes, want %d", what, ok, len(got.Nodes), c.want)
		}
		// it fits, whatever becomes of the number of nodes
		rules := impl.Rules(decls, c.x, int64(c.place))
		if want := len(c.x.Nodes) <= 400; want != slices.Equal(rules, at(impl.RwZero)) || !want && len(rules) != 0 {
			t.Errorf("%s: %v", what, rules)
		}
	}
}

// No other rule makes more nodes: each at the last of 400, and at none of 401.
func TestOtherRulesAtTheLimit(t *testing.T) {
	decls := someDecls()
	for rule, more := range map[int64][]impl.TNode{
		impl.RwWhole: {part(1, 0, 0)}, impl.RwParts: {part(1, 1, 0), part(0, 0, 1)}, impl.RwTurn0: {one(impl.TmLeft, 4, 0)}, impl.RwRight: {one(impl.TmRight, 3, 0)}, impl.RwWiden0: {one(impl.TmSign, 0, 0)}, impl.RwRep: {one(impl.TmRep, 2048, 0)}, impl.RwRep1: {one(impl.TmRep, 1, 0)}, impl.RwFlat: {cat(0, 0), cat(1, 0)}, impl.RwCut: {cat(0, 0), part(3, 2, 1)},
	} {
		for _, nodes := range []int{399, 400, 401} {
			x := grown(nodes-1-len(more), more...)
			got, ok := impl.Rewrite(decls, x, int64(nodes-1), rule)
			rules := impl.Rules(decls, x, int64(nodes-1))
			if nodes > 400 {
				wantNoTerm(t, fmt.Sprint("rule ", rule), got, ok)
				if len(rules) != 0 {
					t.Errorf("at %d nodes fit %v", nodes, rules)
				}
				continue
			}
			if !ok || impl.WidthOf(decls, got) != impl.WidthOf(decls, x) || len(got.Nodes) > nodes || !slices.Contains(rules, rule) {
				t.Errorf("rule %d at %d nodes: %v with %d, and there fit %v", rule, nodes, ok, len(got.Nodes), rules)
			}
		}
	}
	// every node of 400 can be taken out
	x := chain(variable(0), 399)
	for place := range int64(400) {
		got, ok := impl.Rewrite(decls, x, place, impl.RwWiden0)
		if ok != (place > 0) || ok && !sameTerm(got, chain(variable(0), 398)) {
			t.Fatalf("at %d: %v with %d nodes", place, ok, len(got.Nodes))
		}
	}
	// many Kids
	x = term(variable(2), cat(make([]int64, 2048)...), cat(append(make([]int64, 2047), 1, 0)...))
	got, ok := impl.Rewrite(decls, x, 2, impl.RwFlat)
	if !ok || !sameTerm(got, term(variable(2), cat(make([]int64, 4096)...))) {
		t.Errorf("4096 Kids: %v with %d nodes", ok, len(got.Nodes))
	}
	x = term(constant("1"), cat(make([]int64, 4096)...))
	if got, ok := impl.Rewrite(decls, x, 1, impl.RwConst); !ok || !sameTerm(got, term(constant(strings.Repeat("1", 4096)))) {
		t.Errorf("4096 constants: %v with %d nodes", ok, len(got.Nodes))
	}
}

// Terms whose texts have no end are rewritten node by node.
func TestRewriteTermsWithoutText(t *testing.T) {
	decls := someDecls()
	x := term(variable(0))
	for len(x.Nodes) < 399 {
		last := int64(len(x.Nodes) - 1)
		x.Nodes = append(x.Nodes, one(impl.TmRep, 2, last), part(5, 2, last+1))
	}
	got := x
	for place := int64(1); place < 399; place += 2 {
		next, ok := impl.Rewrite(decls, got, place, impl.RwRep)
		if !ok || len(next.Nodes) != 399 || !sameNode(next.Nodes[place], cat(place-1, place-1)) {
			t.Fatalf("at %d: %v with %d nodes", place, ok, len(next.Nodes))
		}
		got = next
	}
	for _, row := range allRows(4) {
		rows := zeroRows(decls)
		rows[0] = row
		if lastOf(rowsByTable(rows, got)) != lastOf(rowsByTable(rows, x)) {
			t.Errorf("by %s it is another word", row)
		}
	}
}

func TestRewriteRefusesWrongTerms(t *testing.T) {
	decls := someDecls()
	refused := func(decls []impl.Decl, x impl.Term) {
		t.Helper()
		for place := range int64(len(x.Nodes) + 1) {
			for _, rule := range allRules {
				got, ok := impl.Rewrite(decls, x, place, rule)
				wantNoTerm(t, fmt.Sprint("rule ", rule, " at ", place, " of ", x), got, ok)
			}
			if got := impl.Rules(decls, x, place); len(got) != 0 {
				t.Fatalf("at %d of %v fit %v", place, x, got)
			}
		}
		got, ok := impl.Normal(decls, x)
		wantNoTerm(t, "normal", got, ok)
		if got := impl.Leaves(decls, x); got != -1 {
			t.Fatalf("%d leaves of %v", got, x)
		}
		fine := term(constant("01"))
		if impl.SameWord(decls, x, x) || impl.SameWord(decls, x, fine) || impl.SameWord(decls, fine, x) {
			t.Fatalf("%v is a word", x)
		}
	}
	refused(decls, impl.Term{})
	for _, x := range []impl.Term{
		term(variable(0), part(3, 0, 0), part(1, 0, 1)), term(constant("01"), one(impl.TmRep, 1, 0), one(impl.TmZero, 0, 1)), term(variable(1), constant("1"), cat(0, 1), cat(2, 0)), term(variable(0), one(impl.TmRight, 5, 0), one(impl.TmLeft, 4, 1)),
	} {
		for _, wrong := range wrongTerms(x) {
			if widthsByTable(decls, wrong) == nil {
				refused(decls, wrong)
			}
		}
		for _, wrong := range wrongDecls() {
			refused(wrong, x)
		}
		refused(nil, term(variable(0), part(3, 0, 0)))
	}
	for _, wrong := range wrongDecls() {
		refused(wrong, term(constant("01"), one(impl.TmRep, 1, 0)))
	}
}

// The promise: no rule changes a word by any values.
func TestRewriteByAllValues(t *testing.T) {
	d := dice{state: 171}
	decls := []impl.Decl{{Name: "a", Width: 3}, {Name: "b", Width: 2}, {Name: "c", Width: 2}, {Name: "d", Width: 1}}
	told := make(map[int64]int)
	for range 1200 {
		x := thrownTower(&d, decls, 12)
		for place := range x.Nodes {
			checkSite(t, decls, x, int64(place))
			for _, rule := range impl.Rules(decls, x, int64(place)) {
				got, ok := impl.Rewrite(decls, x, int64(place), rule)
				if !ok || !impl.SameWord(decls, x, got) {
					t.Fatalf("rule %d at %d of %v: %v, %v is another word", rule, place, x, got, ok)
				}
				told[rule]++
				for _, rows := range valuesOfAll(decls, nil) {
					if told[rule] > 40 && d.below(16) > 0 {
						continue
					}
					b, ok := impl.Eval(decls, valuesOfRows(rows), got)
					wantRow(t, fmt.Sprint("rule ", rule), b, ok, lastOf(rowsByTable(rows, x)))
				}
			}
		}
	}
	for _, rule := range allRules {
		if told[rule] < 40 {
			t.Errorf("rule %d is too seldom: %v", rule, told)
		}
	}
}

// Rules one behind the other, until none fits.
func TestRewriteAgainAndAgain(t *testing.T) {
	d := dice{state: 172}
	decls := someDecls()
	ended, longest := 0, 0
	for range 300 {
		x := thrownTower(&d, decls, 14)
		rows := thrownRows(&d, decls)
		want := lastOf(rowsByTable(rows, x))
		steps := 0
		for ; steps < 200; steps++ {
			var sites [][2]int64
			for place := range int64(len(x.Nodes)) {
				for _, rule := range impl.Rules(decls, x, place) {
					sites = append(sites, [2]int64{place, rule})
				}
			}
			if len(sites) == 0 {
				ended++
				break
			}
			site := sites[d.below(len(sites))]
			next, ok := impl.Rewrite(decls, x, site[0], site[1])
			if !ok || lastOf(rowsByTable(rows, next)) != want {
				t.Fatalf("rule %d at %d of %v: %v, %v", site[1], site[0], x, next, ok)
			}
			x = next
		}
		longest = max(longest, steps)
	}
	if ended < 300 || longest < 20 {
		t.Errorf("%d came to an end, the longest by %d steps", ended, longest)
	}
}

func TestRewriteKeeps(t *testing.T) {
	d := dice{state: 173}
	decls := someDecls()
	for range 80 {
		x := thrownTower(&d, decls, 8)
		keeps(t, impl.Normal, decls, x)
		keeps(t, impl.Leaves, decls, x)
		keeps(t, impl.SameWord, decls, x, thrownTerm(&d, decls, 3))
		for place := range int64(len(x.Nodes)) {
			keeps(t, impl.Rules, decls, x, place)
			for _, rule := range impl.Rules(decls, x, place) {
				keeps(t, impl.Rewrite, decls, x, place, rule)
			}
			keeps(t, impl.Rewrite, decls, x, place, allRules[d.below(11)])
		}
		for _, wrong := range wrongTerms(x)[:20] {
			keeps(t, impl.Rewrite, decls, wrong, int64(0), int64(1))
			keeps(t, impl.Normal, decls, wrong)
		}
	}
}
