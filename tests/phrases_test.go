package tests

import (
	"math"
	"slices"
	"strconv"
	"strings"
	"testing"

	"loop.example/g00081/impl"
)

// The test's own picture of terms: rights by the document's table, texts made
// of texts, rows (texts of 0 and 1) cut and put together.

var opWords = []string{impl.TmCat: "cat", impl.TmPart: "part", impl.TmZero: "zero", impl.TmSign: "sign", impl.TmLeft: "left", impl.TmRight: "right", impl.TmRep: "rep"}

// someDecls have a variable that is named as an Op, and widths at the ends of words.
func someDecls() []impl.Decl {
	return []impl.Decl{{Name: "a", Width: 4}, {Name: "b", Width: 2}, {Name: "c", Width: 1}, {Name: "cat", Width: 3}, {Name: "x9", Width: 64}, {Name: "w", Width: 65}}
}

func nameByDefinition(text string) bool {
	if len(text) == 0 || len(text) > 12 || text[0] <= '9' {
		return false
	}
	return strings.Trim(text, "abcdefghijklmnopqrstuvwxyz0123456789") == ""
}

func rightDecls(decls []impl.Decl) bool {
	total := int64(0)
	for i, decl := range decls {
		if i == 60 || !nameByDefinition(decl.Name) || decl.Width < 1 || decl.Width > 4096 {
			return false
		}
		for _, other := range decls[:i] {
			if other.Name == decl.Name {
				return false
			}
		}
		total += decl.Width
	}
	return total <= 20000
}

// bareNode tells whether nothing stands in a node but what the table names.
func bareNode(n impl.TNode) bool {
	n.Kids = nil
	switch n.Op {
	case impl.TmVar:
		n.Var = 0
	case impl.TmBits:
		n.Value = impl.Bits{}
	case impl.TmPart:
		n.A, n.B = 0, 0
	case impl.TmZero, impl.TmSign, impl.TmLeft, impl.TmRight, impl.TmRep:
		n.A = 0
	}
	return n.Var == 0 && n.A == 0 && n.B == 0 && n.Value.Width == 0 && len(n.Value.Words) == 0
}

// nodeByTable is the width of a node with Kids of these widths; 0 where the table does not allow it.
func nodeByTable(decls []impl.Decl, n impl.TNode, kids []int64) int64 {
	one := len(kids) == 1
	switch n.Op {
	case impl.TmVar:
		if len(kids) == 0 && n.Var >= 0 && n.Var < int64(len(decls)) {
			return decls[n.Var].Width
		}
	case impl.TmBits:
		if len(kids) == 0 && impl.BitsOk(n.Value) {
			return n.Value.Width
		}
	case impl.TmCat:
		if len(kids) >= 2 {
			total := int64(0)
			for _, kid := range kids {
				total += kid
			}
			return total
		}
	case impl.TmPart:
		if one && 0 <= n.B && n.B <= n.A && n.A < kids[0] {
			return n.A - n.B + 1
		}
	case impl.TmZero, impl.TmSign:
		if one && n.A >= 0 && n.A <= 4096 {
			return kids[0] + n.A
		}
	case impl.TmLeft, impl.TmRight:
		if one && n.A >= 0 && n.A <= 4096 {
			return kids[0]
		}
	case impl.TmRep:
		if one && n.A >= 1 && n.A <= 4096 {
			return kids[0] * n.A
		}
	}
	return 0
}

// widthsByTable are those of all nodes; nothing of a term that is not right.
func widthsByTable(decls []impl.Decl, t impl.Term) []int64 {
	if !rightDecls(decls) || len(t.Nodes) == 0 || len(t.Nodes) > 400 {
		return nil
	}
	var widths []int64
	isKid := make([]bool, len(t.Nodes))
	for place, node := range t.Nodes {
		var kids []int64
		for _, kid := range node.Kids {
			if kid < 0 || kid >= int64(place) {
				return nil
			}
			kids = append(kids, widths[kid])
			isKid[kid] = true
		}
		width := nodeByTable(decls, node, kids)
		if width < 1 || width > 4096 || !bareNode(node) {
			return nil
		}
		widths = append(widths, width)
	}
	if slices.Contains(isKid[:len(isKid)-1], false) {
		return nil
	}
	return widths
}

const noText = "too long"

// textsByTable are those of all nodes of a right term; noText of one of more than 20000 bytes.
func textsByTable(decls []impl.Decl, t impl.Term) []string {
	var texts []string
	for _, node := range t.Nodes {
		texts = append(texts, nodeText(decls, node, texts))
	}
	return texts
}

func nodeText(decls []impl.Decl, n impl.TNode, ahead []string) string {
	decimal := func(n int64) string { return strconv.FormatInt(n, 10) }
	switch n.Op {
	case impl.TmVar:
		return decls[n.Var].Name
	case impl.TmBits:
		return impl.WriteBits(n.Value)
	}
	words := []string{opWords[n.Op]}
	switch n.Op {
	case impl.TmCat:
	case impl.TmPart:
		words = append(words, decimal(n.A), decimal(n.B))
	default:
		words = append(words, decimal(n.A))
	}
	for _, kid := range n.Kids {
		if ahead[kid] == noText {
			return noText
		}
		words = append(words, ahead[kid])
	}
	text := "(" + strings.Join(words, " ") + ")"
	if len(text) > 20000 {
		return noText
	}
	return text
}

func lastOf[T any](list []T) T { return list[len(list)-1] }

func textByTable(decls []impl.Decl, t impl.Term) string {
	text := lastOf(textsByTable(decls, t))
	if text == noText {
		return ""
	}
	return text
}

// rowsByTable are those of all nodes of a right term, the variables having the rows given.
func rowsByTable(rows []string, t impl.Term) []string {
	var out []string
	for _, node := range t.Nodes {
		row := ""
		switch node.Op {
		case impl.TmVar:
			row = rows[node.Var]
		case impl.TmBits:
			row = rowOfBits(node.Value)
		case impl.TmCat:
			for _, kid := range node.Kids {
				row += out[kid]
			}
		default:
			row = rowOfOne(node, out[node.Kids[0]])
		}
		out = append(out, row)
	}
	return out
}

func rowOfOne(n impl.TNode, kid string) string {
	width := len(kid)
	turn := int(n.A) % width
	switch n.Op {
	case impl.TmPart:
		return kid[width-1-int(n.A) : width-int(n.B)]
	case impl.TmZero:
		return strings.Repeat("0", int(n.A)) + kid
	case impl.TmSign:
		return strings.Repeat(kid[:1], int(n.A)) + kid
	case impl.TmLeft:
		return kid[turn:] + kid[:turn]
	case impl.TmRight:
		return kid[width-turn:] + kid[:width-turn]
	}
	return strings.Repeat(kid, int(n.A))
}

func rowOfBits(b impl.Bits) string {
	row := make([]byte, b.Width)
	for i := range row {
		at := len(row) - 1 - i
		row[i] = '0' + byte(b.Words[at/64]>>(at%64)&1)
	}
	return string(row)
}

// sharedByTexts keeps the first of all nodes that have one text. (Two nodes
// with one text are the same, as each word of bits has just one.)
func sharedByTexts(decls []impl.Decl, t impl.Term) impl.Term {
	texts := textsByTable(decls, t)
	var out impl.Term
	places := make([]int64, len(t.Nodes))
	for place, node := range t.Nodes {
		if first := slices.Index(texts, texts[place]); first < place {
			places[place] = places[first]
			continue
		}
		places[place] = int64(len(out.Nodes))
		out.Nodes = append(out.Nodes, moved(node, places))
	}
	return out
}

func moved(n impl.TNode, places []int64) impl.TNode {
	kids := n.Kids
	n.Kids = nil
	for _, kid := range kids {
		n.Kids = append(n.Kids, places[kid])
	}
	return n
}

// withoutStrays leaves out, again and again, the nodes that are no Kid, but the last one.
func withoutStrays(t impl.Term) impl.Term {
	for {
		isKid := make([]bool, len(t.Nodes))
		isKid[len(t.Nodes)-1] = true
		for _, node := range t.Nodes {
			for _, kid := range node.Kids {
				isKid[kid] = true
			}
		}
		if !slices.Contains(isKid, false) {
			return t
		}
		var out impl.Term
		places := make([]int64, len(t.Nodes))
		for place, node := range t.Nodes {
			if isKid[place] {
				places[place] = int64(len(out.Nodes))
				out.Nodes = append(out.Nodes, moved(node, places))
			}
		}
		t = out
	}
}

// replacedByWords does what the document says, word by word: of right terms of fitting widths.
func replacedByWords(decls []impl.Decl, t impl.Term, v int64, u impl.Term) impl.Term {
	both := impl.Term{Nodes: slices.Clone(u.Nodes)}
	root := int64(len(u.Nodes) - 1)
	places := make([]int64, len(t.Nodes))
	for place, node := range t.Nodes {
		if node.Op == impl.TmVar && node.Var == v {
			places[place] = root
			continue
		}
		places[place] = int64(len(both.Nodes))
		both.Nodes = append(both.Nodes, moved(node, places))
	}
	return sharedByTexts(decls, withoutStrays(both))
}

func varsByTable(t impl.Term) []int64 {
	var vars []int64
	for v := range int64(60) {
		if slices.ContainsFunc(t.Nodes, func(n impl.TNode) bool { return n.Op == impl.TmVar && n.Var == v }) {
			vars = append(vars, v)
		}
	}
	return vars
}

func sameNode(x, y impl.TNode) bool {
	return x.Op == y.Op && x.Var == y.Var && x.A == y.A && x.B == y.B && sameBits(x.Value, y.Value) && slices.Equal(x.Kids, y.Kids)
}

func sameTerm(s, t impl.Term) bool { return slices.EqualFunc(s.Nodes, t.Nodes, sameNode) }

func termCopy(t impl.Term) impl.Term {
	var out impl.Term
	for _, node := range t.Nodes {
		node.Value.Words = slices.Clone(node.Value.Words)
		node.Kids = slices.Clone(node.Kids)
		out.Nodes = append(out.Nodes, node)
	}
	return out
}

// Short ways to write nodes down.

func variable(v int64) impl.TNode { return impl.TNode{Op: impl.TmVar, Var: v} }

func constant(row string) impl.TNode { return impl.TNode{Op: impl.TmBits, Value: bitsOfRow(row)} }

func cat(kids ...int64) impl.TNode { return impl.TNode{Op: impl.TmCat, Kids: kids} }

func part(a, b, kid int64) impl.TNode {
	return impl.TNode{Op: impl.TmPart, A: a, B: b, Kids: []int64{kid}}
}

func one(op, a, kid int64) impl.TNode { return impl.TNode{Op: op, A: a, Kids: []int64{kid}} }

func term(nodes ...impl.TNode) impl.Term { return impl.Term{Nodes: nodes} }

// chain is a node with so many nodes around it, each of which leaves it as it is.
func chain(first impl.TNode, around int) impl.Term {
	t := term(first)
	for i := range around {
		t.Nodes = append(t.Nodes, one(impl.TmZero, 0, int64(i)))
	}
	return t
}

// thrownTerm is right, of at most so many nodes, many of which are Kids of several.
func thrownTerm(d *dice, decls []impl.Decl, most int) impl.Term {
	var t impl.Term
	var widths []int64
	for range 1 + d.below(most) {
		node := thrownNode(d, decls, widths)
		var kids []int64
		for _, kid := range node.Kids {
			kids = append(kids, widths[kid])
		}
		width := nodeByTable(decls, node, kids)
		if width < 1 || width > 200 {
			continue
		}
		t.Nodes, widths = append(t.Nodes, node), append(widths, width)
	}
	if len(t.Nodes) == 0 {
		return term(constant("01"))
	}
	return withoutStrays(t)
}

func thrownNode(d *dice, decls []impl.Decl, widths []int64) impl.TNode {
	count := len(widths)
	if count == 0 || d.below(5) == 0 {
		if len(decls) == 0 || d.below(3) == 0 {
			return constant(d.row(1 + d.below(5)))
		}
		return variable(int64(d.below(len(decls))))
	}
	kid := int64(count - 1 - d.below(min(count, 4)))
	width := int(widths[kid])
	switch op := int64(3 + d.below(7)); op {
	case impl.TmCat:
		kids := []int64{kid}
		for range 1 + d.below(3) {
			kids = append(kids, int64(d.below(count)))
		}
		return cat(kids...)
	case impl.TmPart:
		low := d.below(width)
		return part(int64(low+d.below(width-low)), int64(low), kid)
	case impl.TmLeft, impl.TmRight:
		return one(op, int64(d.below(3*width+2)), kid)
	default:
		return one(op, int64(d.below(4)), kid)
	}
}

func thrownRows(d *dice, decls []impl.Decl) []string {
	var rows []string
	for _, decl := range decls {
		rows = append(rows, d.row(int(decl.Width)))
	}
	return rows
}

func valuesOfRows(rows []string) []impl.Bits {
	var values []impl.Bits
	for _, row := range rows {
		values = append(values, bitsOfRow(row))
	}
	return values
}

// wrongTerms are one step away from the right one: each field of each node
// with what may not stand there, and some that may.
func wrongTerms(t impl.Term) []impl.Term {
	var list []impl.Term
	change := func(place int, by func(n *impl.TNode)) {
		c := termCopy(t)
		by(&c.Nodes[place])
		list = append(list, c)
	}
	numbers := []int64{math.MinInt64, math.MinInt64 + 1, -4096, -1, 0, 1, 2, 3, 4, 63, 64, 65, 4095, 4096, 4097, 1 << 32, 1<<62 + 1, math.MaxInt64 - 1, math.MaxInt64}
	for place := range t.Nodes {
		for _, n := range numbers {
			change(place, func(node *impl.TNode) { node.Op = n })
			change(place, func(node *impl.TNode) { node.Var = n })
			change(place, func(node *impl.TNode) { node.A = n })
			change(place, func(node *impl.TNode) { node.B = n })
			change(place, func(node *impl.TNode) { node.A, node.B = n, n })
			change(place, func(node *impl.TNode) { node.Kids = append(node.Kids, n) })
			for i := range t.Nodes[place].Kids {
				change(place, func(node *impl.TNode) { node.Kids[i] = n })
			}
		}
		for op := range int64(11) {
			change(place, func(node *impl.TNode) { node.Op = op })
		}
		for _, b := range []impl.Bits{{}, {Words: []uint64{}}, {Words: []uint64{0}}, {Width: 1}, {Width: -1}, bitsOfRow("0"), bitsOfRow("101"), {Width: 1, Words: []uint64{2}}, {Width: 4097, Words: make([]uint64, 65)}} {
			change(place, func(node *impl.TNode) { node.Value = b })
		}
		change(place, func(node *impl.TNode) { node.Kids = nil })
		change(place, func(node *impl.TNode) { node.Kids = node.Kids[:max(0, len(node.Kids)-1)] })
		change(place, func(node *impl.TNode) { node.Kids = append(node.Kids, int64(place)) })
		change(place, func(node *impl.TNode) { node.Kids = append(node.Kids, int64(place-1)) })
		list = append(list, impl.Term{Nodes: slices.Delete(termCopy(t).Nodes, place, place+1)})
	}
	list = append(list, impl.Term{Nodes: append(termCopy(t).Nodes, variable(0))}, impl.Term{Nodes: append(termCopy(t).Nodes, constant("1"))})
	return list
}

// checkTerm holds all that is told of one term against the picture of it.
func checkTerm(t *testing.T, decls []impl.Decl, x impl.Term) {
	t.Helper()
	widths := widthsByTable(decls, x)
	if widths == nil {
		checkWrongTerm(t, decls, x)
		return
	}
	if got := impl.WidthOf(decls, x); got != lastOf(widths) {
		t.Fatalf("width %d of %v, want %d", got, x, lastOf(widths))
	}
	text := textByTable(decls, x)
	if got := impl.WriteTerm(decls, x); got != text {
		t.Fatalf("written %q, want %q", short(got), short(text))
	}
	if got := impl.VarsOf(decls, x); !slices.Equal(got, varsByTable(x)) {
		t.Fatalf("vars %v of %q, want %v", got, short(text), varsByTable(x))
	}
	share := impl.Share(decls, x)
	if text != "" && !sameTerm(share, sharedByTexts(decls, x)) {
		t.Fatalf("%v is shared as %v, want %v", x, share, sharedByTexts(decls, x))
	}
	if got := impl.WriteTerm(decls, share); got != text {
		t.Fatalf("shared it is written %q, want %q", short(got), short(text))
	}
	if again := impl.Share(decls, share); !sameTerm(again, share) {
		t.Fatalf("%v is shared again as %v", share, again)
	}
}

func checkWrongTerm(t *testing.T, decls []impl.Decl, x impl.Term) {
	t.Helper()
	if got := impl.WidthOf(decls, x); got != -1 {
		t.Fatalf("width %d of a wrong term %v", got, x)
	}
	if got := impl.WriteTerm(decls, x); got != "" {
		t.Fatalf("text %q of a wrong term %v", short(got), x)
	}
	if got := impl.Share(decls, x); len(got.Nodes) != 0 {
		t.Fatalf("%v shared of a wrong term %v", got, x)
	}
	if got := impl.VarsOf(decls, x); len(got) != 0 {
		t.Fatalf("vars %v of a wrong term %v", got, x)
	}
	fine := term(variable(0))
	for _, pair := range [][2]impl.Term{{x, fine}, {fine, x}, {x, x}} {
		if got, ok := impl.Replace(decls, pair[0], 0, pair[1]); ok || len(got.Nodes) != 0 {
			t.Fatalf("%v, %v replaced with a wrong term %v", got, ok, x)
		}
	}
	checkWrongValue(t, decls, x)
}

func checkWrongValue(t *testing.T, decls []impl.Decl, x impl.Term) {
	t.Helper()
	var values []impl.Bits
	if rightDecls(decls) {
		values = valuesOfRows(thrownRows(&dice{state: 5}, decls))
	}
	b, ok := impl.Eval(decls, values, x)
	wantNoBits(t, "a wrong term's value", b, ok)
	for _, l := range []impl.Literal{{Id: 1, Equal: true, S: x, T: term(constant("0"))}, {Id: 1, S: term(constant("0")), T: x}, {Id: 1, Equal: true, S: x, T: x}} {
		if is, ok := impl.Holds(decls, values, l); is || ok {
			t.Fatalf("%v, %v of a literal with a wrong term %v", is, ok, x)
		}
		if impl.LiteralsOk(decls, []impl.Literal{l}) || impl.FirstFails(decls, values, []impl.Literal{l}) != -1 {
			t.Fatalf("a literal with a wrong term %v is right", x)
		}
	}
}
