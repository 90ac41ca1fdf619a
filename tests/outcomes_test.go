package tests

import (
	"fmt"
	"maps"
	"slices"
	"strings"

	"loop.example/g00081/impl"
)

// An outcome is the test's own picture of what a rule says: the text of what a
// node becomes, those of the new nodes ahead of it, and the nodes of the term
// on which it stands. Where it is old it is the one on which it stands.
type outcome struct {
	text  string
	ahead []string
	on    []int64
	old   bool
}

func listText(words ...any) string {
	return "(" + strings.TrimSuffix(fmt.Sprintln(words...), "\n") + ")"
}

// outcomesByTable has one for each rule that fits at a place of a right term.
func outcomesByTable(decls []impl.Decl, x impl.Term, place int64) map[int64]outcome {
	n, texts, widths := x.Nodes[place], textsByTable(decls, x), widthsByTable(decls, x)
	out := make(map[int64]outcome)
	if len(n.Kids) == 0 {
		return out
	}
	kid, width := n.Kids[0], widths[place]
	asKid := outcome{text: texts[kid], on: n.Kids, old: true}
	switch n.Op {
	case impl.TmPart:
		if width == widths[kid] {
			out[impl.RwWhole] = asKid
		}
		partOutcomes(x, n, texts, widths, out)
	case impl.TmLeft, impl.TmRight:
		for by := range width {
			if turns := (by + n.A) % width; turns == 0 && by == 0 {
				out[impl.RwTurn0] = asKid
			} else if turns == 0 && n.Op == impl.TmRight {
				out[impl.RwRight] = outcome{text: listText("left", by, texts[kid]), on: n.Kids}
			}
		}
	case impl.TmZero, impl.TmSign:
		if n.A == 0 {
			out[impl.RwWiden0] = asKid
		} else if n.Op == impl.TmZero {
			zeroes := textOfRow(strings.Repeat("0", int(n.A)))
			out[impl.RwZero] = outcome{text: listText("cat", zeroes, texts[kid]), ahead: []string{zeroes}, on: n.Kids}
		}
	case impl.TmRep:
		if n.A == 1 {
			out[impl.RwRep1] = asKid
		} else {
			out[impl.RwRep] = outcome{text: "(cat" + strings.Repeat(" "+texts[kid], int(n.A)) + ")", on: n.Kids}
		}
	case impl.TmCat:
		catOutcome(x, n, texts, out)
	}
	isBits := func(kid int64) bool { return x.Nodes[kid].Op == impl.TmBits }
	if len(slices.DeleteFunc(slices.Clone(n.Kids), isBits)) == 0 {
		out[impl.RwConst] = outcome{text: textOfRow(rowsByTable(zeroRows(decls), x)[place])}
	}
	return out
}

// partOutcomes asks for each bit of a part of which Kid it is.
func partOutcomes(x impl.Term, n impl.TNode, texts []string, widths []int64, out map[int64]outcome) {
	inner := x.Nodes[n.Kids[0]]
	if inner.Op == impl.TmPart {
		out[impl.RwParts] = outcome{text: listText("part", n.A+inner.B, n.B+inner.B, texts[inner.Kids[0]]), on: inner.Kids}
	}
	if inner.Op != impl.TmCat {
		return
	}
	type owner struct {
		index    int
		kid, bit int64
	}
	var owners []owner
	for i, kid := range slices.Backward(inner.Kids) {
		for bit := range widths[kid] {
			owners = append(owners, owner{i, kid, bit})
		}
	}
	low, high := owners[n.B], owners[n.A]
	if low.index == high.index {
		out[impl.RwCut] = outcome{text: listText("part", high.bit, low.bit, texts[low.kid]), on: []int64{low.kid}}
	}
}

func catOutcome(x impl.Term, n impl.TNode, texts []string, out map[int64]outcome) {
	text := "(cat"
	var on []int64
	for _, kid := range n.Kids {
		if _, done := out[impl.RwFlat]; done || x.Nodes[kid].Op != impl.TmCat {
			text, on = text+" "+texts[kid], append(on, kid)
			continue
		}
		out[impl.RwFlat] = outcome{}
		for _, inner := range x.Nodes[kid].Kids {
			text, on = text+" "+texts[inner], append(on, inner)
		}
	}
	if _, fits := out[impl.RwFlat]; fits {
		out[impl.RwFlat] = outcome{text: text + ")", on: on}
	}
}

// textsBehind are those of the nodes behind an outcome: of all that the term
// still stands on, in their order, each once.
func textsBehind(decls []impl.Decl, x impl.Term, place int64, o outcome) []string {
	needed := make([]bool, len(x.Nodes))
	needed[len(needed)-1] = true
	for at, node := range slices.Backward(x.Nodes) {
		on := node.Kids
		if int64(at) == place {
			on = o.on
		}
		for _, kid := range on {
			needed[kid] = needed[kid] || needed[at]
		}
	}
	var texts, out []string
	for at, node := range x.Nodes {
		text, told := nodeText(decls, node, texts), []string(nil)
		switch {
		case int64(at) == place && o.old:
			text = o.text
		case int64(at) == place:
			text, told = o.text, append(slices.Clone(o.ahead), o.text)
		default:
			told = []string{text}
		}
		texts = append(texts, text)
		for _, text := range told {
			if needed[at] && !slices.Contains(out, text) {
				out = append(out, text)
			}
		}
	}
	return out
}

func rulesByTable(decls []impl.Decl, x impl.Term, place int64) []int64 {
	return slices.Sorted(maps.Keys(outcomesByTable(decls, x, place)))
}

// thrownTower is right: each node stands on the one ahead of it, so that many
// rules fit, and on others that may be the same.
func thrownTower(d *dice, decls []impl.Decl, most int) impl.Term {
	x := term(constant(d.row(1 + d.below(3))))
	widths := []int64{int64(len(rowOfBits(x.Nodes[0].Value)))}
	for range 1 + d.below(most) {
		last := int64(len(x.Nodes) - 1)
		node := thrownNode(d, decls, widths)
		if len(node.Kids) == 0 {
			x.Nodes, widths = append(x.Nodes, node), append(widths, nodeByTable(decls, node, nil))
			node, last = cat(int64(d.below(int(last)+1)), last+1), last+1
		}
		node.Kids[0] = last
		if width := widths[last]; node.Op == impl.TmPart {
			node.B = int64(d.below(int(width)))
			node.A = node.B + int64(d.below(int(width-node.B)))
			if d.below(4) == 0 {
				node.A, node.B = width-1, 0
			}
		}
		var kids []int64
		for _, kid := range node.Kids {
			kids = append(kids, widths[kid])
		}
		if width := nodeByTable(decls, node, kids); width > 0 && width < 30 {
			x.Nodes, widths = append(x.Nodes, node), append(widths, width)
		}
	}
	return withoutStrays(x)
}
