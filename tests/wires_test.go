package tests

import (
	"math"
	"slices"

	"loop.example/g00081/impl"
)

// A wire is the test's own picture of a bit of a term: the bit at of the
// variable v, or, with v -1, the constant at, 0 or 1. Wires stand from the
// lowest bit on.
type wire struct{ v, at int64 }

func wiresOfRow(row string) []wire {
	var out []wire
	for i := range len(row) {
		out = append(out, wire{-1, int64(row[len(row)-1-i] - '0')})
	}
	return out
}

// wiresByTable are those of all nodes of a right term.
func wiresByTable(decls []impl.Decl, t impl.Term) [][]wire {
	var all [][]wire
	for _, node := range t.Nodes {
		var out []wire
		switch node.Op {
		case impl.TmVar:
			for at := range decls[node.Var].Width {
				out = append(out, wire{node.Var, at})
			}
		case impl.TmBits:
			out = wiresOfRow(rowOfBits(node.Value))
		case impl.TmCat:
			for _, kid := range node.Kids {
				out = slices.Concat(all[kid], out)
			}
		default:
			out = wiresOfOne(node, all[node.Kids[0]])
		}
		all = append(all, out)
	}
	return all
}

func wiresOfOne(n impl.TNode, kid []wire) []wire {
	width := int64(len(kid))
	turn := n.A % width
	switch n.Op {
	case impl.TmPart:
		return kid[n.B : n.A+1]
	case impl.TmZero:
		return slices.Concat(kid, slices.Repeat([]wire{{-1, 0}}, int(n.A)))
	case impl.TmSign:
		return slices.Concat(kid, slices.Repeat(kid[width-1:], int(n.A)))
	case impl.TmLeft:
		return slices.Concat(kid[width-turn:], kid[:width-turn])
	case impl.TmRight:
		return slices.Concat(kid[turn:], kid[:turn])
	}
	return slices.Repeat(kid, int(n.A))
}

// parted tells whether a segment ends ahead of the wire at p and another one begins with it.
func parted(wires []wire, p int) bool {
	a, b := wires[p-1], wires[p]
	return a.v != b.v || a.v >= 0 && a.at+1 != b.at
}

// formOfWires puts those together that can be one.
func formOfWires(wires []wire) []impl.Seg {
	var form []impl.Seg
	from := 0
	for p := 1; p <= len(wires); p++ {
		if p < len(wires) && !parted(wires, p) {
			continue
		}
		first := wires[from]
		seg := impl.Seg{Var: first.v, Low: first.at, Width: int64(p - from)}
		if first.v < 0 {
			row := make([]byte, p-from)
			for i := range row {
				row[i] = '0' + byte(wires[p-1-i].at)
			}
			seg.Low, seg.Value = 0, bitsOfRow(string(row))
		}
		form = append(form, seg)
		from = p
	}
	return form
}

// wiresOfForm is asked of segments that are right, each for itself.
func wiresOfForm(f []impl.Seg) []wire {
	var out []wire
	for _, seg := range f {
		if seg.Var < 0 {
			out = append(out, wiresOfRow(rowOfBits(seg.Value))...)
			continue
		}
		for i := range seg.Width {
			out = append(out, wire{seg.Var, seg.Low + i})
		}
	}
	return out
}

func sameSeg(a, b impl.Seg) bool {
	return a.Var == b.Var && a.Low == b.Low && a.Width == b.Width && sameBits(a.Value, b.Value)
}

func sameForm(f, g []impl.Seg) bool { return slices.EqualFunc(f, g, sameSeg) }

// rightForm: each segment by itself, and the whole is what its own wires give.
func rightForm(decls []impl.Decl, f []impl.Seg) bool {
	if !rightDecls(decls) || len(f) == 0 || len(f) > 2000 {
		return false
	}
	for _, seg := range f {
		if seg.Var == -1 {
			if seg.Low != 0 || !impl.BitsOk(seg.Value) || seg.Value.Width != seg.Width {
				return false
			}
			continue
		}
		if seg.Var < 0 || seg.Var >= int64(len(decls)) || seg.Value.Width != 0 || len(seg.Value.Words) != 0 {
			return false
		}
		width := decls[seg.Var].Width
		if seg.Width < 1 || seg.Width > width || seg.Low < 0 || seg.Low >= width || seg.Low+seg.Width > width {
			return false
		}
	}
	wires := wiresOfForm(f)
	return len(wires) <= 4096 && sameForm(formOfWires(wires), f)
}

// formByTable is the form of a right term; nothing where a node has too many segments.
func formByTable(decls []impl.Decl, t impl.Term) []impl.Seg {
	var form []impl.Seg
	for _, wires := range wiresByTable(decls, t) {
		form = formOfWires(wires)
		if len(form) > 2000 {
			return nil
		}
	}
	return form
}

// rowOfWires is a row by rows of the variables.
func rowOfWires(rows []string, wires []wire) string {
	out := make([]byte, len(wires))
	for i, w := range wires {
		bit := byte(w.at) + '0'
		if w.v >= 0 {
			row := rows[w.v]
			bit = row[len(row)-1-int(w.at)]
		}
		out[len(wires)-1-i] = bit
	}
	return string(out)
}

// termOfForm has one node for each term in it, as a reader would make it, shared by texts.
func termOfForm(decls []impl.Decl, f []impl.Seg) impl.Term {
	var t impl.Term
	var kids []int64
	for _, s := range slices.Backward(f) {
		last := int64(len(t.Nodes))
		switch {
		case s.Var < 0:
			t.Nodes = append(t.Nodes, impl.TNode{Op: impl.TmBits, Value: s.Value})
		case s.Low == 0 && s.Width == decls[s.Var].Width:
			t.Nodes = append(t.Nodes, variable(s.Var))
		default:
			t.Nodes = append(t.Nodes, variable(s.Var), part(s.Low+s.Width-1, s.Low, last))
		}
		kids = append(kids, int64(len(t.Nodes)-1))
	}
	if len(kids) > 1 {
		t.Nodes = append(t.Nodes, cat(kids...))
	}
	return sharedByTexts(decls, t)
}

// Short ways to write segments down.

func seg(v, low, width int64) impl.Seg { return impl.Seg{Var: v, Low: low, Width: width} }

func fixed(row string) impl.Seg {
	return impl.Seg{Var: -1, Width: int64(len(row)), Value: bitsOfRow(row)}
}

func form(segs ...impl.Seg) []impl.Seg { return segs }

// thrownForm is right, of at most so many segments.
func thrownForm(d *dice, decls []impl.Decl, most int) []impl.Seg {
	var wires []wire
	for range 1 + d.below(most) {
		if d.below(3) == 0 {
			wires = append(wires, wiresOfRow(d.row(1+d.below(4)))...)
			continue
		}
		v := d.below(len(decls))
		width := int(decls[v].Width)
		low := d.below(width)
		high := low + d.below(width-low)
		for at := low; at <= high; at++ {
			wires = append(wires, wire{int64(v), int64(at)})
		}
	}
	return formOfWires(wires)
}

func formCopy(f []impl.Seg) []impl.Seg {
	out := slices.Clone(f)
	for i := range out {
		out[i].Value.Words = slices.Clone(out[i].Value.Words)
	}
	return out
}

// changedForms are one step away from a right one; rightForm tells which are still right.
func changedForms(f []impl.Seg) [][]impl.Seg {
	var list [][]impl.Seg
	change := func(place int, by func(s *impl.Seg)) {
		c := formCopy(f)
		by(&c[place])
		list = append(list, c)
	}
	numbers := []int64{math.MinInt64, math.MinInt64 + 1, -2, -1, 0, 1, 2, 3, 4, 5, 6, 63, 64, 65, 4096, 1 << 32, 1 << 62, math.MaxInt64 - 1, math.MaxInt64}
	values := []impl.Bits{{}, {Words: []uint64{}}, {Words: []uint64{0}}, {Width: 1}, {Width: -1}, bitsOfRow("0"), bitsOfRow("101"), {Width: 1, Words: []uint64{2}}, {Width: 2, Words: []uint64{1, 0}}, {Width: 4097, Words: make([]uint64, 65)}}
	for place := range f {
		for _, n := range numbers {
			change(place, func(s *impl.Seg) { s.Var = n })
			change(place, func(s *impl.Seg) { s.Low = n })
			change(place, func(s *impl.Seg) { s.Width = n })
			change(place, func(s *impl.Seg) { s.Low, s.Width = n, n })
			change(place, func(s *impl.Seg) { s.Low, s.Width = n, math.MaxInt64-n })
			change(place, func(s *impl.Seg) { s.Value.Width = n })
		}
		for _, b := range values {
			change(place, func(s *impl.Seg) { s.Value = b })
			change(place, func(s *impl.Seg) { s.Value, s.Width = b, b.Width })
		}
		change(place, func(s *impl.Seg) { s.Low++ })
		change(place, func(s *impl.Seg) { s.Width-- })
		list = append(list, slices.Delete(formCopy(f), place, place+1))
		list = append(list, slices.Insert(formCopy(f), place, f[place]))
		list = append(list, slices.Insert(formCopy(f), place, fixed("0")))
		for _, low := range []int64{0, 1, 2} {
			list = append(list, slices.Insert(formCopy(f), place, seg(f[place].Var, f[place].Low+low, 1)))
		}
	}
	return append(list, nil, form())
}
