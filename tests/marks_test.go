package tests

import (
	"slices"

	"loop.example/g00081/impl"
)

// marks are the test's own picture of cuts: whether a variable is cut ahead of each of its bits.
type marks [][]bool

func noMarks(decls []impl.Decl) marks {
	var m marks
	for _, decl := range decls {
		m = append(m, make([]bool, decl.Width))
	}
	return m
}

func marksOf(decls []impl.Decl, c impl.Cuts) marks {
	m := noMarks(decls)
	for v, places := range c.At {
		for _, at := range places {
			m[v][at] = true
		}
	}
	return m
}

func (m marks) cuts() impl.Cuts {
	c := impl.Cuts{At: make([][]int64, len(m))}
	for v := range m {
		for at, cut := range m[v] {
			if cut {
				c.At[v] = append(c.At[v], int64(at))
			}
		}
	}
	return c
}

func sameCuts(a, b impl.Cuts) bool { return slices.EqualFunc(a.At, b.At, slices.Equal[[]int64]) }

// cutAt tells whether a place of a side, not at its ends, is cut.
func (m marks) cutAt(wires []wire, p int) bool {
	w := wires[p]
	return parted(wires, p) || w.v >= 0 && m[w.v][w.at]
}

// wiresOfSides are those of a right literal; false where a side has no flat form.
func wiresOfSides(decls []impl.Decl, l impl.Literal) ([2][]wire, bool) {
	ok := formByTable(decls, l.S) != nil && formByTable(decls, l.T) != nil
	return [2][]wire{lastOf(wiresByTable(decls, l.S)), lastOf(wiresByTable(decls, l.T))}, ok
}

// missing tells, one by one, the places that must be cut and are not: the
// ends of segments first, then what is cut in the one side and not in the other.
func (m marks) missing(decls []impl.Decl, sides [2][]wire, tell func(w wire)) {
	want := func(w wire) {
		if w.v >= 0 && w.at > 0 && w.at < decls[w.v].Width && !m[w.v][w.at] {
			tell(w)
		}
	}
	for i, wires := range sides {
		other := sides[1-i]
		for p := range len(wires) + 1 {
			inner := p > 0 && p < len(wires)
			if inner && !parted(wires, p) {
				if wires[p].v >= 0 && m.cutAt(other, p) {
					want(wires[p])
				}
				continue
			}
			if p < len(wires) {
				want(wires[p])
			}
			if p > 0 {
				want(wire{wires[p-1].v, wires[p-1].at + 1})
			}
		}
	}
}

func (m marks) closedFor(decls []impl.Decl, sides [2][]wire) bool {
	count := 0
	m.missing(decls, sides, func(wire) { count++ })
	return count == 0
}

// closed cuts what is missing until nothing is; false where a side has no form.
func (m marks) closed(decls []impl.Decl, list []impl.Literal) (marks, bool) {
	m = marksOf(decls, m.cuts())
	var all [][2][]wire
	for _, l := range list {
		sides, ok := wiresOfSides(decls, l)
		if !ok {
			return nil, false
		}
		all = append(all, sides)
	}
	for more := true; more; {
		more = false
		for _, sides := range all {
			m.missing(decls, sides, func(w wire) { m[w.v][w.at], more = true, true })
		}
	}
	return m, true
}

// slices are found by going through all bits.
func (m marks) slices() []impl.Slice {
	var list []impl.Slice
	for v := range m {
		for at, cut := range m[v] {
			if at == 0 || cut {
				list = append(list, impl.Slice{Var: int64(v), Low: int64(at)})
			}
			list[len(list)-1].Width++
		}
	}
	return list
}

// pieces are those of a literal for which the marks are closed.
func (m marks) pieces(sides [2][]wire) []impl.Piece {
	var list []impl.Piece
	from, width := 0, len(sides[0])
	for p := 1; p <= width; p++ {
		if p < width && !m.cutAt(sides[0], p) && !m.cutAt(sides[1], p) {
			continue
		}
		list = append(list, impl.Piece{A: m.atom(sides[0][from:p]), B: m.atom(sides[1][from:p]), Width: int64(p - from)})
		from = p
	}
	return list
}

func (m marks) atom(wires []wire) impl.Atom {
	if wires[0].v < 0 {
		return impl.Atom{Slice: -1, Value: formOfWires(wires)[0].Value}
	}
	slice := impl.Slice{Var: wires[0].v, Low: wires[0].at, Width: int64(len(wires))}
	return impl.Atom{Slice: int64(slices.Index(m.slices(), slice))}
}

func sameAtom(a, b impl.Atom) bool { return a.Slice == b.Slice && sameBits(a.Value, b.Value) }

func samePiece(a, b impl.Piece) bool {
	return a.Width == b.Width && sameAtom(a.A, b.A) && sameAtom(a.B, b.B)
}

func thrownMarks(d *dice, decls []impl.Decl, seldom int) marks {
	m := noMarks(decls)
	for v := range m {
		for at := 1; at < len(m[v]); at++ {
			m[v][at] = d.below(seldom) == 0
		}
	}
	return m
}

// allMarks are all that there are for decls of a few bits.
func allMarks(decls []impl.Decl) []marks {
	all := []marks{noMarks(decls)}
	for v, decl := range decls {
		for at := 1; at < int(decl.Width); at++ {
			for _, m := range slices.Clone(all) {
				more := marksOf(decls, m.cuts())
				more[v][at] = true
				all = append(all, more)
			}
		}
	}
	return all
}

// thrownSides have one width: parts of thrown terms, or of the terms of thrown forms.
func thrownSides(d *dice, decls []impl.Decl, most int) (impl.Term, impl.Term) {
	throw := func() impl.Term {
		if d.below(3) == 0 {
			return thrownTerm(d, decls, 2+most)
		}
		return termOfForm(decls, thrownForm(d, decls, most))
	}
	s, t := throw(), throw()
	width := min(lastOf(widthsByTable(decls, s)), lastOf(widthsByTable(decls, t)))
	for _, x := range []*impl.Term{&s, &t} {
		if more := lastOf(widthsByTable(decls, *x)) - width; more > 0 {
			low := int64(d.below(int(more) + 1))
			x.Nodes = append(x.Nodes, part(low+width-1, low, int64(len(x.Nodes)-1)))
		}
	}
	return s, t
}

func thrownLiterals(d *dice, decls []impl.Decl, count, most int) []impl.Literal {
	var list []impl.Literal
	id := int64(0)
	for range count {
		s, t := thrownSides(d, decls, most)
		id += int64(1 + d.below(5))
		list = append(list, literal(id, d.below(2) == 0, s, t))
	}
	return list
}
