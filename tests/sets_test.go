package tests

import (
	"slices"

	"loop.example/g00081/impl"
)

// A picture of classes: the slices and the constants of pieces are nodes of a
// web. The constants stand in the order in which they came.
type setsPicture struct {
	web       *web
	constants []numbered
}

type numbered struct {
	node int64
	row  string
}

func (s *setsPicture) nodeOf(a impl.Atom) int64 {
	if a.Slice >= 0 {
		return a.Slice
	}
	n := numbered{s.web.add(), rowOfBits(a.Value)}
	s.constants = append(s.constants, n)
	return n.node
}

// firstOf is the constant that came first of those that are joined with a node.
func (s *setsPicture) firstOf(node int64) (numbered, bool) {
	i := slices.IndexFunc(s.constants, func(n numbered) bool { return s.web.joined(n.node, node) })
	if i < 0 {
		return numbered{}, false
	}
	return s.constants[i], true
}

// take tells the clash of a piece, if it is one.
func (s *setsPicture) take(p impl.Piece, id int64) []int64 {
	a, b := s.nodeOf(p.A), s.nodeOf(p.B)
	x, xOk := s.firstOf(a)
	y, yOk := s.firstOf(b)
	if s.web.join(link(a, b, id)) && xOk && yOk && x.row != y.row {
		return s.web.whys(x.node, y.node)
	}
	return nil
}

// classesByPicture is asked of right literals and cuts; false where a side has no form.
func classesByPicture(decls []impl.Decl, list []impl.Literal, c impl.Cuts) (impl.Classes, bool) {
	m, ok := marksOf(decls, c).closed(decls, list)
	if !ok {
		return impl.Classes{}, false
	}
	count := len(m.slices())
	s := setsPicture{web: newWeb(int64(count))}
	for _, l := range list {
		if !l.Equal {
			continue
		}
		sides, _ := wiresOfSides(decls, l)
		for _, p := range m.pieces(sides) {
			if clash := s.take(p, l.Id); clash != nil {
				return impl.Classes{Cuts: m.cuts(), Clash: clash}, true
			}
		}
	}
	return impl.Classes{Cuts: m.cuts(), List: s.classes(count)}, true
}

func (s *setsPicture) classes(count int) []impl.Class {
	var list []impl.Class
	for a := range int64(count) {
		if s.web.least(a) != a {
			continue
		}
		var class impl.Class
		for b := range int64(count) {
			if s.web.joined(a, b) {
				class.Slices = append(class.Slices, b)
			}
		}
		if x, ok := s.firstOf(a); ok {
			class.Fixed, class.Value = true, bitsOfRow(x.row)
		}
		list = append(list, class)
	}
	return list
}

func sameClass(a, b impl.Class) bool {
	return slices.Equal(a.Slices, b.Slices) && a.Fixed == b.Fixed && sameBits(a.Value, b.Value)
}

func sameClasses(a, b impl.Classes) bool {
	return sameCuts(a.Cuts, b.Cuts) && slices.EqualFunc(a.List, b.List, sameClass) && slices.Equal(a.Clash, b.Clash)
}

func sameKnown(a, b impl.Known) bool {
	return a.Class == b.Class && a.Width == b.Width && sameBits(a.Value, b.Value)
}

// knownByPicture goes through the bits of a right term, by cuts that are right;
// false where a segment ends in the middle of a slice, or a slice is in no class.
func knownByPicture(decls []impl.Decl, cl impl.Classes, x impl.Term) ([]impl.Known, bool) {
	if formByTable(decls, x) == nil {
		return nil, false
	}
	m := marksOf(decls, cl.Cuts)
	wires := lastOf(wiresByTable(decls, x))
	var list []impl.Known
	from := 0
	for p := 1; p <= len(wires); p++ {
		if p < len(wires) && !m.cutAt(wires, p) {
			continue
		}
		known, ok := m.known(cl, wires[from:p])
		if !ok {
			return nil, false
		}
		list = append(list, known)
		from = p
	}
	return list, true
}

func (m marks) known(cl impl.Classes, wires []wire) (impl.Known, bool) {
	known := impl.Known{Class: -1, Width: int64(len(wires))}
	atom := m.atom(wires)
	if wires[0].v < 0 {
		known.Value = atom.Value
		return known, true
	}
	if atom.Slice < 0 {
		return impl.Known{}, false
	}
	for place, class := range cl.List {
		if slices.Contains(class.Slices, atom.Slice) {
			known.Class = int64(place)
			if class.Fixed {
				known.Value = class.Value
			}
			return known, true
		}
	}
	return impl.Known{}, false
}
