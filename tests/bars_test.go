package tests

import (
	"fmt"
	"slices"
	"strings"

	"loop.example/g00081/impl"
)

func bar(a, b int64) impl.Bar { return impl.Bar{A: a, B: b} }

// barTo forbids a row.
func barTo(a int64, row string) impl.Bar { return impl.Bar{A: a, B: -1, Value: bitsOfRow(row)} }

func graph(widths []int64, bars ...impl.Bar) impl.Graph {
	return impl.Graph{Widths: widths, Bars: bars}
}

func widths(list ...int64) []int64 { return list }

func sameBar(x, y impl.Bar) bool { return x.A == y.A && x.B == y.B && sameBits(x.Value, y.Value) }

func sameSplit(x, y impl.Split) bool {
	return x.Id == y.Id && x.State == y.State && slices.EqualFunc(x.Bars, y.Bars, sameBar)
}

// barText writes a Bar short: "0/1", or "0=10".
func barText(b impl.Bar) string {
	if b.B == -1 {
		return fmt.Sprint(b.A, "=", rowOfBits(b.Value))
	}
	return fmt.Sprint(b.A, "/", b.B)
}

func barsText(bars []impl.Bar) string {
	var texts []string
	for _, b := range bars {
		texts = append(texts, barText(b))
	}
	return strings.Join(texts, " ")
}

// splitsText writes splits short: "1 open 0/1 0=10, 2 true, 3 false".
func splitsText(splits []impl.Split) string {
	states := map[int64]string{impl.SpTrue: "true", impl.SpFalse: "false", impl.SpOpen: "open"}
	var texts []string
	for _, s := range splits {
		texts = append(texts, strings.TrimSpace(fmt.Sprint(s.Id, " ", states[s.State], " ", barsText(s.Bars))))
	}
	return strings.Join(texts, ", ")
}

// A side of a piece as a text: its class, or the row of a value behind "=".
func sideText(cl impl.Classes, a impl.Atom) string {
	if a.Slice < 0 {
		return "=" + rowOfBits(a.Value)
	}
	for place, class := range cl.List {
		if slices.Contains(class.Slices, a.Slice) {
			if class.Fixed {
				return "=" + rowOfBits(class.Value)
			}
			return fmt.Sprint(place)
		}
	}
	return "none"
}

// splitsByPicture is asked of right literals whose sides have forms, and of
// right cuts; false where the classes are others, or clash.
func splitsByPicture(decls []impl.Decl, list []impl.Literal, cl impl.Classes) ([]impl.Split, bool) {
	if want, ok := classesByPicture(decls, list, cl.Cuts); !ok || !sameClasses(want, cl) || len(want.Clash) > 0 {
		return nil, false
	}
	m := marksOf(decls, cl.Cuts)
	var splits []impl.Split
	for _, l := range list {
		if l.Equal {
			continue
		}
		sides, _ := wiresOfSides(decls, l)
		var pairs [][2]string
		for _, p := range m.pieces(sides) {
			pairs = append(pairs, [2]string{sideText(cl, p.A), sideText(cl, p.B)})
		}
		splits = append(splits, splitOfPairs(l.Id, pairs))
	}
	return splits, true
}

func splitOfPairs(id int64, pairs [][2]string) impl.Split {
	pairs = slices.DeleteFunc(pairs, func(p [2]string) bool { return p[0] == p[1] })
	isValue := func(text string) bool { return text[0] == '=' }
	if slices.ContainsFunc(pairs, func(p [2]string) bool { return isValue(p[0]) && isValue(p[1]) }) {
		return impl.Split{Id: id, State: impl.SpTrue}
	}
	if len(pairs) == 0 {
		return impl.Split{Id: id, State: impl.SpFalse}
	}
	split := impl.Split{Id: id, State: impl.SpOpen}
	for _, p := range pairs {
		if isValue(p[0]) {
			p[0], p[1] = p[1], p[0]
		}
		var b impl.Bar
		fmt.Sscan(p[0], &b.A)
		if isValue(p[1]) {
			b.B, b.Value = -1, bitsOfRow(p[1][1:])
		} else {
			fmt.Sscan(p[1], &b.B)
			b.A, b.B = min(b.A, b.B), max(b.A, b.B)
		}
		if !slices.ContainsFunc(split.Bars, func(other impl.Bar) bool { return sameBar(other, b) }) {
			split.Bars = append(split.Bars, b)
		}
	}
	return split
}

// sheet is the test's own picture of colours: each node of a right graph has a
// row, or none, and all Bars are gone through each time.
type sheet struct {
	g    impl.Graph
	rows []string
}

// against are the texts of all that a node's Bars have.
func (s sheet) against(node int64) map[string]bool {
	texts := make(map[string]bool)
	for _, b := range s.g.Bars {
		switch {
		case b.A == node && b.B == -1:
			texts["value "+rowOfBits(b.Value)] = true
		case b.A == node:
			texts[fmt.Sprint("node ", b.B)] = true
		case b.B == node:
			texts[fmt.Sprint("node ", b.A)] = true
		}
	}
	return texts
}

func (s sheet) narrow() []int64 {
	var list []int64
	for node, width := range s.g.Widths {
		if width <= 10 && len(s.against(int64(node))) >= 1<<width {
			list = append(list, int64(node))
		}
	}
	return list
}

func (s sheet) forbids(node int64, row string) bool {
	return slices.ContainsFunc(s.g.Bars, func(b impl.Bar) bool {
		switch {
		case b.A == node && b.B == -1:
			return rowOfBits(b.Value) == row
		case b.A == node:
			return s.rows[b.B] == row
		}
		return b.B == node && s.rows[b.A] == row
	})
}

// next gives a node the least row behind its own that nothing forbids.
func (s sheet) next(node int64) bool {
	width := int(s.g.Widths[node])
	number := 0
	if row := s.rows[node]; row != "" {
		fmt.Sscanf(row[max(0, width-20):], "%b", &number)
		number++
	}
	for ; width > 20 || number < 1<<width; number++ {
		if row := fmt.Sprintf("%0*b", width, number); !s.forbids(node, row) {
			s.rows[node] = row
			return true
		}
	}
	s.rows[node] = ""
	return false
}

// colourByPicture goes forth and back over the narrow nodes, without recursion.
func colourByPicture(g impl.Graph, most int64) ([]string, int64, int64) {
	s := sheet{g, make([]string, len(g.Widths))}
	narrow := s.narrow()
	visits := int64(0)
	for turn, comes := 0, true; turn < len(narrow); {
		if comes && visits == most {
			return nil, most, impl.ClMany
		}
		if comes {
			visits++
		}
		if comes = s.next(narrow[turn]); comes {
			turn++
		} else if turn--; turn < 0 {
			return nil, visits, impl.ClNone
		}
	}
	for node := range s.rows {
		if s.rows[node] == "" {
			s.next(int64(node))
		}
	}
	return s.rows, visits, impl.ClOk
}

// breaks tells whether rows, one for each node, break a Bar.
func breaks(g impl.Graph, rows []string) bool {
	s := sheet{g, rows}
	for node, row := range rows {
		if s.forbids(int64(node), row) {
			return true
		}
	}
	return false
}

// rightGraph by the document's words.
func rightGraph(g impl.Graph) bool {
	if len(g.Widths) > 200 || len(g.Bars) > 1000 || slices.ContainsFunc(g.Widths, func(w int64) bool { return w < 1 || w > 4096 }) {
		return false
	}
	count := int64(len(g.Widths))
	for _, b := range g.Bars {
		if b.A < 0 || b.A >= count || b.B < -1 || b.B >= count || b.B == b.A {
			return false
		}
		if b.B == -1 && (!impl.BitsOk(b.Value) || b.Value.Width != g.Widths[b.A]) {
			return false
		}
		if b.B >= 0 && (g.Widths[b.A] != g.Widths[b.B] || b.Value.Width != 0 || len(b.Value.Words) != 0) {
			return false
		}
	}
	return true
}

// thrownGraph is right: Bars of two nodes where two of one width are thrown, else of a Value.
func thrownGraph(d *dice, widths []int64, bars int) impl.Graph {
	g := impl.Graph{Widths: widths}
	for range bars {
		a, b := d.below(len(widths)), d.below(len(widths))
		if a != b && widths[a] == widths[b] && d.below(4) > 0 {
			g.Bars = append(g.Bars, bar(int64(a), int64(b)))
		} else {
			g.Bars = append(g.Bars, barTo(int64(a), d.row(int(widths[a]))))
		}
	}
	return g
}

// thrownWidths have so many bits in all.
func thrownWidths(d *dice, bits, most int) []int64 {
	var list []int64
	for bits > 0 {
		width := 1 + d.below(min(bits, most))
		list = append(list, int64(width))
		bits -= width
	}
	return list
}
