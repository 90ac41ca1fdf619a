package tests

import (
	"fmt"
	"slices"
	"strings"

	"loop.example/g00081/impl"
)

// The test's own picture of solving: literals by the nodes of their sides, as
// chapter 3's words replace them.

func binding(v int64, x impl.Term) impl.Binding { return impl.Binding{Var: v, Term: x} }

func bindings(list ...impl.Binding) []impl.Binding { return list }

func sameBinding(x, y impl.Binding) bool { return x.Var == y.Var && sameTerm(x.Term, y.Term) }

func sameLiteral(x, y impl.Literal) bool {
	return x.Id == y.Id && x.Equal == y.Equal && sameTerm(x.S, y.S) && sameTerm(x.T, y.T)
}

// takenBy is what a literal binds, if anything: the first of its sides that is
// a variable alone and does not stand in the other one.
func takenBy(l impl.Literal) (impl.Binding, bool) {
	for _, pair := range [][2]impl.Term{{l.S, l.T}, {l.T, l.S}} {
		if vars := varsByTable(pair[0]); l.Equal && len(pair[0].Nodes) == 1 && len(vars) == 1 && !slices.Contains(varsByTable(pair[1]), vars[0]) {
			return binding(vars[0], pair[1]), true
		}
	}
	return impl.Binding{}, false
}

// solvedByPicture is asked of right literals whose sides have texts.
func solvedByPicture(decls []impl.Decl, list []impl.Literal) ([]impl.Binding, []impl.Literal) {
	i := slices.IndexFunc(list, func(l impl.Literal) bool { _, is := takenBy(l); return is })
	if i < 0 {
		return nil, list
	}
	b, _ := takenBy(list[i])
	rest := leftOut(list, i)
	for i, l := range rest {
		rest[i].S, rest[i].T = replacedByPicture(decls, l.S, b), replacedByPicture(decls, l.T, b)
		if len(rest[i].S.Nodes) > 400 || len(rest[i].T.Nodes) > 400 {
			return nil, list
		}
	}
	more, left := solvedByPicture(decls, rest)
	return append(bindings(binding(b.Var, sharedByTexts(decls, b.Term))), more...), left
}

// replacedByPicture leaves a side in which the variable does not stand as it is.
func replacedByPicture(decls []impl.Decl, x impl.Term, b impl.Binding) impl.Term {
	if !slices.Contains(varsByTable(x), b.Var) {
		return x
	}
	return replacedByWords(decls, x, b.Var, b.Term)
}

// solvedText writes an answer short: "a is (rep 2 b), b is #b01; 3 c ! d".
func solvedText(decls []impl.Decl, list []impl.Binding, left []impl.Literal) string {
	var bound, rest []string
	for _, b := range list {
		bound = append(bound, decls[b.Var].Name+" is "+impl.WriteTerm(decls, b.Term))
	}
	for _, l := range left {
		sign := map[bool]string{true: "=", false: "!"}[l.Equal]
		rest = append(rest, fmt.Sprint(l.Id, " ", impl.WriteTerm(decls, l.S), " ", sign, " ", impl.WriteTerm(decls, l.T)))
	}
	return strings.Join(bound, ", ") + "; " + strings.Join(rest, ", ")
}

func boundByRows(rows []string, list []impl.Binding) []string {
	rows = slices.Clone(rows)
	for _, b := range slices.Backward(list) {
		rows[b.Var] = lastOf(rowsByTable(rows, b.Term))
	}
	return rows
}

func fittingBinding(decls []impl.Decl, b impl.Binding) bool {
	widths := widthsByTable(decls, b.Term)
	return widths != nil && b.Var >= 0 && b.Var < int64(len(decls)) && lastOf(widths) == decls[b.Var].Width
}

func straightByTable(decls []impl.Decl, list []impl.Binding) bool {
	for i, b := range list {
		if !fittingBinding(decls, b) {
			return false
		}
		for j, other := range list[:i+1] {
			if i != j && other.Var == b.Var || slices.Contains(varsByTable(b.Term), other.Var) {
				return false
			}
		}
	}
	return true
}

// fitted is a term with nodes more, or with fewer bits, so that it has a width.
func fitted(d *dice, decls []impl.Decl, x impl.Term, width int64) impl.Term {
	more := width - lastOf(widthsByTable(decls, x))
	last := int64(len(x.Nodes) - 1)
	switch {
	case more > 0:
		x.Nodes = append(x.Nodes, one([]int64{impl.TmZero, impl.TmSign}[d.below(2)], more, last))
	case more < 0:
		low := int64(d.below(int(-more) + 1))
		x.Nodes = append(x.Nodes, part(low+width-1, low, last))
	}
	return x
}

// thrownBinding has a variable and a term of its width.
func thrownBinding(d *dice, decls []impl.Decl) impl.Binding {
	v := int64(d.below(len(decls)))
	return binding(v, fitted(d, decls, thrownTerm(d, decls, 7), decls[v].Width))
}

// thrownEquations are literals of which many have a side that is a variable alone.
func thrownEquations(d *dice, decls []impl.Decl, count int) []impl.Literal {
	list := thrownLiterals(d, decls, count, 3)
	for i := range list {
		list[i].Equal = d.below(4) > 0
		if d.below(4) == 0 {
			continue
		}
		b := thrownBinding(d, decls)
		list[i].S, list[i].T = term(variable(b.Var)), b.Term
		if d.below(2) == 0 {
			list[i].S, list[i].T = list[i].T, list[i].S
		}
	}
	return list
}
