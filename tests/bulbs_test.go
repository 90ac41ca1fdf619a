package tests

import (
	"fmt"
	"slices"
	"strings"

	"loop.example/g00081/impl"
)

// A bulb is the test's own picture of a bit of a side: with fixed the constant
// n, else the switch n.
type bulb struct {
	fixed bool
	n     int64
}

// bulbsOf are those of a right term, the lowest first.
func bulbsOf(decls []impl.Decl, x impl.Term) []bulb {
	var out []bulb
	for _, w := range lastOf(wiresByTable(decls, x)) {
		if w.v < 0 {
			out = append(out, bulb{true, w.at})
			continue
		}
		out = append(out, bulb{false, 1 + widthOfAll(decls[:w.v]) + w.at})
	}
	return out
}

func widthOfAll(decls []impl.Decl) int64 {
	width := int64(0)
	for _, decl := range decls {
		width += decl.Width
	}
	return width
}

// blastByPicture is asked of right literals; what it tells may be too great.
func blastByPicture(decls []impl.Decl, list []impl.Literal) impl.Cnf {
	c := impl.Cnf{Switches: widthOfAll(decls)}
	for _, l := range list {
		s, u := bulbsOf(decls, l.S), bulbsOf(decls, l.T)
		if l.Equal {
			for i := range s {
				c.Clauses = append(c.Clauses, likeClauses(s[i], u[i])...)
			}
			continue
		}
		clauses, switches := unlikeClauses(s, u, c.Switches)
		c.Clauses, c.Switches = append(c.Clauses, clauses...), switches
	}
	return c
}

func likeClauses(x, y bulb) [][]int64 {
	a, b := min(x.n, y.n), max(x.n, y.n)
	switch {
	case x == y:
		return nil
	case x.fixed && y.fixed:
		return [][]int64{{}}
	case x == bulb{true, 1}:
		return [][]int64{{y.n}}
	case y == bulb{true, 1}:
		return [][]int64{{x.n}}
	case x.fixed:
		return [][]int64{{-y.n}}
	case y.fixed:
		return [][]int64{{-x.n}}
	}
	return [][]int64{{-a, b}, {a, -b}}
}

// unlikeClauses tells how many switches there are behind them, too.
func unlikeClauses(s, u []bulb, switches int64) ([][]int64, int64) {
	var clauses [][]int64
	var all []int64
	d := switches
	for i, x := range s {
		y := u[i]
		a, b := min(x.n, y.n), max(x.n, y.n)
		if x == y {
			continue
		}
		d++
		all = append(all, d)
		switch {
		case x.fixed && y.fixed:
			return nil, switches
		case x == bulb{true, 1}:
			clauses = append(clauses, []int64{-y.n, -d})
		case y == bulb{true, 1}:
			clauses = append(clauses, []int64{-x.n, -d})
		case x.fixed:
			clauses = append(clauses, []int64{y.n, -d})
		case y.fixed:
			clauses = append(clauses, []int64{x.n, -d})
		default:
			clauses = append(clauses, []int64{a, b, -d}, []int64{-a, -b, -d})
		}
	}
	return append(clauses, all), d
}

// cnfText writes a Cnf short: "3 (-1 2) (1 -2) ()".
func cnfText(c impl.Cnf) string {
	text := fmt.Sprint(c.Switches)
	for _, clause := range c.Clauses {
		text += " (" + strings.Trim(fmt.Sprint(clause), "[]") + ")"
	}
	return text
}

func sameCnf(a, b impl.Cnf) bool { return a.Switches == b.Switches && sameLists(a.Clauses, b.Clauses) }

// blastCheckByPicture is asked of right literals whose clauses are not too many.
func blastCheckByPicture(decls []impl.Decl, list []impl.Literal, most int64) impl.Result {
	s := settling{cnf: blastByPicture(decls, list), most: most}
	row, code := s.visit(nil)
	if code != impl.StYes {
		return impl.Result{Code: map[int64]int64{impl.StNo: impl.CkUnsat, impl.StMany: impl.CkMany}[code], Visits: s.visits}
	}
	return impl.Result{Code: impl.CkSat, Visits: s.visits, Values: valuesOfRows(rowsOfSwitches(decls, row))}
}

// rowsOfSwitches turns each word round, as rows begin with the highest bit.
func rowsOfSwitches(decls []impl.Decl, row string) []string {
	var rows []string
	for _, decl := range decls {
		word := []byte(row[:decl.Width])
		slices.Reverse(word)
		rows, row = append(rows, string(word)), row[decl.Width:]
	}
	return rows
}

func switchesOfRows(rows []string) string {
	all := ""
	for _, row := range rows {
		word := []byte(row)
		slices.Reverse(word)
		all += string(word)
	}
	return all
}
