package tests

import (
	"fmt"
	"slices"
	"strings"

	"loop.example/g00081/impl"
)

// trip is the test's own picture of a check: it goes forth and back over the
// inequalities that are open, without recursion, and colours by a sheet.
type trip struct {
	graph   impl.Graph // its Bars are those of the turns that have been made
	open    []impl.Split
	choices []int
	visits  int64
	most    int64
	in      string // where the visits ran out
}

// run tells the rows of the classes.
func (p *trip) run() ([]string, int64) {
	for comes := true; ; {
		turn := len(p.choices)
		if turn == len(p.open) && comes {
			rows, visits, code := colourByPicture(p.graph, p.most-p.visits)
			p.visits += visits
			switch code {
			case impl.ClOk:
				return rows, impl.CkSat
			case impl.ClMany:
				p.in = "colour"
				return nil, impl.CkMany
			}
			comes = false
			continue
		}
		if comes {
			if p.visits == p.most {
				p.in = "search"
				return nil, impl.CkMany
			}
			p.visits++
			p.choices = append(p.choices, -1)
			p.graph.Bars = append(p.graph.Bars, impl.Bar{})
		} else if turn == 0 {
			return nil, impl.CkUnsat
		}
		comes = p.step()
	}
}

// step takes the next Bar of the last turn, or gives the turn back.
func (p *trip) step() bool {
	last := len(p.choices) - 1
	p.choices[last]++
	if p.choices[last] < len(p.open[last].Bars) {
		p.graph.Bars[last] = p.open[last].Bars[p.choices[last]]
		return true
	}
	p.choices, p.graph.Bars = p.choices[:last], p.graph.Bars[:last]
	return false
}

// checkByPicture is asked of right literals whose sides have forms; it tells
// where the visits ran out, too.
func checkByPicture(decls []impl.Decl, list []impl.Literal, most int64) (impl.Result, string) {
	cl, _ := classesByPicture(decls, list, noMarks(decls).cuts())
	if len(cl.Clash) > 0 {
		return impl.Result{Code: impl.CkUnsat}, ""
	}
	splits, _ := splitsByPicture(decls, list, cl)
	if slices.ContainsFunc(splits, func(s impl.Split) bool { return s.State == impl.SpFalse }) {
		return impl.Result{Code: impl.CkUnsat}, ""
	}
	if len(cl.List) > 200 {
		return impl.Result{Code: impl.CkLarge}, ""
	}
	parts := marksOf(decls, cl.Cuts).slices()
	p := trip{most: most, open: slices.DeleteFunc(splits, func(s impl.Split) bool { return s.State != impl.SpOpen })}
	for _, class := range cl.List {
		p.graph.Widths = append(p.graph.Widths, parts[class.Slices[0]].Width)
	}
	rows, code := p.run()
	r := impl.Result{Code: code, Visits: p.visits}
	if code == impl.CkSat {
		r.Values = valuesOfRows(rowsOfSlices(decls, cl, parts, rows))
	}
	return r, p.in
}

func rowsOfSlices(decls []impl.Decl, cl impl.Classes, parts []impl.Slice, words []string) []string {
	rows := make([]string, len(decls))
	for place, s := range parts {
		i := slices.IndexFunc(cl.List, func(c impl.Class) bool { return slices.Contains(c.Slices, int64(place)) })
		word := words[i]
		if cl.List[i].Fixed {
			word = rowOfBits(cl.List[i].Value)
		}
		rows[s.Var] = word + rows[s.Var]
	}
	return rows
}

func sameResult(x, y impl.Result) bool {
	return x.Code == y.Code && x.Visits == y.Visits && slices.EqualFunc(x.Values, y.Values, sameBits)
}

var codeNames = map[int64]string{impl.CkBad: "bad", impl.CkLarge: "large", impl.CkUnsat: "unsat", impl.CkMany: "many", impl.CkSat: "sat"}

// resultText writes a result short: "unsat 3", "sat 1 01 10".
func resultText(r impl.Result) string {
	text := fmt.Sprint(codeNames[r.Code], " ", r.Visits)
	for _, value := range r.Values {
		text += " " + rowOfBits(value)
	}
	return text
}

// togetherByHand says that all variables together are not what rows are.
func togetherByHand(rows []string) impl.Literal {
	var all impl.Term
	var kids []int64
	for v := range rows {
		kids = append(kids, int64(v))
		all.Nodes = append(all.Nodes, variable(int64(v)))
	}
	if len(rows) > 1 {
		all.Nodes = append(all.Nodes, cat(kids...))
	}
	return literal(1000000, false, all, term(constant(strings.Join(rows, ""))))
}
