package tests

import (
	"fmt"
	"slices"
	"strings"

	"loop.example/g00081/impl"
)

// pair is the test's own picture of a Claim: its two sides, bit by bit.
type pair struct{ left, right []wire }

func (p pair) claim() impl.Claim {
	return impl.Claim{Left: formOfWires(p.left), Right: formOfWires(p.right)}
}

// usedFields has a letter for each field that a Rule uses.
var usedFields = map[int64]string{1: "I", 2: "T", 3: "I", 4: "IJ", 5: "IHL", 6: "IJ"}

func fieldIsSet(s impl.PStep, letter rune) bool {
	switch letter {
	case 'I':
		return s.I != 0
	case 'J':
		return s.J != 0
	case 'H':
		return s.High != 0
	case 'L':
		return s.Low != 0
	}
	return len(s.Term.Nodes) > 0
}

// pairsByPicture is asked of right literals whose sides have forms, and of at most 200 steps.
func pairsByPicture(decls []impl.Decl, list []impl.Literal, steps []impl.PStep) ([]pair, int64, int64) {
	var pairs []pair
	for at, s := range steps {
		p, code := pairOfStep(decls, list, pairs, s)
		if code != 0 {
			return nil, code, int64(at)
		}
		pairs = append(pairs, p)
	}
	return pairs, 0, -1
}

func pairOfStep(decls []impl.Decl, list []impl.Literal, pairs []pair, s impl.PStep) (pair, int64) {
	used := usedFields[s.Rule]
	for _, letter := range "IJHLT" {
		if used == "" || fieldIsSet(s, letter) && !strings.ContainsRune(used, letter) {
			return pair{}, 2
		}
	}
	if s.Rule == 1 {
		for _, l := range list {
			if l.Id == s.I && l.Equal {
				return pair{lastOf(wiresByTable(decls, l.S)), lastOf(wiresByTable(decls, l.T))}, 0
			}
		}
		return pair{}, 3
	}
	if s.Rule == 2 {
		if widthsByTable(decls, s.Term) == nil || formByTable(decls, s.Term) == nil {
			return pair{}, 4
		}
		wires := lastOf(wiresByTable(decls, s.Term))
		return pair{wires, wires}, 0
	}
	for letter, place := range map[rune]int64{'I': s.I, 'J': s.J} {
		if strings.ContainsRune(used, letter) && (place < 0 || place >= int64(len(pairs))) {
			return pair{}, 3
		}
	}
	return pairOfPairs(pairs, s)
}

func pairOfPairs(pairs []pair, s impl.PStep) (pair, int64) {
	p, q := pairs[s.I], pairs[s.J]
	switch s.Rule {
	case 3:
		return pair{p.right, p.left}, 0
	case 4:
		if !slices.Equal(p.right, q.left) {
			return pair{}, 5
		}
		return pair{p.left, q.right}, 0
	case 5:
		if s.Low < 0 || s.High < s.Low || s.High >= int64(len(p.left)) {
			return pair{}, 6
		}
		return pair{p.left[s.Low : s.High+1], p.right[s.Low : s.High+1]}, 0
	}
	out := pair{slices.Concat(q.left, p.left), slices.Concat(q.right, p.right)}
	if len(out.left) > 4096 || len(formOfWires(out.left)) > 2000 || len(formOfWires(out.right)) > 2000 {
		return pair{}, 6
	}
	return out, 0
}

func sameClaim(x, y impl.Claim) bool { return sameForm(x.Left, y.Left) && sameForm(x.Right, y.Right) }

func claimsOfPairs(pairs []pair) []impl.Claim {
	var claims []impl.Claim
	for _, p := range pairs {
		claims = append(claims, p.claim())
	}
	return claims
}

// hangsOn are the places of all steps on which the step at place hangs, and its own.
func hangsOn(steps []impl.PStep, place int64, met map[int64]bool) {
	if met[place] {
		return
	}
	met[place] = true
	s := steps[place]
	if s.Rule > 2 {
		hangsOn(steps, s.I, met)
	}
	if s.Rule == 4 || s.Rule == 6 {
		hangsOn(steps, s.J, met)
	}
}

// trimmedByPicture is asked of a right proof that has a step.
func trimmedByPicture(steps []impl.PStep) []impl.PStep {
	met := make(map[int64]bool)
	hangsOn(steps, int64(len(steps)-1), met)
	ahead := func(place int64) int64 {
		count := int64(0)
		for other := range met {
			if other < place {
				count++
			}
		}
		return count
	}
	var left []impl.PStep
	for place, s := range steps {
		if !met[int64(place)] {
			continue
		}
		if s.Rule > 2 {
			s.I = ahead(s.I)
		}
		if s.Rule == 4 || s.Rule == 6 {
			s.J = ahead(s.J)
		}
		left = append(left, s)
	}
	return left
}

func sameStep(x, y impl.PStep) bool {
	return x.Rule == y.Rule && x.I == y.I && x.J == y.J && x.High == y.High && x.Low == y.Low && sameTerm(x.Term, y.Term)
}

// Short ways to write steps down.

func byGiven(id int64) impl.PStep { return impl.PStep{Rule: impl.PrGiven, I: id} }

func byTerm(x impl.Term) impl.PStep { return impl.PStep{Rule: impl.PrTerm, Term: x} }

func byTurn(i int64) impl.PStep { return impl.PStep{Rule: impl.PrTurn, I: i} }

func byChain(i, j int64) impl.PStep { return impl.PStep{Rule: impl.PrChain, I: i, J: j} }

func byPart(i, high, low int64) impl.PStep {
	return impl.PStep{Rule: impl.PrPart, I: i, High: high, Low: low}
}

func byGlue(i, j int64) impl.PStep { return impl.PStep{Rule: impl.PrGlue, I: i, J: j} }

func steps(list ...impl.PStep) []impl.PStep { return list }

// thrownSteps are a right proof of at most so many steps: of what is thrown,
// the steps that have a code are left out.
func thrownSteps(d *dice, decls []impl.Decl, list []impl.Literal, most int) []impl.PStep {
	var out []impl.PStep
	var pairs []pair
	for range most {
		s := thrownStep(d, decls, list, pairs)
		p, code := pairOfStep(decls, list, pairs, s)
		if code == 0 && len(p.left) <= 200 {
			out, pairs = append(out, s), append(pairs, p)
		}
	}
	return out
}

func thrownStep(d *dice, decls []impl.Decl, list []impl.Literal, pairs []pair) impl.PStep {
	if len(pairs) == 0 || d.below(4) == 0 {
		if len(list) == 0 || d.below(4) == 0 {
			return byTerm(thrownTerm(d, decls, 6))
		}
		return byGiven(list[d.below(len(list))].Id)
	}
	count := len(pairs)
	i := int64(count - 1 - d.below(min(count, 6)))
	switch d.below(5) {
	case 0:
		return byTurn(i)
	case 1:
		width := len(pairs[i].left)
		low := d.below(width)
		return byPart(i, int64(low+d.below(width-low)), int64(low))
	case 2:
		return byGlue(i, int64(d.below(count)))
	}
	meets := func(p pair) bool { return slices.Equal(pairs[i].right, p.left) }
	return byChain(i, int64(max(0, slices.IndexFunc(pairs, meets))))
}

// stepText writes a step short, for what a test tells.
func stepText(s impl.PStep) string {
	return fmt.Sprint("rule ", s.Rule, " I ", s.I, " J ", s.J, " High ", s.High, " Low ", s.Low, " of ", len(s.Term.Nodes), " nodes")
}

func stepsText(list []impl.PStep) string {
	var lines []string
	for _, s := range list {
		lines = append(lines, stepText(s))
	}
	return strings.Join(lines, "; ")
}
