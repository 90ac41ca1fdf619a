package tests

import (
	"fmt"
	"math"
	"slices"
	"strings"
	"testing"

	"loop.example/g00081/impl"
)

// checkConclude is asked of right literals whose sides have forms, and of at most 200 steps.
func checkConclude(t *testing.T, decls []impl.Decl, list []impl.Literal, steps []impl.PStep) ([]impl.Claim, int64, int64) {
	t.Helper()
	claims, code, place := impl.Conclude(decls, list, steps)
	pairs, wantCode, wantPlace := pairsByPicture(decls, list, steps)
	if code != wantCode || place != wantPlace || !slices.EqualFunc(claims, claimsOfPairs(pairs), sameClaim) {
		t.Fatalf("%s: %v, %d at %d, want %v, %d at %d", stepsText(steps), claims, code, place, claimsOfPairs(pairs), wantCode, wantPlace)
	}
	checkTrim(t, decls, list, steps, code)
	return claims, code, place
}

func checkTrim(t *testing.T, decls []impl.Decl, list []impl.Literal, steps []impl.PStep, code int64) {
	t.Helper()
	less, ok := impl.Trim(decls, list, steps)
	if code != 0 || len(steps) == 0 {
		if ok || len(less) != 0 {
			t.Fatalf("%s: trimmed %s, %v", stepsText(steps), stepsText(less), ok)
		}
		return
	}
	if want := trimmedByPicture(steps); !ok || !slices.EqualFunc(less, want, sameStep) {
		t.Fatalf("%s: trimmed %s, %v, want %s", stepsText(steps), stepsText(less), ok, stepsText(want))
	}
}

func wantNoClaims(t *testing.T, what string, wantCode, wantPlace int64, claims []impl.Claim, code, place int64) {
	t.Helper()
	if len(claims) != 0 || code != wantCode || place != wantPlace {
		t.Fatalf("%s: %v, %d at %d, want %d at %d", what, claims, code, place, wantCode, wantPlace)
	}
}

func TestProofConstants(t *testing.T) {
	if impl.MaxProof != 200 || impl.PrGiven != 1 || impl.PrTerm != 2 || impl.PrTurn != 3 || impl.PrChain != 4 || impl.PrPart != 5 || impl.PrGlue != 6 {
		t.Error("the rules are others")
	}
	if impl.PrBad != 1 || impl.PrRule != 2 || impl.PrStep != 3 || impl.PrForm != 4 || impl.PrMeet != 5 || impl.PrRange != 6 {
		t.Error("the codes are others")
	}
}

// proofLiterals are, for fourAndOne, equalities with the Ids 1, 3 and 4, and inequalities with 2 and 5.
func proofLiterals(t *testing.T) []impl.Literal {
	return readLiterals(t, fourAndOne(), "a = b", "a ! c", "b = #b01", "e = (cat c b)", "d ! #b00")
}

func TestConcludeByEachRule(t *testing.T) {
	decls, list := fourAndOne(), proofLiterals(t)
	a, b, c, e := seg(0, 0, 2), seg(1, 0, 2), seg(2, 0, 2), seg(4, 0, 4)
	x := readTerm(t, decls, "(cat (part 1 1 a) #b1 (part 0 0 a))")
	proof := steps(byGiven(1), byGiven(3), byGiven(4), byTerm(x), byTurn(0), byTurn(2), byChain(0, 1), byChain(4, 0), byPart(2, 3, 2), byPart(2, 2, 1), byPart(2, 0, 0), byPart(2, 3, 0), byGlue(0, 1), byGlue(1, 0), byGlue(1, 1), byGlue(8, 9), byPart(12, 3, 2))
	want := []impl.Claim{
		{Left: form(a), Right: form(b)}, {Left: form(b), Right: form(fixed("01"))}, {Left: form(e), Right: form(b, c)},
		{Left: form(seg(0, 0, 1), fixed("1"), seg(0, 1, 1)), Right: form(seg(0, 0, 1), fixed("1"), seg(0, 1, 1))},
		{Left: form(b), Right: form(a)}, {Left: form(b, c), Right: form(e)},
		{Left: form(a), Right: form(fixed("01"))}, {Left: form(b), Right: form(b)},
		{Left: form(seg(4, 2, 2)), Right: form(c)}, {Left: form(seg(4, 1, 2)), Right: form(seg(1, 1, 1), seg(2, 0, 1))}, {Left: form(seg(4, 0, 1)), Right: form(seg(1, 0, 1))}, {Left: form(e), Right: form(b, c)},
		// the first one has the higher bits
		{Left: form(b, a), Right: form(fixed("01"), b)}, {Left: form(a, b), Right: form(b, fixed("01"))},
		// constants that come to stand behind one another are one
		{Left: form(b, b), Right: form(fixed("0101"))},
		{Left: form(seg(4, 1, 2), seg(4, 2, 2)), Right: form(seg(1, 1, 1), seg(2, 0, 1), c)},
		{Left: form(a), Right: form(b)},
	}
	claims, code, place := checkConclude(t, decls, list, proof)
	if code != 0 || place != -1 || !slices.EqualFunc(claims, want, sameClaim) {
		t.Errorf("%v, %d at %d", claims, code, place)
	}
	// nothing is claimed by no steps, and there is no fault
	for _, none := range [][]impl.PStep{nil, steps()} {
		if claims, code, place := checkConclude(t, decls, list, none); len(claims) != 0 || code != 0 || place != -1 {
			t.Errorf("no steps: %v, %d at %d", claims, code, place)
		}
	}
	// a step may lean on one step twice, and on one that says nothing new
	checkConclude(t, decls, list, steps(byTerm(x), byChain(0, 0), byGlue(1, 1), byTurn(2), byPart(3, 0, 0)))
	checkConclude(t, nil, nil, steps(byTerm(term(constant("01"))), byGlue(0, 0), byPart(1, 2, 1), byTurn(2)))
}

// rightSteps has one step of each rule that is right behind proofStart.
func rightSteps(t *testing.T) []impl.PStep {
	return steps(byGiven(4), byTerm(readTerm(t, fourAndOne(), "(left 1 a)")), byTurn(1), byChain(1, 2), byPart(1, 1, 1), byGlue(2, 1))
}

func proofStart() []impl.PStep { return steps(byGiven(1), byGiven(1), byTurn(1)) }

func setField(s impl.PStep, letter rune, n int64) impl.PStep {
	switch letter {
	case 'I':
		s.I = n
	case 'J':
		s.J = n
	case 'H':
		s.High = n
	case 'L':
		s.Low = n
	}
	return s
}

func TestConcludeRefusesFieldsThatAreNotUsed(t *testing.T) {
	decls, list := fourAndOne(), proofLiterals(t)
	numbers := []int64{math.MinInt64, -2, -1, 1, 2, 3, 1000000, math.MaxInt64}
	terms := []impl.Term{term(variable(0)), term(constant("1")), term(variable(9)), {Nodes: make([]impl.TNode, 1)}, {Nodes: make([]impl.TNode, 500)}}
	for _, s := range rightSteps(t) {
		ask := func(s impl.PStep) (int64, int64) {
			_, code, place := checkConclude(t, decls, list, append(proofStart(), s, byTurn(0)))
			return code, place
		}
		if code, place := ask(s); code != 0 || place != -1 {
			t.Fatalf("%s: %d at %d", stepText(s), code, place)
		}
		for _, letter := range "IJHL" {
			for _, n := range numbers {
				code, place := ask(setField(s, letter, n))
				if isUsed := strings.ContainsRune(usedFields[s.Rule], letter); isUsed == (code == impl.PrRule) || !isUsed && place != 3 {
					t.Errorf("%s with the %c %d: %d at %d", stepText(s), letter, n, code, place)
				}
			}
		}
		for _, x := range terms {
			with := s
			with.Term = x
			if code, place := ask(with); s.Rule != impl.PrTerm && (code != impl.PrRule || place != 3) || s.Rule == impl.PrTerm && code == impl.PrRule {
				t.Errorf("%s: %d at %d", stepText(with), code, place)
			}
		}
		// a Term that is empty is none
		with := s
		with.Term.Nodes = []impl.TNode{}
		if code, _ := ask(with); s.Rule != impl.PrTerm && code != 0 || s.Rule == impl.PrTerm && code != impl.PrForm {
			t.Errorf("%s: %d", stepText(with), code)
		}
		// none of the table's, with the fields of each
		for _, rule := range []int64{0, 7, -1, 8, 100, math.MinInt64, math.MaxInt64} {
			with := s
			with.Rule = rule
			if code, place := ask(with); code != impl.PrRule || place != 3 {
				t.Errorf("%s: %d at %d", stepText(with), code, place)
			}
		}
	}
	for _, rule := range []int64{0, 7, -1, math.MinInt64, math.MaxInt64} {
		claims, code, place := checkConclude(t, decls, list, steps(impl.PStep{Rule: rule}))
		wantNoClaims(t, fmt.Sprint("rule ", rule), impl.PrRule, 0, claims, code, place)
	}
}

func TestConcludeRefusesPlaces(t *testing.T) {
	decls, list := fourAndOne(), proofLiterals(t)
	x := term(variable(0))
	same := steps(byTerm(x), byTerm(x), byTerm(x))
	for _, place := range []int64{math.MinInt64, -2, -1, 0, 1, 2, 3, 4, 5, 6, 1000000, math.MaxInt64} {
		fine := place >= 0 && place < 3
		for _, s := range steps(byTurn(place), byPart(place, 0, 0), byChain(place, 0), byChain(0, place), byChain(place, place), byGlue(place, 0), byGlue(0, place), byGlue(place, place)) {
			claims, code, at := checkConclude(t, decls, list, append(slices.Clone(same), s, byTerm(x), byTerm(x)))
			if fine && (code != 0 || at != -1) {
				t.Errorf("%s: %d at %d", stepText(s), code, at)
			}
			if !fine {
				wantNoClaims(t, stepText(s), impl.PrStep, 3, claims, code, at)
			}
		}
		// PrGiven names the Id of an equality, and no place
		isGiven := slices.Contains(at(1, 3, 4), place)
		claims, code, at := checkConclude(t, decls, list, append(slices.Clone(same), byGiven(place)))
		if isGiven && (code != 0 || at != -1) {
			t.Errorf("the Id %d: %d at %d", place, code, at)
		}
		if !isGiven {
			wantNoClaims(t, fmt.Sprint("the Id ", place), impl.PrStep, 3, claims, code, at)
		}
	}
	// at the very first step there is none ahead
	for _, s := range steps(byTurn(0), byChain(0, 0), byPart(0, 0, 0), byGlue(0, 0), byGiven(0), byGiven(2), byGiven(6)) {
		claims, code, place := checkConclude(t, decls, list, steps(s))
		wantNoClaims(t, stepText(s), impl.PrStep, 0, claims, code, place)
	}
	claims, code, place := checkConclude(t, decls, nil, steps(byGiven(1)))
	wantNoClaims(t, "no literals", impl.PrStep, 0, claims, code, place)
	// Ids that are far apart, and the greatest
	far := []impl.Literal{literal(7, false, x, x), literal(900, true, x, term(variable(1))), literal(1000000, true, x, term(variable(2)))}
	for id, want := range map[int64]int64{0: impl.PrStep, 1: impl.PrStep, 7: impl.PrStep, 899: impl.PrStep, 900: 0, 901: impl.PrStep, 1000000: 0, 1000001: impl.PrStep} {
		if _, code, _ := checkConclude(t, decls, far, steps(byGiven(id))); code != want {
			t.Errorf("the Id %d: %d, want %d", id, code, want)
		}
	}
}

func TestConcludeRefusesTerms(t *testing.T) {
	decls := someDecls()
	refused := 0
	for _, x := range append(wrongTerms(term(variable(0), constant("01"), cat(0, 1))), impl.Term{}, term(variable(6)), chain(variable(0), 400)) {
		claims, code, place := checkConclude(t, decls, nil, steps(byTerm(term(variable(0))), byTerm(x)))
		if widthsByTable(decls, x) == nil {
			wantNoClaims(t, "a wrong term", impl.PrForm, 1, claims, code, place)
			refused++
		}
	}
	if refused < 100 {
		t.Errorf("%d are refused", refused)
	}
	for name, x := range map[string]impl.Term{"long": term(variable(2), one(impl.TmRep, 2001, 0)), "a long node": term(variable(2), one(impl.TmRep, 2001, 0), part(3, 0, 1))} {
		claims, code, place := checkConclude(t, decls, nil, steps(byTerm(x)))
		wantNoClaims(t, name, impl.PrForm, 0, claims, code, place)
	}
	for _, x := range []impl.Term{term(variable(2), one(impl.TmRep, 2000, 0)), chain(variable(0), 399), term(constant(strings.Repeat("01", 2048)))} {
		if _, code, place := checkConclude(t, decls, nil, steps(byTerm(x), byTurn(0))); code != 0 || place != -1 {
			t.Errorf("%d nodes: %d at %d", len(x.Nodes), code, place)
		}
	}
}

func TestConcludeRefusesFormsThatDoNotMeet(t *testing.T) {
	decls := fourAndOne()
	list := readLiterals(t, decls, "a = b", "b = a", "e = #x1", "#x1 = (cat a b)", "(cat a b) = (cat (part 1 1 a) (part 0 0 a) b)", "a = #b01", "#b10 = b", "#b01 = c", "#b1 = #b0", "(part 1 0 e) = a", "(part 2 1 e) = a", "(part 3 2 e) = (part 1 0 e)")
	for _, c := range []struct {
		first, second int64
		meet          bool
	}{
		{1, 1, false}, {1, 2, true}, {2, 1, true}, {2, 2, false}, {3, 4, true}, {4, 3, false}, {4, 5, true}, {5, 5, true}, {6, 7, false}, {6, 8, true}, {9, 9, false}, {10, 1, true}, {11, 10, false}, {12, 10, true}, {12, 11, false}, {2, 6, true}, {10, 11, false}, {1, 3, false}, {3, 6, false}, {6, 4, false},
	} {
		claims, code, place := checkConclude(t, decls, list, steps(byGiven(c.first), byGiven(c.second), byChain(0, 1)))
		if c.meet && (code != 0 || place != -1 || len(claims) != 3) {
			t.Errorf("%d and %d: %d at %d", c.first, c.second, code, place)
		}
		if !c.meet {
			wantNoClaims(t, fmt.Sprint(c.first, " and ", c.second), impl.PrMeet, 2, claims, code, place)
		}
	}
	// constants of many words that are unlike in one bit
	ones := strings.Repeat("1", 130)
	for _, row := range []string{ones[1:] + "0", "0" + ones[1:], ones[:64] + "0" + ones[65:], ones[1:], ones} {
		want := map[bool]int64{true: 0, false: impl.PrMeet}[row == ones]
		if _, code, _ := checkConclude(t, nil, nil, steps(byTerm(term(constant(ones))), byTerm(term(constant(row))), byChain(0, 1))); code != want {
			t.Errorf("%s: %d", row, code)
		}
	}
}

func TestConcludeRefusesRanges(t *testing.T) {
	decls := []impl.Decl{{Name: "a", Width: 4}, {Name: "b", Width: 4096}, {Name: "c", Width: 1}, {Name: "d", Width: 2047}, {Name: "f", Width: 2049}, {Name: "g", Width: 2000}}
	x := term(variable(0))
	for _, c := range []struct {
		high, low int64
		fine      bool
	}{
		{0, 0, true}, {3, 0, true}, {3, 3, true}, {2, 1, true}, {4, 0, false}, {4, 4, false}, {0, 1, false}, {3, 4, false}, {0, -1, false}, {-1, -1, false}, {-1, 0, false}, {math.MaxInt64, 0, false}, {math.MaxInt64, math.MaxInt64, false}, {math.MinInt64, 0, false}, {0, math.MinInt64, false}, {math.MinInt64, math.MinInt64, false}, {math.MaxInt64, math.MinInt64, false}, {2, math.MinInt64, false},
	} {
		claims, code, place := checkConclude(t, decls, nil, steps(byTerm(x), byPart(0, c.high, c.low)))
		if c.fine && code != 0 {
			t.Errorf("%d .. %d: %d at %d", c.low, c.high, code, place)
		}
		if !c.fine {
			wantNoClaims(t, fmt.Sprint(c.low, " .. ", c.high), impl.PrRange, 1, claims, code, place)
		}
	}
	v := func(v int64) impl.PStep { return byTerm(term(variable(v))) }
	many := func(count int64) impl.PStep { return byTerm(term(variable(2), one(impl.TmRep, count, 0))) }
	zeros := func(count int64) impl.Term { return term(constant("0"), one(impl.TmRep, count, 0)) }
	list := []impl.Literal{literal(1, true, term(variable(2), one(impl.TmRep, 1001, 0)), zeros(1001)), literal(2, true, zeros(1001), term(variable(2), one(impl.TmRep, 1001, 0))), literal(3, true, term(variable(2), one(impl.TmRep, 1000, 0)), zeros(1000))}
	for name, c := range map[string]struct {
		high, low impl.PStep
		want      int64
	}{
		"4096 bits": {v(3), v(4), 0}, "4097 bits": {v(4), v(4), impl.PrRange}, "4097 bits with one": {v(1), v(2), impl.PrRange}, "one more below": {v(2), v(1), impl.PrRange}, "twice 4096": {v(1), v(1), impl.PrRange},
		"2000 segments": {many(1000), many(1000), 0}, "2001 segments": {many(1001), many(1000), impl.PrRange}, "2000 and a variable": {many(2000), v(3), impl.PrRange}, "1999 and a variable": {v(3), many(1999), 0},
		// too many on one side alone
		"on the left": {byGiven(1), byGiven(3), impl.PrRange}, "on the right": {byGiven(2), byGiven(2), impl.PrRange}, "left and right": {byGiven(1), byGiven(2), 0}, "right and left": {byGiven(2), byGiven(1), 0}, "2000 on the left": {byGiven(3), byGiven(3), 0},
	} {
		claims, code, place := checkConclude(t, decls, list, steps(c.high, c.low, byGlue(0, 1)))
		if code != c.want || (place == 2) != (c.want != 0) || (len(claims) == 3) != (c.want == 0) {
			t.Errorf("%s: %d at %d, want %d", name, code, place, c.want)
		}
	}
	// two that become one where they meet
	half := byTerm(term(variable(2), one(impl.TmRep, 1000, 0), constant("0"), cat(1, 2)))
	low := byTerm(term(constant("1"), variable(2), one(impl.TmRep, 999, 1), cat(0, 2)))
	if _, code, _ := checkConclude(t, decls, nil, steps(half, low, byGlue(0, 1))); code != 0 {
		t.Errorf("2000 behind joining: %d", code)
	}
	if _, code, _ := checkConclude(t, decls, nil, steps(half, low, byGlue(1, 0))); code != impl.PrRange {
		t.Errorf("2001 the other way round: %d", code)
	}
}

// Of two faults of one step the first of the document's order is told, of two
// steps the first one's.
func TestConcludeTellsTheFirstFault(t *testing.T) {
	decls, list := fourAndOne(), proofLiterals(t)
	start := proofStart()
	e := term(variable(4))
	for _, c := range []struct {
		s    impl.PStep
		code int64
	}{
		{impl.PStep{Rule: 7, I: -1, J: 9, High: 5, Low: 7, Term: e}, impl.PrRule}, {impl.PStep{Rule: impl.PrGiven, I: 2, J: 1}, impl.PrRule}, {impl.PStep{Rule: impl.PrGiven, I: -1, Term: e}, impl.PrRule}, {impl.PStep{Rule: impl.PrTerm, I: 1}, impl.PrRule}, {impl.PStep{Rule: impl.PrTerm, Low: -1, Term: term(variable(9))}, impl.PrRule}, {impl.PStep{Rule: impl.PrTurn, I: 3, J: 3}, impl.PrRule}, {impl.PStep{Rule: impl.PrChain, I: -1, J: 9, High: 1}, impl.PrRule}, {impl.PStep{Rule: impl.PrChain, I: 0, J: 1, Low: 1}, impl.PrRule}, {impl.PStep{Rule: impl.PrPart, I: 9, J: 1, High: 9}, impl.PrRule}, {impl.PStep{Rule: impl.PrPart, I: 0, J: 1, High: 9}, impl.PrRule}, {impl.PStep{Rule: impl.PrGlue, I: 9, J: 9, Term: e}, impl.PrRule},
		{byPart(3, 9, 0), impl.PrStep}, {byPart(-1, 0, 1), impl.PrStep}, {byChain(0, 3), impl.PrStep}, {byChain(-1, 1), impl.PrStep}, {byGlue(3, 0), impl.PrStep},
		{byChain(0, 1), impl.PrMeet}, {byPart(0, 2, 0), impl.PrRange},
	} {
		claims, code, place := checkConclude(t, decls, list, append(slices.Clone(start), c.s))
		wantNoClaims(t, stepText(c.s), c.code, 3, claims, code, place)
		for _, later := range steps(impl.PStep{}, byTurn(-1), byTerm(impl.Term{}), byChain(0, 0), byPart(0, 5, 0)) {
			claims, code, place := checkConclude(t, decls, list, append(slices.Clone(start), c.s, later))
			wantNoClaims(t, stepText(c.s), c.code, 3, claims, code, place)
			claims, code, place = checkConclude(t, decls, list, append(slices.Clone(start), byTurn(0), c.s, later))
			if code == 0 || place < 4 {
				t.Errorf("%s: %v, %d at %d", stepText(c.s), claims, code, place)
			}
		}
	}
}

func TestConcludeRefusesLiteralsFirst(t *testing.T) {
	decls := someDecls()
	a := term(variable(0))
	given := []impl.Literal{literal(1, true, a, a)}
	bad := func(what string, decls []impl.Decl, list []impl.Literal, proof []impl.PStep) {
		t.Helper()
		claims, code, place := impl.Conclude(decls, list, proof)
		wantNoClaims(t, what, impl.PrBad, -1, claims, code, place)
		if less, ok := impl.Trim(decls, list, proof); ok || len(less) != 0 {
			t.Fatalf("%s: trimmed %s, %v", what, stepsText(less), ok)
		}
		if impl.Proves(decls, list, proof, a, a) {
			t.Fatalf("%s: proves", what)
		}
	}
	for what, list := range wrongLists() {
		for _, proof := range [][]impl.PStep{nil, steps(byTerm(a)), steps(byGiven(1)), steps(impl.PStep{}), steps(byTerm(a), byTurn(5))} {
			bad(what, decls, list, proof)
		}
	}
	for _, wrong := range wrongDecls() {
		bad("wrong decls", wrong, nil, nil)
		bad("wrong decls", wrong, nil, steps(byTerm(term(constant("1")))))
	}
	for _, c := range []struct {
		proof []impl.PStep
		fine  bool
	}{
		{slices.Repeat(steps(byGiven(1)), 199), true}, {slices.Repeat(steps(byGiven(1)), 200), true}, {slices.Repeat(steps(byGiven(1)), 201), false}, {slices.Repeat(steps(byGiven(1)), 1000), false}, {slices.Repeat(steps(impl.PStep{Rule: 9}), 201), false}, {append(steps(byTurn(0)), slices.Repeat(steps(byGiven(1)), 200)...), false},
	} {
		if !c.fine {
			bad(fmt.Sprint(len(c.proof), " steps"), decls, given, c.proof)
			continue
		}
		if claims, code, place := checkConclude(t, decls, given, c.proof); code != 0 || place != -1 || len(claims) != len(c.proof) || !impl.Proves(decls, given, c.proof, a, a) {
			t.Errorf("%d steps: %d at %d", len(c.proof), code, place)
		}
	}
	// a fault in one of 200 is told at its place
	long := slices.Repeat(steps(byGiven(1)), 200)
	long[199] = byTurn(199)
	claims, code, place := checkConclude(t, decls, given, long)
	wantNoClaims(t, "the last of 200", impl.PrStep, 199, claims, code, place)
	long[199] = byTurn(198)
	checkConclude(t, decls, given, long)
	if less, ok := impl.Trim(decls, given, long); !ok || len(less) != 2 || less[1].I != 0 {
		t.Errorf("trimmed %s, %v", stepsText(less), ok)
	}
	for i := range long[1:] {
		long[i+1] = byTurn(int64(i))
	}
	if less, ok := impl.Trim(decls, given, long); !ok || !slices.EqualFunc(less, long, sameStep) {
		t.Errorf("trimmed %s, %v", stepsText(less), ok)
	}
}

func proofDecls() []impl.Decl {
	return []impl.Decl{{Name: "a", Width: 7}, {Name: "b", Width: 5}, {Name: "c", Width: 4}, {Name: "d", Width: 1}, {Name: "e", Width: 66}}
}

// thrownChange is another number in a field, or another rule.
func thrownChange(d *dice, s impl.PStep, count int) impl.PStep {
	s = setField(s, []rune("IJHL")[d.below(4)], int64(d.below(count+3)-1))
	if d.below(8) == 0 {
		s.Rule = int64(d.below(9) - 1)
	}
	return s
}

func TestConcludeOfThrownSteps(t *testing.T) {
	d := dice{state: 161}
	decls := proofDecls()
	told := make(map[string]int)
	for range 800 {
		list := thrownLiterals(&d, decls, d.below(6), 3)
		proof := thrownSteps(&d, decls, list, 1+d.below(40))
		claims, _, _ := checkConclude(t, decls, list, proof)
		for i, s := range proof {
			told[fmt.Sprint("rule ", s.Rule)]++
			if !impl.FlatOk(decls, claims[i].Left) || !impl.FlatOk(decls, claims[i].Right) {
				t.Fatalf("%s: %v", stepsText(proof), claims[i])
			}
		}
		for range 6 {
			wrong := slices.Clone(proof)
			if len(wrong) == 0 {
				break
			}
			s := &wrong[d.below(len(wrong))]
			if s.Rule == impl.PrTerm && d.below(3) > 0 {
				changed := wrongTerms(s.Term)
				s.Term = changed[d.below(len(changed))]
			} else {
				*s = thrownChange(&d, *s, len(wrong))
			}
			_, code, _ := checkConclude(t, decls, list, wrong)
			told[fmt.Sprint("code ", code)]++
		}
	}
	for rule := range int64(6) {
		if told[fmt.Sprint("rule ", rule+1)] < 300 {
			t.Errorf("rule %d is too seldom: %v", rule+1, told)
		}
	}
	for _, code := range []int64{0, impl.PrRule, impl.PrStep, impl.PrForm, impl.PrMeet, impl.PrRange} {
		if told[fmt.Sprint("code ", code)] < 30 {
			t.Errorf("code %d is too seldom: %v", code, told)
		}
	}
}

// The promise: what is claimed holds by all values by which the equalities
// hold, and a trimmed proof claims the same in the end.
func TestProofsByAllValues(t *testing.T) {
	d := dice{state: 162}
	claimed, shorter := 0, 0
	narrowLists(&d, 120, func(decls []impl.Decl, list []impl.Literal) {
		proof := thrownSteps(&d, decls, list, 30)
		claims, code, _ := impl.Conclude(decls, list, proof)
		if code != 0 || len(claims) != len(proof) {
			t.Fatalf("%s: %d", stepsText(proof), code)
		}
		for _, rows := range valuesOfAll(decls, equalitiesOf(list, nil)) {
			for _, c := range claims {
				left, ok := impl.FlatEval(decls, valuesOfRows(rows), c.Left)
				right, rightOk := impl.FlatEval(decls, valuesOfRows(rows), c.Right)
				if !ok || !rightOk || !sameBits(left, right) || rowOfBits(left) != rowOfWires(rows, wiresOfForm(c.Right)) {
					t.Fatalf("%v by %q: %v is not so", list, rows, c)
				}
				claimed++
			}
		}
		if len(proof) == 0 {
			return
		}
		less, ok := impl.Trim(decls, list, proof)
		again, code, _ := impl.Conclude(decls, list, less)
		if !ok || code != 0 || len(again) != len(less) || !sameClaim(lastOf(again), lastOf(claims)) {
			t.Fatalf("%s: trimmed %s, %v, with %d", stepsText(proof), stepsText(less), ok, code)
		}
		// each step is needed, so that nothing more can be left out
		if more, ok := impl.Trim(decls, list, less); !ok || !slices.EqualFunc(more, less, sameStep) {
			t.Fatalf("%s: trimmed again %s, %v", stepsText(less), stepsText(more), ok)
		}
		if len(less) < len(proof) {
			shorter++
		}
	})
	if claimed < 10000 || shorter < 100 {
		t.Errorf("too seldom: %d, %d", claimed, shorter)
	}
}

func TestTrimByHand(t *testing.T) {
	decls, list := fourAndOne(), proofLiterals(t)
	a, e := byTerm(term(variable(0))), byTerm(readTerm(t, decls, "(cat a #b01 a)"))
	for what, c := range map[string]struct{ proof, want []impl.PStep }{
		"one step":                    {steps(byGiven(3)), steps(byGiven(3))},
		"a term":                      {steps(a, e), steps(e)},
		"none ahead":                  {steps(a, byTurn(0), byChain(1, 1), byGiven(4)), steps(byGiven(4))},
		"all":                         {steps(byGiven(1), byTurn(0), byChain(0, 1)), steps(byGiven(1), byTurn(0), byChain(0, 1))},
		"one in between":              {steps(byGiven(1), a, byTurn(0)), steps(byGiven(1), byTurn(0))},
		"the first":                   {steps(a, byGiven(1), byTurn(1)), steps(byGiven(1), byTurn(0))},
		"by way of others":            {steps(a, byGiven(1), e, byTurn(1), a, byTurn(3), byGiven(3), byPart(5, 0, 0)), steps(byGiven(1), byTurn(0), byTurn(1), byPart(2, 0, 0))},
		"needed twice":                {steps(a, byGiven(1), byTurn(1), byGlue(1, 2), byGlue(3, 1), byGlue(0, 1)), steps(a, byGiven(1), byGlue(0, 1))},
		"needed twice by one":         {steps(e, a, byGlue(1, 1)), steps(a, byGlue(0, 0))},
		"needed by two":               {steps(e, byGiven(1), byTurn(1), byPart(1, 1, 1), byGlue(2, 3)), steps(byGiven(1), byTurn(0), byPart(0, 1, 1), byGlue(1, 2))},
		"alike, and one not needed":   {steps(a, a, byGiven(1), byChain(1, 2)), steps(a, byGiven(1), byChain(0, 1))},
		"alike, and both needed":      {steps(a, a, byGlue(0, 1)), steps(a, a, byGlue(0, 1))},
		"J ahead of I":                {steps(byGiven(3), e, byGiven(1), byGlue(2, 0)), steps(byGiven(3), byGiven(1), byGlue(1, 0))},
		"an Id that is a place, too":  {steps(a, a, a, a, byGiven(1), byGiven(3), byChain(4, 5)), steps(byGiven(1), byGiven(3), byChain(0, 1))},
		"a part whose bounds stay":    {steps(a, byGiven(4), byPart(1, 3, 2)), steps(byGiven(4), byPart(0, 3, 2))},
		"one that another one hides":  {steps(byGiven(4), byPart(0, 1, 0), byPart(0, 3, 2), byTurn(1)), steps(byGiven(4), byPart(0, 1, 0), byTurn(1))},
		"what a needless one needs":   {steps(byGiven(1), byTurn(0), byTurn(1), byGiven(3)), steps(byGiven(3))},
		"a needless one at the front": {steps(e, byGiven(1), byGiven(3), byChain(1, 2), byTurn(3)), steps(byGiven(1), byGiven(3), byChain(0, 1), byTurn(2))},
	} {
		checkConclude(t, decls, list, c.proof)
		less, ok := impl.Trim(decls, list, c.proof)
		if !ok || !slices.EqualFunc(less, c.want, sameStep) {
			t.Errorf("%s: %s, %v, want %s", what, stepsText(less), ok, stepsText(c.want))
		}
	}
	// a fault is told wherever it is, in a step that is not needed, too
	for _, wrong := range [][]impl.PStep{nil, steps(), steps(byTurn(0)), steps(impl.PStep{}, a), steps(a, byTurn(1), a), steps(byGiven(2), a), steps(byGiven(1), byChain(0, 0), a), steps(a, byPart(0, 2, 0), a), steps(byTerm(impl.Term{}), a), steps(a, a, impl.PStep{Rule: impl.PrTurn, J: 1})} {
		if less, ok := impl.Trim(decls, list, wrong); ok || len(less) != 0 {
			t.Errorf("%s: trimmed %s, %v", stepsText(wrong), stepsText(less), ok)
		}
	}
}

func TestProvesByHand(t *testing.T) {
	decls, list := fourAndOne(), proofLiterals(t)
	read := func(text string) impl.Term { return readTerm(t, decls, text) }
	for _, c := range []struct {
		proof []impl.PStep
		s, t  string
		want  bool
	}{
		{steps(byGiven(1)), "a", "b", true}, {steps(byGiven(1)), "b", "a", false}, {steps(byGiven(1)), "a", "a", false}, {steps(byGiven(1)), "b", "b", false}, {steps(byGiven(1), byTurn(0)), "b", "a", true}, {steps(byGiven(1), byTurn(0)), "a", "b", false},
		// the last one counts, and none but it
		{steps(byGiven(1), byGiven(3)), "a", "b", false}, {steps(byGiven(1), byGiven(3)), "b", "#b01", true}, {steps(byGiven(1), byGiven(3), byChain(0, 1)), "a", "#b01", true}, {steps(byGiven(1), byGiven(3), byChain(0, 1)), "#b01", "a", false}, {steps(byGiven(1), byGiven(3), byChain(0, 1)), "a", "#b10", false}, {steps(byGiven(1), byGiven(3), byChain(0, 1)), "a", "#b001", false},
		// the forms count, whatever the terms
		{steps(byGiven(1)), "(cat (part 1 1 a) (part 0 0 a))", "(left 2 b)", true}, {steps(byGiven(1)), "(left 1 a)", "(left 1 b)", false}, {steps(byGiven(3)), "(part 1 0 (zero 3 b))", "(cat #b0 #b1)", true}, {steps(byGiven(4)), "e", "(cat c b)", true}, {steps(byGiven(4)), "e", "(cat b c)", false}, {steps(byGiven(4), byPart(0, 3, 2)), "(part 3 2 e)", "c", true}, {steps(byGiven(4), byPart(0, 3, 2)), "(part 2 1 e)", "c", false}, {steps(byGiven(4), byPart(0, 3, 2)), "e", "c", false}, {steps(byTerm(read("(rep 2 a)"))), "(cat a a)", "(rep 2 a)", true}, {steps(byTerm(read("(rep 2 a)"))), "(cat a a)", "(cat a b)", false}, {steps(byTerm(read("(rep 2 a)"))), "a", "a", false},
		// what follows is not what is proved
		{steps(byGiven(1), byGiven(3)), "a", "#b01", false},
		// no step, and steps with a code
		{nil, "a", "a", false}, {steps(), "a", "b", false}, {steps(byTurn(0)), "a", "a", false}, {steps(byGiven(2)), "a", "c", false}, {steps(impl.PStep{}, byGiven(1)), "a", "b", false}, {steps(byGiven(1), byChain(0, 0)), "a", "b", false}, {steps(byPart(1, 0, 0), byGiven(1)), "a", "b", false}, {steps(byTerm(impl.Term{}), byGiven(1)), "a", "b", false},
	} {
		if got := impl.Proves(decls, list, c.proof, read(c.s), read(c.t)); got != c.want {
			t.Errorf("%s: %v that %s is %s", stepsText(c.proof), got, c.s, c.t)
		}
	}
	// terms that are not right, or have no form
	a, b := read("a"), read("b")
	for i, x := range append(wrongTerms(a), impl.Term{}, term(variable(0), part(0, 0, 0), one(impl.TmRep, 2001, 1)), term(variable(0), part(0, 0, 0), one(impl.TmRep, 2001, 1), part(1, 0, 2))) {
		if right := widthsByTable(decls, x) != nil && formByTable(decls, x) != nil; right {
			continue
		}
		if impl.Proves(decls, list, steps(byGiven(1)), x, b) || impl.Proves(decls, list, steps(byGiven(1)), a, x) || impl.Proves(decls, list, steps(byGiven(1)), x, x) || impl.Proves(decls, list, nil, x, x) {
			t.Errorf("the wrong term %d", i)
		}
	}
}

func TestProvesOfThrownSteps(t *testing.T) {
	d := dice{state: 163}
	decls := proofDecls()
	told := [2]int{}
	for range 1500 {
		list := thrownLiterals(&d, decls, 1+d.below(4), 3)
		proof := thrownSteps(&d, decls, list, 1+d.below(12))
		pairs, _, _ := pairsByPicture(decls, list, proof)
		if len(pairs) == 0 {
			continue
		}
		p, q := lastOf(pairs), pairs[d.below(len(pairs))]
		for _, c := range []pair{p, q, {p.right, p.left}, {p.left, q.right}, {q.left, p.right}, {p.left, p.left}} {
			s, u := termOfForm(decls, formOfWires(c.left)), termOfForm(decls, formOfWires(c.right))
			want := slices.Equal(c.left, p.left) && slices.Equal(c.right, p.right)
			if got := impl.Proves(decls, list, proof, s, u); got != want {
				t.Fatalf("%s: %v that %v is %v", stepsText(proof), got, s, u)
			}
			if want {
				told[1]++
			} else {
				told[0]++
			}
		}
	}
	if told[0] < 1000 || told[1] < 1000 {
		t.Errorf("too seldom: %v", told)
	}
}

func TestProofsKeep(t *testing.T) {
	d := dice{state: 164}
	decls := proofDecls()
	for range 150 {
		list := thrownLiterals(&d, decls, 1+d.below(4), 4)
		proof := thrownSteps(&d, decls, list, 1+d.below(20))
		if d.below(4) == 0 && len(proof) > 0 {
			at := d.below(len(proof))
			proof[at] = thrownChange(&d, proof[at], len(proof))
		}
		keeps(t, impl.Conclude, decls, list, proof)
		keeps(t, impl.Trim, decls, list, proof)
		keeps(t, impl.Proves, decls, list, proof, list[0].S, list[0].T)
	}
	// constants that stand as they are in an answer, more than once
	word := "#x0123456789abcdef"
	decls = manyDecls(2, 64)
	list := readLiterals(t, decls, "v0 = "+word, word+" = v1", "(cat v0 "+word+") = (cat "+word+" v1)")
	x := byTerm(readTerm(t, decls, "(cat v0 "+word+" v1)"))
	proof := steps(byGiven(1), byGiven(2), byChain(0, 1), byTurn(0), x, byTurn(4), byChain(4, 5), byGiven(3), byPart(7, 127, 64), byGlue(8, 8), byGlue(9, 6), byGiven(1), byGlue(10, 11))
	if _, code, place := checkConclude(t, decls, list, proof); code != 0 {
		t.Fatalf("%d at %d", code, place)
	}
	keeps(t, impl.Conclude, decls, list, proof)
	keeps(t, impl.Trim, decls, list, proof)
	keeps(t, impl.Trim, decls, list, steps(x, x, byGlue(0, 1)))
	keeps(t, impl.Proves, decls, list, proof, x.Term, x.Term)
}
