package tests

import (
	"fmt"
	"math"
	"slices"
	"strings"
	"testing"

	"loop.example/g00081/impl"
)

func codeByPicture(decls []impl.Decl, list []impl.Literal, most int64) int64 {
	r, _ := checkByPicture(decls, list, most)
	return r.Code
}

func idsOf(list []impl.Literal) []int64 {
	var ids []int64
	for _, l := range list {
		ids = append(ids, l.Id)
	}
	return ids
}

func leftOut(list []impl.Literal, i int) []impl.Literal {
	return slices.Delete(slices.Clone(list), i, i+1)
}

// coreByPicture is asked of right literals whose sides have forms. It tells at
// which Check it came to an end, too.
func coreByPicture(decls []impl.Decl, list []impl.Literal, most int64) ([]int64, int64, string) {
	if code := codeByPicture(decls, list, most); code != impl.CkUnsat {
		return nil, code, "first"
	}
	left := slices.Clone(list)
	for i := len(list) - 1; i >= 0; i-- {
		code := codeByPicture(decls, leftOut(left, i), most)
		if code == impl.CkMany || code == impl.CkLarge {
			return nil, code, "later"
		}
		if code == impl.CkUnsat {
			left = leftOut(left, i)
		}
	}
	return idsOf(left), impl.CkUnsat, "last"
}

// coreText writes an answer short: "unsat 1 3", "many".
func coreText(ids []int64, code int64) string {
	text := codeNames[code]
	for _, id := range ids {
		text += fmt.Sprint(" ", id)
	}
	return text
}

func checkCore(t *testing.T, decls []impl.Decl, list []impl.Literal, most int64) (string, string) {
	t.Helper()
	got := coreText(impl.CoreOf(decls, list, most))
	ids, code, end := coreByPicture(decls, list, most)
	if want := coreText(ids, code); got != want {
		t.Fatalf("%v with %d: %s, want %s", list, most, got, want)
	}
	return got, end
}

type coreCase struct {
	most  int64
	want  string
	texts []string
}

func coreOf(most int64, want string, texts ...string) coreCase { return coreCase{most, want, texts} }

func checkCores(t *testing.T, decls []impl.Decl, list []coreCase) {
	t.Helper()
	for _, c := range list {
		if got, _ := checkCore(t, decls, readLiterals(t, decls, c.texts...), c.most); got != c.want {
			t.Errorf("%q with %d: %s, want %s", c.texts, c.most, got, c.want)
		}
	}
}

func TestCoreOfByHand(t *testing.T) {
	checkCores(t, nil, []coreCase{coreOf(0, "sat"), coreOf(0, "sat", "#b1 = #b1"), coreOf(0, "unsat 1", "#b1 = #b0"), coreOf(0, "unsat 2", "#b1 ! #b0", "#b1 ! #b1", "#b0 = #b0")})
	checkCores(t, fourAndOne(), []coreCase{
		coreOf(manyVisits, "sat"), coreOf(manyVisits, "sat", "a = b", "b ! c"), coreOf(manyVisits, "unsat 1", "a ! a"),
		// the whole list
		coreOf(9, "unsat 1 2", "a = b", "a ! b"), coreOf(9, "unsat 1 2", "a = #b10", "a = #b11"), coreOf(9, "unsat 1 2 3 4", "a = b", "b = c", "c = d", "a ! d"), coreOf(9, "unsat 1 2 3", "e = (cat a b)", "a ! #b10", "(part 3 2 e) = #b10"), coreOf(9, "unsat 1 2", "(part 0 0 e) ! #b0", "(part 0 0 e) ! #b1"),
		// two cores: what can be left out later is told
		coreOf(9, "unsat 1", "a ! a", "b ! b"), coreOf(9, "unsat 1 2", "a = #b00", "a = #b01", "a = #b10"), coreOf(9, "unsat 1 3", "a = b", "a = #b01", "a ! b", "b = #b10"), coreOf(9, "unsat 1", "a ! a", "b = c", "c ! b"), coreOf(9, "unsat 1 2", "b = c", "c ! b", "a ! a"), coreOf(9, "unsat 1 3", "a = b", "c = d", "b ! a", "d ! c"), coreOf(9, "unsat 1 2", "a = b", "b ! a", "c = d", "d ! c"),
		// one can be left out because another one of its kind is kept
		coreOf(9, "unsat 1 3", "a = #b00", "a = #b00", "a = #b01"), coreOf(9, "unsat 1 2", "a = #b00", "a = #b01", "a = #b01"), coreOf(9, "unsat 1 2 4", "a = b", "b = c", "a = c", "c ! a", "b = d"), coreOf(9, "unsat 1 4", "a = c", "b = c", "a = b", "c ! a", "b = d"),
		// what has no part in it is left out wherever it stands
		coreOf(9, "unsat 2 4", "c ! d", "a = b", "e ! #x0", "a ! b", "c = #b01"), coreOf(30, "unsat 2 3", "a ! c", "(part 0 0 e) ! #b0", "(part 0 0 e) ! #b1", "a ! b", "b ! c"),
	})
}

// Five words of two bits that are all unlike are one too many; without any one Bar there is room.
func TestCoreOfColours(t *testing.T) {
	decls := fourAndOne()
	words := texts("a", "b", "c", "d", "(part 1 0 e)")
	list := texts("(part 3 2 e) ! #b00")
	want := "unsat"
	for i := range words {
		for j := range i {
			list = append(list, words[i]+" ! "+words[j])
			want += fmt.Sprint(" ", len(list))
		}
	}
	checkCores(t, decls, []coreCase{coreOf(manyVisits, want, append(list, "a ! d", "b = b", "a ! #b10")...), coreOf(manyVisits, "sat", list[:10]...), coreOf(10, "many", list...)})
}

func TestCoreOfTellsTheFirstCode(t *testing.T) {
	checkCores(t, oneAndTwo(), []coreCase{
		coreOf(0, "sat"), coreOf(0, "sat", "x = y"), coreOf(0, "many", "x ! y"), coreOf(1, "sat", "x ! y"), coreOf(2, "many", "c ! #b0", "c ! #b1"), coreOf(3, "unsat 1 2", "c ! #b0", "c ! #b1"),
		// many, where all together have no values without a visit
		coreOf(0, "many", "c ! #b0", "c ! #b1", "x ! x"), coreOf(2, "many", "c ! #b0", "c ! #b1", "x ! x"), coreOf(3, "unsat 1 2", "c ! #b0", "c ! #b1", "x ! x"), coreOf(0, "unsat 1", "x ! x", "c ! #b0", "c ! #b1"), coreOf(0, "many", "c ! #b0", "x ! x", "c ! #b1"), coreOf(1, "unsat 2", "c ! #b0", "x ! x", "c ! #b1"),
		// many, behind one that was kept
		coreOf(0, "many", "x = y", "c ! z", "x ! y"), coreOf(1, "unsat 1 3", "x = y", "c ! z", "x ! y"), coreOf(1, "many", "c ! z", "x = y", "x ! y"), coreOf(2, "unsat 2 3", "c ! z", "x = y", "x ! y"),
		// many, at the first one, which is asked last
		coreOf(0, "many", "x = y", "x ! y"), coreOf(1, "unsat 1 2", "x = y", "x ! y"), coreOf(0, "unsat 1 2", "x = #b01", "x = #b10"),
	})
	checkCores(t, manyDecls(1, 200), []coreCase{coreOf(1, "sat", "v0 ! (left 1 v0)"), coreOf(1, "unsat 2", "v0 ! (left 1 v0)", "v0 ! v0"), coreOf(0, "many", "v0 ! (left 1 v0)", "v0 ! v0")})
	checkCores(t, manyDecls(1, 201), []coreCase{
		coreOf(1, "large", "v0 ! (left 1 v0)"), coreOf(1, "large", "v0 ! (left 1 v0)", "v0 ! v0"), coreOf(0, "large", "v0 ! (left 1 v0)", "v0 ! v0"), coreOf(1, "unsat 1", "v0 ! v0", "v0 ! (left 1 v0)"),
		// an equality makes one class of two; without it there are too many
		coreOf(1, "unsat 1 3", "(part 0 0 v0) = (part 1 1 v0)", "v0 ! (left 1 v0)", "(part 0 0 v0) ! (part 1 1 v0)"), coreOf(1, "large", "v0 ! (left 1 v0)", "(part 0 0 v0) = (part 1 1 v0)", "(part 0 0 v0) ! (part 1 1 v0)"), coreOf(0, "many", "v0 ! (left 1 v0)", "(part 0 0 v0) = (part 1 1 v0)", "(part 0 0 v0) ! (part 1 1 v0)"),
	})
	decls := oneAndTwo()
	for _, list := range [][]impl.Literal{nil, readLiterals(t, decls, "x ! x"), readLiterals(t, decls, "c ! #b0", "c ! #b1"), readLiterals(t, decls, "x ! y")} {
		for _, most := range []int64{-1, 20001, math.MinInt64, math.MaxInt64} {
			if got := coreText(impl.CoreOf(decls, list, most)); got != "bad" {
				t.Errorf("%v with %d: %s", list, most, got)
			}
		}
		for _, most := range []int64{0, 19999, manyVisits} {
			checkCore(t, decls, list, most)
		}
	}
}

// coreLists are thrown literals, and a most that is often too little.
func coreLists(d *dice, count int, call func(decls []impl.Decl, list []impl.Literal, most int64)) {
	wide := []impl.Decl{{Name: "a", Width: 7}, {Name: "b", Width: 5}, {Name: "c", Width: 4}, {Name: "d", Width: 1}, {Name: "e", Width: 66}}
	for range count {
		decls, list := wide, thrownLiterals(d, wide, 1+d.below(5), 3)
		if d.below(3) > 0 {
			decls = manyDecls(2+d.below(4), int64(1+d.below(2)))
			list = thrownRowsOfParts(d, decls, 3+d.below(9), 2)
		}
		call(decls, list, int64(d.below(2)*d.below(90)+d.below(9)))
	}
}

func TestCoreOfThrownLiterals(t *testing.T) {
	d := dice{state: 151}
	told := make(map[string]int)
	coreLists(&d, 1500, func(decls []impl.Decl, list []impl.Literal, most int64) {
		got, end := checkCore(t, decls, list, most)
		code, _, _ := strings.Cut(got, " ")
		told[code+end]++
		if strings.Count(got, " ") > 2 {
			told["more than two"]++
		}
	})
	for _, key := range []string{"satfirst", "manyfirst", "manylater", "unsatlast", "more than two"} {
		if told[key] < 50 {
			t.Errorf("%s is too seldom: %v", key, told)
		}
	}
}

func isCoreByPicture(decls []impl.Decl, list []impl.Literal, ids []int64, most int64) (bool, int64) {
	var some []impl.Literal
	for _, id := range ids {
		some = append(some, list[slices.IndexFunc(list, func(l impl.Literal) bool { return l.Id == id })])
	}
	codes := []int64{codeByPicture(decls, some, most)}
	for i := range some {
		codes = append(codes, codeByPicture(decls, leftOut(some, i), most))
	}
	for _, code := range codes {
		if code != impl.CkUnsat && code != impl.CkSat {
			return false, code
		}
	}
	return codes[0] == impl.CkUnsat && !slices.Contains(codes[1:], impl.CkUnsat), impl.CkUnsat
}

func checkIsCore(t *testing.T, decls []impl.Decl, list []impl.Literal, ids []int64, most int64) string {
	t.Helper()
	is, code := impl.IsCore(decls, list, ids, most)
	wantIs, wantCode := isCoreByPicture(decls, list, ids, most)
	if is != wantIs || code != wantCode {
		t.Fatalf("%v of %v with %d: %v, %s, want %v, %s", ids, list, most, is, codeNames[code], wantIs, codeNames[wantCode])
	}
	return fmt.Sprint(is, " ", codeNames[code])
}

func TestIsCoreByHand(t *testing.T) {
	two, wide := oneAndTwo(), []impl.Decl{{Name: "v", Width: 200}, {Name: "x", Width: 1}}
	pairs := texts("x = y", "x = #b01", "x ! y", "y = #b10", "c ! #b0", "c ! #b1", "z = z")
	first := texts("x = #b0", "(cat (part 0 0 v) x) = (cat (part 1 1 v) #b1)", "v ! (left 1 v)")
	second := texts(first[1], first[0], first[2])
	for _, c := range []struct {
		decls []impl.Decl
		texts []string
		ids   []int64
		most  int64
		want  string
	}{
		{nil, nil, nil, 0, "false unsat"}, {two, pairs, nil, 0, "false unsat"}, {two, pairs, at(), 9, "false unsat"}, {nil, texts("#b1 = #b0"), at(1), 0, "true unsat"}, {nil, texts("#b1 = #b0"), nil, 0, "false unsat"}, {two, texts("x ! x"), at(1), 0, "true unsat"}, {two, texts("x ! x", "y ! y"), at(1), 0, "true unsat"}, {two, texts("x ! x", "y ! y"), at(2), 0, "true unsat"}, {two, texts("x ! x", "y ! y"), at(1, 2), 0, "false unsat"},
		// some of them, of which none can be left out
		{two, pairs, at(1, 3), 9, "true unsat"}, {two, pairs, at(1, 2, 4), 9, "true unsat"}, {two, pairs, at(5, 6), 9, "true unsat"},
		// and such of which one can be
		{two, pairs, at(1, 2, 3), 9, "false unsat"}, {two, pairs, at(1, 3, 4), 9, "false unsat"}, {two, pairs, at(1, 3, 7), 9, "false unsat"}, {two, pairs, at(1, 3, 5, 6), 9, "false unsat"}, {two, pairs, at(1, 2, 3, 4, 5, 6, 7), 9, "false unsat"}, {two, pairs, at(4, 5, 6), 9, "false unsat"},
		// and such that have values
		{two, pairs, at(1), 9, "false unsat"}, {two, pairs, at(1, 2), 9, "false unsat"}, {two, pairs, at(2, 3, 4), 9, "false unsat"}, {two, pairs, at(3, 5), 9, "false unsat"}, {two, pairs, at(7), 9, "false unsat"},
		// all of them are asked first
		{two, pairs, at(5, 6), 3, "true unsat"}, {two, pairs, at(5, 6), 2, "false many"}, {two, pairs, at(5), 0, "false many"}, {two, pairs, at(5), 1, "false unsat"},
		// then those without one, whether there can be a core or not
		{two, pairs, at(1, 3), 0, "false many"}, {two, pairs, at(1, 3), 1, "true unsat"}, {two, pairs, at(1, 3, 5), 0, "false many"}, {two, pairs, at(1, 3, 5), 1, "false many"}, {two, pairs, at(1, 3, 5), 2, "false unsat"}, {two, texts("c = #b1", "c ! #b0"), at(1, 2), 0, "false many"}, {two, texts("c = #b1", "c ! #b0"), at(1, 2), 1, "false unsat"}, {two, texts("c ! #b0", "c = #b1"), at(1, 2), 0, "false many"}, {two, texts("x ! x", "x ! y"), at(1, 2), 0, "false many"}, {two, texts("x ! y", "x ! x"), at(1, 2), 0, "false many"}, {two, texts("x ! x", "y ! y", "x ! y"), at(1, 2, 3), 0, "false unsat"},
		// of two codes the first: 200 classes that need a visit, or one more
		{wide, first, at(1, 2), 0, "true unsat"}, {wide, first, at(1, 2, 3), 1, "false large"}, {wide, first, at(1, 2, 3), 0, "false many"}, {wide, second, at(1, 2, 3), 0, "false large"}, {wide, second, at(1, 2, 3), 1, "false large"}, {wide, first, at(1, 3), 0, "false large"}, {wide, first, at(2, 3), 0, "false many"}, {wide, first, at(2, 3), 1, "false large"}, {wide, first, at(3), 1, "false large"},
	} {
		if got := checkIsCore(t, c.decls, readLiterals(t, c.decls, c.texts...), c.ids, c.most); got != c.want {
			t.Errorf("%v of %q with %d: %s, want %s", c.ids, c.texts, c.most, got, c.want)
		}
	}
}

func TestIsCoreOfThrownLiterals(t *testing.T) {
	d := dice{state: 152}
	told := make(map[string]int)
	coreLists(&d, 1000, func(decls []impl.Decl, list []impl.Literal, most int64) {
		var ids []int64
		for _, l := range list {
			if d.below(3) > 0 {
				ids = append(ids, l.Id)
			}
		}
		told[checkIsCore(t, decls, list, ids, most)]++
		told[checkIsCore(t, decls, list, idsOf(list), most)]++
		core, code := impl.CoreOf(decls, list, manyVisits)
		if code != impl.CkUnsat {
			return
		}
		if got := checkIsCore(t, decls, list, core, manyVisits); got != "true unsat" {
			t.Fatalf("%v of %v: %s", core, list, got)
		}
		told[checkIsCore(t, decls, list, core, most)]++
		if len(core) < len(list) {
			i := slices.IndexFunc(list, func(l impl.Literal) bool { return !slices.Contains(core, l.Id) })
			more := append(slices.Clone(core), list[i].Id)
			slices.Sort(more)
			told[checkIsCore(t, decls, list, more, manyVisits)]++
		}
	})
	for _, key := range []string{"true unsat", "false unsat", "false many"} {
		if told[key] < 100 {
			t.Errorf("%s is too seldom: %v", key, told)
		}
	}
}

// The promise: a core has no values, and has some without any one of its literals.
func TestCoresByAllValues(t *testing.T) {
	d := dice{state: 153}
	told := make(map[string]int)
	some := func(list []impl.Literal, ids []int64) []impl.Literal {
		return slices.DeleteFunc(slices.Clone(list), func(l impl.Literal) bool { return !slices.Contains(ids, l.Id) })
	}
	isCore := func(decls []impl.Decl, list []impl.Literal) bool {
		is := len(valuesOfAll(decls, list)) == 0
		for i := range list {
			is = is && len(valuesOfAll(decls, leftOut(list, i))) > 0
		}
		return is
	}
	narrowLists(&d, 120, func(decls []impl.Decl, list []impl.Literal) {
		ids, code := impl.CoreOf(decls, list, manyVisits)
		told[codeNames[code]]++
		if (code == impl.CkUnsat) != (len(valuesOfAll(decls, list)) == 0) || code != impl.CkUnsat && (code != impl.CkSat || len(ids) != 0) {
			t.Fatalf("%v: %s", list, coreText(ids, code))
		}
		if code == impl.CkUnsat && (!slices.IsSorted(ids) || len(some(list, ids)) != len(ids) || !isCore(decls, some(list, ids))) {
			t.Fatalf("%v: %v is no core", list, ids)
		}
		for turn := range 4 {
			ids := ids
			if turn > 0 {
				ids = idsOf(slices.DeleteFunc(slices.Clone(list), func(impl.Literal) bool { return d.below(2) == 0 }))
			}
			is, code := impl.IsCore(decls, list, ids, manyVisits)
			told[fmt.Sprint(is)]++
			if code != impl.CkUnsat || is != isCore(decls, some(list, ids)) {
				t.Fatalf("%v of %v: %v, %s", ids, list, is, codeNames[code])
			}
		}
	})
	for _, key := range []string{"unsat", "sat", "true", "false"} {
		if told[key] < 40 {
			t.Errorf("%s is too seldom: %v", key, told)
		}
	}
}

func TestCoresRefuse(t *testing.T) {
	decls := someDecls()
	refused := func(what string, decls []impl.Decl, list []impl.Literal, ids []int64, most int64) {
		t.Helper()
		if is, code := impl.IsCore(decls, list, ids, most); is || code != impl.CkBad {
			t.Errorf("%s: %v, %s", what, is, codeNames[code])
		}
	}
	a := term(variable(0))
	for what, list := range wrongLists() {
		if got := coreText(impl.CoreOf(decls, list, 10)); got != "bad" {
			t.Errorf("%s: %s", what, got)
		}
		refused(what, decls, list, nil, 10)
		refused(what, decls, list, idsOf(list), 10)
		// it is wrong, too, where it is not asked about
		if len(list) == 1 && list[0].Id == 1 {
			list = []impl.Literal{literal(1, false, a, a), literal(2, list[0].Equal, list[0].S, list[0].T)}
			refused(what, decls, list, at(1), 10)
		}
	}
	for _, wrong := range wrongDecls() {
		list := []impl.Literal{literal(1, true, term(constant("1")), term(constant("0")))}
		if got := coreText(impl.CoreOf(wrong, list, 10)); got != "bad" {
			t.Errorf("wrong decls: %s", got)
		}
		refused("wrong decls", wrong, list, at(1), 10)
		refused("wrong decls", wrong, nil, nil, 10)
	}
	list := []impl.Literal{literal(1, false, a, a), literal(3, true, a, a), literal(7, false, a, a), literal(1000000, true, a, a)}
	for _, ids := range [][]int64{at(0), at(2), at(-1), at(4), at(8), at(1000001), at(math.MinInt64), at(math.MaxInt64), at(1, 2), at(1, 3, 8), at(0, 1), at(1, 3, 7, 1000000, 1000001), at(math.MinInt64, 1), at(1, math.MaxInt64), at(1, 1), at(3, 1), at(1, 7, 3), at(1, 3, 3), at(1, 1, 3), at(7, 3, 1), at(3, 3), at(1, 3, 7, 1000000, 1)} {
		refused(fmt.Sprint(ids), decls, list, ids, 10)
	}
	for _, ids := range [][]int64{nil, at(1), at(1, 3), at(3), at(1, 7), at(1, 3, 7, 1000000)} {
		for _, most := range []int64{-1, 20001, math.MinInt64, math.MaxInt64} {
			refused(fmt.Sprint(ids, " with ", most), decls, list, ids, most)
		}
		for _, most := range []int64{0, 1, 19999, manyVisits} {
			checkIsCore(t, decls, list, ids, most)
		}
	}
	full := wrongLists()["61 literals, unlike"]
	refused("61 literals", decls, full, at(1), 10)
	if is, code := impl.IsCore(decls, full[:60], at(60), 10); !is || code != impl.CkUnsat {
		t.Errorf("60 literals: %v, %s", is, codeNames[code])
	}
	if got := coreText(impl.CoreOf(decls, full[:60], 0)); got != "unsat 1" {
		t.Errorf("60 literals: %s", got)
	}
}

func weakenedByRows(list []impl.Literal, rows []string) []int64 {
	var ids []int64
	for i, l := range list {
		if !holdByRows(list[i:i+1], rows) {
			ids = append(ids, l.Id)
		}
	}
	return ids
}

func TestWeakenByHand(t *testing.T) {
	decls := oneAndTwo()
	list := readLiterals(t, decls, "x = y", "x ! y", "c = #b1", "z ! c", "(cat z c) = x", "x ! #b11")
	for _, c := range []struct {
		rows []string
		want []int64
	}{
		{texts("0", "00", "00", "0"), at(2, 3, 4)}, {texts("1", "00", "01", "1"), at(1, 4, 5)}, {texts("1", "11", "11", "1"), at(2, 4, 6)}, {texts("1", "01", "01", "0"), at(2)}, {texts("1", "01", "10", "0"), at(1)},
	} {
		got, ok := impl.Weaken(decls, list, valuesOfRows(c.rows))
		if !ok || !slices.Equal(got, c.want) {
			t.Errorf("%q: %v, %v, want %v", c.rows, got, ok, c.want)
		}
		// by these values all hold, then none
		var holds, fails []impl.Literal
		for _, l := range list {
			if slices.Contains(c.want, l.Id) {
				fails = append(fails, l)
			} else {
				holds = append(holds, l)
			}
		}
		if got, ok := impl.Weaken(decls, holds, valuesOfRows(c.rows)); !ok || len(got) != 0 {
			t.Errorf("%q: %v, %v", c.rows, got, ok)
		}
		if got, ok := impl.Weaken(decls, fails, valuesOfRows(c.rows)); !ok || !slices.Equal(got, idsOf(fails)) {
			t.Errorf("%q: %v, %v", c.rows, got, ok)
		}
	}
	for _, decls := range [][]impl.Decl{nil, decls} {
		if got, ok := impl.Weaken(decls, nil, valuesOfRows(zeroRows(decls))); !ok || len(got) != 0 {
			t.Errorf("no literals: %v, %v", got, ok)
		}
	}
	// a side needs no flat form here
	long, zero := term(variable(0), one(impl.TmRep, 2001, 0)), term(constant(strings.Repeat("0", 2001)))
	list = []impl.Literal{literal(5, true, long, zero), literal(1000000, false, long, zero)}
	for row, want := range map[string]int64{"0": 1000000, "1": 5} {
		if got, ok := impl.Weaken(decls, list, valuesOfRows(texts(row, "00", "00", "0"))); !ok || !slices.Equal(got, at(want)) {
			t.Errorf("%s: %v, %v", row, got, ok)
		}
	}
}

func TestWeakenByThrownValues(t *testing.T) {
	d := dice{state: 154}
	told := [3]int{}
	coreLists(&d, 2000, func(decls []impl.Decl, list []impl.Literal, most int64) {
		rows := thrownRows(&d, decls)
		got, ok := impl.Weaken(decls, list, valuesOfRows(rows))
		want := weakenedByRows(list, rows)
		if !ok || !slices.Equal(got, want) {
			t.Fatalf("%v by %q: %v, %v, want %v", list, rows, got, ok, want)
		}
		switch len(got) {
		case 0:
			told[0]++
		case len(list):
			told[2]++
		default:
			told[1]++
		}
	})
	if min(told[0], told[1], told[2]) < 50 {
		t.Errorf("too seldom: %v", told)
	}
}

func TestWeakenRefuses(t *testing.T) {
	decls := someDecls()
	a := term(variable(0))
	rows := thrownRows(&dice{state: 155}, decls)
	list := []impl.Literal{literal(1, false, a, a), literal(2, true, a, a)}
	refused := func(what string, decls []impl.Decl, list []impl.Literal, values []impl.Bits) {
		t.Helper()
		if ids, ok := impl.Weaken(decls, list, values); ok || len(ids) != 0 {
			t.Errorf("%s: %v, %v", what, ids, ok)
		}
	}
	refused("too few", decls, list, valuesOfRows(rows[:5]))
	refused("none", decls, list, nil)
	refused("none for no literals", decls, nil, nil)
	refused("too many", decls, list, valuesOfRows(append(slices.Clone(rows), "0")))
	refused("some for no variables", nil, nil, valuesOfRows(rows))
	for place := range decls {
		for _, b := range append(wrongBits(), impl.Bits{Width: math.MinInt64}, impl.Bits{Width: math.MaxInt64}, bitsOfRow(rows[place]+"0")) {
			values := valuesOfRows(rows)
			values[place] = b
			refused(fmt.Sprint(place, b), decls, list, values)
			refused(fmt.Sprint(place, b), decls, nil, values)
		}
	}
	for what, list := range wrongLists() {
		if !strings.Contains(what, "long") {
			refused(what, decls, list, valuesOfRows(rows))
		} else if _, ok := impl.Weaken(decls, list, valuesOfRows(rows)); !ok {
			t.Errorf("%s: refused", what)
		}
	}
	for _, wrong := range wrongDecls() {
		var values []impl.Bits
		for _, decl := range wrong {
			values = append(values, bitsOfRow(strings.Repeat("0", int(max(0, min(decl.Width, 5000))))))
		}
		refused("wrong decls", wrong, nil, values)
	}
}

func TestCoresKeep(t *testing.T) {
	d := dice{state: 156}
	coreLists(&d, 150, func(decls []impl.Decl, list []impl.Literal, most int64) {
		keeps(t, impl.CoreOf, decls, list, most)
		keeps(t, impl.IsCore, decls, list, idsOf(list)[:len(list)/2], most)
		keeps(t, impl.IsCore, decls, list, idsOf(list), most)
		keeps(t, impl.Weaken, decls, list, valuesOfRows(thrownRows(&d, decls)))
	})
}
