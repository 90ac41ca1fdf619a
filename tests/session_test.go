package tests

import (
	"fmt"
	"math"
	"slices"
	"strings"
	"testing"

	"loop.example/g00081/impl"
)

// checkMove holds one move in a right session against the picture of it.
func checkMove(t *testing.T, s impl.Session, m move) (impl.Session, int64) {
	t.Helper()
	before := sessionCopy(s)
	got, id, code := m.told(s)
	want, wantId, wantCode := m.on(deskOf(s))
	if code != wantCode || id != wantId || !sameSession(got, want.session()) {
		t.Fatalf("%s: %v: %s, %d, %d, want %s, %d, %d", sessionText(s), m, sessionText(got), id, code, sessionText(want.session()), wantId, wantCode)
	}
	if !impl.SessionOk(got) || !rightSession(got) {
		t.Fatalf("%s: %v: %s is not right", sessionText(s), m, sessionText(got))
	}
	if !sameSession(s, before) {
		t.Fatalf("%v was written into: %v", before, s)
	}
	return got, code
}

// checkRight holds what is told of any session against the picture; a wrong one is refused by all.
func checkRight(t *testing.T, what string, s impl.Session) bool {
	t.Helper()
	want := rightSession(s)
	if got := impl.SessionOk(s); got != want {
		t.Fatalf("%s: %v, want %v", what, got, want)
	}
	if want {
		var all []impl.Literal
		for _, scope := range s.Scopes {
			all = append(all, scope.Literals...)
		}
		if got := impl.AllOf(s); !slices.EqualFunc(got, all, sameLiteral) {
			t.Fatalf("%s: %v, want %v", what, got, all)
		}
		return true
	}
	for _, text := range []string{"declare zz 1", "declare A 0", "declare v0 5000", "equal #b1 = #b1", "unlike #b1 ! #b0", "equal ( = )", "equal #b1 = #b11", "push", "pop"} {
		if got, id, code := moveOf(text).told(s); !isZero(got) || id != 0 || code != impl.SsBad {
			t.Fatalf("%s: %s: %v, %d, %d", what, text, got, id, code)
		}
	}
	if got := impl.AllOf(s); len(got) != 0 {
		t.Fatalf("%s: %v", what, got)
	}
	if got := impl.SaveSession(s); len(got) != 0 {
		t.Fatalf("%s: %v", what, got)
	}
	return false
}

func TestSessionBegins(t *testing.T) {
	s := impl.Begin()
	if len(s.Decls) != 0 || len(s.Scopes) != 1 || s.Scopes[0].Decls != 0 || len(s.Scopes[0].Literals) != 0 || s.Next != 1 || !impl.SessionOk(s) || len(impl.AllOf(s)) != 0 {
		t.Errorf("%v", s)
	}
	s.Next, s.Scopes[0].Decls = 9, 9
	if s = impl.Begin(); s.Next != 1 || s.Scopes[0].Decls != 0 {
		t.Errorf("%v: what was written into an earlier one", s)
	}
}

func TestSessionConstants(t *testing.T) {
	got := []int64{impl.SsOk, impl.SsBad, impl.SsName, impl.SsTwice, impl.SsWidth, impl.SsMany, impl.SsTerm, impl.SsWidths, impl.SsBottom, impl.MaxScopes}
	if !slices.Equal(got, []int64{0, 1, 2, 3, 4, 5, 6, 7, 8, 20}) {
		t.Error(got)
	}
}

func TestSessionByHand(t *testing.T) {
	s := impl.Begin()
	for _, c := range []struct {
		move     string
		id, code int64
		want     string
	}{
		{"pop", 0, impl.SsBottom, "[0:] 1"},
		{"declare a 4", 0, impl.SsOk, "a:4 [0:] 1"},
		{"declare a 4", 0, impl.SsTwice, "a:4 [0:] 1"},
		{"equal a = #x3", 1, impl.SsOk, "a:4 [0: 1 a = #x3] 2"},
		{"equal a = b", 0, impl.SsTerm, "a:4 [0: 1 a = #x3] 2"},
		{"declare b 1", 0, impl.SsOk, "a:4 b:1 [0: 1 a = #x3] 2"},
		{"equal a = b", 0, impl.SsWidths, "a:4 b:1 [0: 1 a = #x3] 2"},
		{"push", 0, impl.SsOk, "a:4 b:1 [0: 1 a = #x3] [2:] 2"},
		{"unlike b ! (part 0 0 a)", 2, impl.SsOk, "a:4 b:1 [0: 1 a = #x3] [2: 2 b ! (part 0 0 a)] 3"},
		{"declare c 2", 0, impl.SsOk, "a:4 b:1 c:2 [0: 1 a = #x3] [2: 2 b ! (part 0 0 a)] 3"},
		{"push", 0, impl.SsOk, "a:4 b:1 c:2 [0: 1 a = #x3] [2: 2 b ! (part 0 0 a)] [3:] 3"},
		{"push", 0, impl.SsOk, "a:4 b:1 c:2 [0: 1 a = #x3] [2: 2 b ! (part 0 0 a)] [3:] [3:] 3"},
		{"declare d 1", 0, impl.SsOk, "a:4 b:1 c:2 d:1 [0: 1 a = #x3] [2: 2 b ! (part 0 0 a)] [3:] [3:] 3"},
		{"equal (cat c c) = (cat d d d b)", 3, impl.SsOk, "a:4 b:1 c:2 d:1 [0: 1 a = #x3] [2: 2 b ! (part 0 0 a)] [3:] [3: 3 (cat c c) = (cat d d d b)] 4"},
		{"pop", 0, impl.SsOk, "a:4 b:1 c:2 [0: 1 a = #x3] [2: 2 b ! (part 0 0 a)] [3:] 4"},
		{"equal d = b", 0, impl.SsTerm, "a:4 b:1 c:2 [0: 1 a = #x3] [2: 2 b ! (part 0 0 a)] [3:] 4"},
		{"equal c = #b01", 4, impl.SsOk, "a:4 b:1 c:2 [0: 1 a = #x3] [2: 2 b ! (part 0 0 a)] [3: 4 c = #b01] 5"},
		{"pop", 0, impl.SsOk, "a:4 b:1 c:2 [0: 1 a = #x3] [2: 2 b ! (part 0 0 a)] 5"},
		{"pop", 0, impl.SsOk, "a:4 b:1 [0: 1 a = #x3] 5"},
		{"declare c 7", 0, impl.SsOk, "a:4 b:1 c:7 [0: 1 a = #x3] 5"},
		{"unlike a ! #x3", 5, impl.SsOk, "a:4 b:1 c:7 [0: 1 a = #x3 5 a ! #x3] 6"},
		{"pop", 0, impl.SsBottom, "a:4 b:1 c:7 [0: 1 a = #x3 5 a ! #x3] 6"},
	} {
		got, id, code := moveOf(c.move).told(s)
		if sessionText(got) != c.want || id != c.id || code != c.code {
			t.Fatalf("%s: %s, %d, %d, want %s, %d, %d", c.move, sessionText(got), id, code, c.want, c.id, c.code)
		}
		checkMove(t, s, moveOf(c.move))
		s = got
	}
}

func TestAssertReadsTerms(t *testing.T) {
	s := sessionBy(t, "declare a 4")
	s, _, code := impl.Assert(s, true, "(cat (part 1 0 a)\n (part 1 0 a)) ; twice", " a")
	want := literal(1, true, term(variable(0), part(1, 0, 0), variable(0), part(1, 0, 2), cat(1, 3)), term(variable(0)))
	if all := impl.AllOf(s); code != impl.SsOk || len(all) != 1 || !sameLiteral(all[0], want) {
		t.Errorf("%v, %d, want %v", all, code, want)
	}
}

func TestDeclareCodes(t *testing.T) {
	few, full, wide := sessionBy(t, "declare a 4", "push", "declare b 1"), impl.Begin(), impl.Begin()
	full.Decls = manyDecls(60, 1)
	wide.Decls = append(manyDecls(4, 4096), impl.Decl{Name: "w", Width: 3615})
	for _, c := range []struct {
		s     impl.Session
		name  string
		width int64
		want  int64
	}{
		{few, "c", 1, impl.SsOk}, {few, "c", 4096, impl.SsOk}, {few, "c", 0, impl.SsWidth}, {few, "c", 4097, impl.SsWidth}, {few, "c", -1, impl.SsWidth}, {few, "c", math.MaxInt64, impl.SsWidth}, {few, "c", math.MinInt64, impl.SsWidth},
		{few, "", 1, impl.SsName}, {few, "abcdefghijkl", 1, impl.SsOk}, {few, "abcdefghijk9", 1, impl.SsOk}, {few, "abcdefghijklm", 1, impl.SsName}, {few, "c9", 1, impl.SsOk}, {few, "9c", 1, impl.SsName}, {few, "9", 1, impl.SsName}, {few, "C", 1, impl.SsName}, {few, "c c", 1, impl.SsName}, {few, "c\n", 1, impl.SsName}, {few, "c_c", 1, impl.SsName}, {few, "\u00e9", 1, impl.SsName}, {few, "c\x00", 1, impl.SsName}, {few, strings.Repeat("c", 30000), 1, impl.SsName}, {few, "cat", 1, impl.SsOk},
		{few, "a", 1, impl.SsTwice}, {few, "b", 1, impl.SsTwice}, {few, "a", 4, impl.SsTwice},
		// of two faults the first one
		{few, "A", 0, impl.SsName}, {few, "", 4097, impl.SsName}, {few, "a", 0, impl.SsTwice}, {few, "b", 4097, impl.SsTwice},
		{full, "c", 1, impl.SsMany}, {full, "v0", 1, impl.SsTwice}, {full, "v59", 0, impl.SsTwice}, {full, "c", 0, impl.SsWidth}, {full, "c", 4097, impl.SsWidth}, {full, "", 1, impl.SsName},
		// together
		{wide, "c", 1, impl.SsOk}, {wide, "c", 2, impl.SsMany}, {wide, "c", 4096, impl.SsMany}, {wide, "c", 4097, impl.SsWidth}, {wide, "w", 2, impl.SsTwice}, {wide, "W", 2, impl.SsName},
	} {
		m := move{kind: "declare", name: c.name, width: c.width}
		if _, code := checkMove(t, c.s, m); code != c.want {
			t.Errorf("%s: %d, want %d", short(fmt.Sprint(m)), code, c.want)
		}
	}
	s := impl.Begin()
	for i := range 60 {
		var code int64
		if s, code = impl.Declare(s, fmt.Sprint("v", i), int64(333)); code != impl.SsOk {
			t.Fatal(i, code)
		}
	}
	if !slices.Equal(s.Decls, manyDecls(60, 333)) {
		t.Error(s.Decls)
	}
	if got, code := impl.Declare(s, "z", 1); code != impl.SsMany || !sameSession(got, s) {
		t.Error(got, code)
	}
}

// filledSession has so many literals, spread over scopes, and this Next.
func filledSession(count, scopes int, next int64) impl.Session {
	s := impl.Session{Decls: []impl.Decl{{Name: "a", Width: 4}}, Scopes: make([]impl.Scope, scopes), Next: next}
	for i := range scopes {
		s.Scopes[i].Decls = int64(min(i, 1))
	}
	for i := range count {
		top := &s.Scopes[i*scopes/count]
		top.Literals = append(top.Literals, literal(int64(i+1), i%3 == 0, term(constant("0110")), term(constant("0111"))))
	}
	return s
}

func TestAssertCodes(t *testing.T) {
	few := sessionBy(t, "declare a 4", "equal a = #x3", "push", "declare b 1")
	full, last := filledSession(60, 3, 61), filledSession(59, 2, 60)
	end, ahead := filledSession(2, 2, 1000000), filledSession(2, 2, 999999)
	for _, c := range []struct {
		s           impl.Session
		left, right string
		want        int64
	}{
		{few, "a", "#x0", impl.SsOk}, {few, "b", "(part 3 3 a)", impl.SsOk}, {few, "#b1", "#b0", impl.SsOk}, {few, "a", "a", impl.SsOk}, {few, " a ; a text", "(cat b b\nb b)", impl.SsOk},
		{few, "", "a", impl.SsTerm}, {few, "a", "", impl.SsTerm}, {few, "c", "a", impl.SsTerm}, {few, "a", "c", impl.SsTerm}, {few, "(", "a", impl.SsTerm}, {few, "a", "a)", impl.SsTerm}, {few, "a a", "a", impl.SsTerm}, {few, "A", "a", impl.SsTerm}, {few, "a", "(cat a)", impl.SsTerm}, {few, "a", "(tac a a)", impl.SsTerm}, {few, "a", "#b", impl.SsTerm}, {few, "(part 4 0 a)", "#b00000", impl.SsTerm}, {few, "(rep 1025 a)", "a", impl.SsTerm}, {few, "a", "(zero 4096 a)", impl.SsTerm}, {few, "a\x80", "a", impl.SsTerm}, {few, "a", "a" + strings.Repeat(" ", 20000), impl.SsTerm}, {few, "a", "a" + strings.Repeat(" ", 19999), impl.SsOk}, {few, "(cat" + strings.Repeat(" b", 399) + ")", "(rep 399 b)", impl.SsOk}, {few, "(cat" + strings.Repeat(" b", 400) + ")", "(rep 400 b)", impl.SsTerm},
		{few, "a", "b", impl.SsWidths}, {few, "b", "a", impl.SsWidths}, {few, "#b1", "#b01", impl.SsWidths}, {few, "(rep 1024 a)", "(rep 4095 b)", impl.SsWidths}, {few, "(rep 1024 a)", "(rep 4096 b)", impl.SsOk},
		// at the last place of a list, and of Next
		{last, "a", "#x1", impl.SsOk}, {full, "a", "#x1", impl.SsMany}, {ahead, "a", "#x1", impl.SsOk}, {end, "a", "#x1", impl.SsMany},
		// of two faults the first one
		{few, "c", "", impl.SsTerm}, {few, "#b1", "(cat a", impl.SsTerm}, {full, "c", "a", impl.SsTerm}, {full, "a", "#b1", impl.SsWidths}, {end, "a", "c", impl.SsTerm}, {end, "a", "#b1", impl.SsWidths}, {filledSession(60, 3, 1000000), "a", "#x1", impl.SsMany},
	} {
		for _, kind := range []string{"equal", "unlike"} {
			m := move{kind: kind, left: c.left, right: c.right}
			if _, code := checkMove(t, c.s, m); code != c.want {
				t.Errorf("%s %s %s: %d, want %d", sessionText(c.s), short(c.left), short(c.right), code, c.want)
			}
		}
	}
	if s, id, code := impl.Assert(ahead, true, "a", "a"); s.Next != 1000000 || id != 999999 || code != impl.SsOk {
		t.Error(s, id, code)
	}
	// literals count in all scopes together
	for scopes := 1; scopes <= 20; scopes++ {
		s := filledSession(59, scopes, 77)
		s, code := checkMove(t, s, moveOf("unlike a ! #x0"))
		if code != impl.SsOk {
			t.Error(scopes, code)
		}
		if _, code = checkMove(t, s, moveOf("unlike a ! #x0")); code != impl.SsMany {
			t.Error(scopes, code)
		}
	}
}

func TestPushAndPopCodes(t *testing.T) {
	s := sessionBy(t, "declare a 4", "equal a = #x3")
	code := int64(0)
	for count := 2; count <= 20; count++ {
		if s, code = checkMove(t, s, moveOf("push")); code != impl.SsOk || len(s.Scopes) != count {
			t.Fatal(s, code)
		}
		s, _ = checkMove(t, s, moveOf(fmt.Sprint("declare v", count, " 1")))
		s, _ = checkMove(t, s, moveOf(fmt.Sprint("equal v", count, " = #b1")))
	}
	if got, code := checkMove(t, s, moveOf("push")); code != impl.SsMany || len(got.Scopes) != 20 {
		t.Error(got, code)
	}
	for count := 19; count >= 1; count-- {
		if s, code = checkMove(t, s, moveOf("pop")); code != impl.SsOk || len(s.Scopes) != count || len(s.Decls) != count || s.Next != 21 || len(impl.AllOf(s)) != count {
			t.Fatal(s, code)
		}
	}
	if got, code := checkMove(t, s, moveOf("pop")); code != impl.SsBottom || len(got.Scopes) != 1 || len(got.Decls) != 1 {
		t.Error(got, code)
	}
	// what the last Scope had is gone from the room behind the lists, too
	s = sessionBy(t, "declare a 4", "push", "declare b 1", "equal b = #b1")
	s, _ = impl.Pop(s)
	for _, d := range whole(s.Decls)[len(s.Decls):] {
		if d.Name != "" || d.Width != 0 {
			t.Errorf("%v lies behind", d)
		}
	}
	for _, scope := range whole(s.Scopes)[len(s.Scopes):] {
		if scope.Decls != 0 || len(scope.Literals) != 0 {
			t.Errorf("%v lies behind", scope)
		}
	}
}

func TestSessionOkAtItsEnds(t *testing.T) {
	next := func(n int64) impl.Session { return filledSession(3, 2, n) }
	scopes := func(decls ...int64) impl.Session {
		s := impl.Session{Decls: manyDecls(3, 2), Next: 1}
		for _, n := range decls {
			s.Scopes = append(s.Scopes, impl.Scope{Decls: n})
		}
		return s
	}
	declared := func(decls []impl.Decl) impl.Session {
		return impl.Session{Decls: decls, Scopes: make([]impl.Scope, 1), Next: 1}
	}
	empty := func(n int64) impl.Session { return impl.Session{Scopes: make([]impl.Scope, 1), Next: n} }
	named := func(name string, width int64) impl.Session {
		return declared([]impl.Decl{{Name: name, Width: width}})
	}
	last := impl.Decl{Name: "z", Width: 3616}
	for what, c := range map[string]struct {
		s    impl.Session
		want bool
	}{
		"zero": {impl.Session{}, false}, "no Scope": {impl.Session{Next: 1}, false}, "one Scope": {empty(1), true}, "20 Scopes": {filledSession(20, 20, 21), true}, "21 Scopes": {filledSession(21, 21, 22), false}, "20 empty Scopes": {filledSession(0, 20, 1), true}, "21 empty Scopes": {filledSession(0, 21, 1), false},
		"first 0": {scopes(0), true}, "first 1": {scopes(1), false}, "first -1": {scopes(-1), false}, "first 3": {scopes(3), false}, "0 0": {scopes(0, 0), true}, "0 3": {scopes(0, 3), true}, "0 4": {scopes(0, 4), false}, "0 -1": {scopes(0, -1), false}, "0 1 0": {scopes(0, 1, 0), false}, "0 2 1": {scopes(0, 2, 1), false}, "0 1 1 3 3": {scopes(0, 1, 1, 3, 3), true}, "0 4 4": {scopes(0, 4, 4), false}, "0 4 3": {scopes(0, 4, 3), false}, "0 1 3 2": {scopes(0, 1, 3, 2), false}, "1 1": {scopes(1, 1), false}, "0 greatest": {scopes(0, math.MaxInt64), false}, "0 least": {scopes(0, math.MinInt64), false}, "0 least 1": {scopes(0, math.MinInt64, 1), false},
		"Next 0": {empty(0), false}, "Next 1": {empty(1), true}, "Next -1": {empty(-1), false}, "Next 1000000": {empty(1000000), true}, "Next 1000001": {empty(1000001), false}, "Next greatest": {empty(math.MaxInt64), false}, "Next least": {empty(math.MinInt64), false},
		"Next below an Id": {next(2), false}, "Next just an Id": {next(3), false}, "Next above all": {next(4), true}, "Next 1 with Ids": {next(1), false}, "Next far above": {next(1000000), true}, "Next too far above": {next(1000001), false},
		"60 literals": {filledSession(60, 1, 61), true}, "61 literals": {filledSession(61, 1, 62), false}, "60 in 7": {filledSession(60, 7, 61), true}, "61 in 7": {filledSession(61, 7, 62), false}, "61 in 20": {filledSession(61, 20, 62), false}, "5000 literals": {filledSession(5000, 20, 6000), false},
		"60 variables": {declared(manyDecls(60, 1)), true}, "61 variables": {declared(manyDecls(61, 1)), false}, "20000 bits": {declared(append(manyDecls(4, 4096), last)), true}, "20001 bits": {declared(append(manyDecls(4, 4096), last, impl.Decl{Name: "zz", Width: 1})), false},
		"width 0": {named("a", 0), false}, "width 1": {named("a", 1), true}, "width 4096": {named("a", 4096), true}, "width 4097": {named("a", 4097), false}, "no name": {named("", 1), false}, "12 bytes": {named("abcdefghijkl", 1), true}, "13 bytes": {named("abcdefghijklm", 1), false}, "a name that is none": {named("aB", 1), false}, "two of a name": {declared([]impl.Decl{{Name: "a", Width: 1}, {Name: "a", Width: 1}}), false},
	} {
		if got := checkRight(t, what, c.s); got != c.want {
			t.Errorf("%s: %v", what, got)
		}
	}
}

func TestSessionLiteralsAreRightForTheirScope(t *testing.T) {
	decls := []impl.Decl{{Name: "a", Width: 2}, {Name: "b", Width: 2}, {Name: "c", Width: 2}}
	on := func(id, v int64) impl.Literal { return literal(id, true, term(variable(v)), term(constant("01"))) }
	mixed := func(id, v, w int64) impl.Literal { return literal(id, false, term(variable(v)), term(variable(w))) }
	scopes := func(list ...impl.Scope) []impl.Scope { return list }
	for what, c := range map[string]struct {
		list []impl.Scope
		want bool
	}{
		"each its own":            {scopes(scope(0, on(1, 0)), scope(1, on(2, 1)), scope(2, on(3, 2))), true},
		"all in the last":         {scopes(scope(0), scope(1), scope(2, on(1, 0), on(2, 1), on(3, 2))), true},
		"declared later":          {scopes(scope(0, on(1, 1)), scope(1)), false},
		"declared later, T":       {scopes(scope(0, mixed(1, 0, 1)), scope(1)), false},
		"declared later, S":       {scopes(scope(0, mixed(1, 1, 0)), scope(1)), false},
		"declared by its end":     {scopes(scope(0, mixed(1, 1, 0)), scope(2)), true},
		"the middle one":          {scopes(scope(0), scope(1, on(1, 2)), scope(2)), false},
		"the middle one, by then": {scopes(scope(0), scope(1, on(1, 2)), scope(3)), true},
		"before any variable":     {scopes(scope(0, on(1, 0)), scope(0)), false},
		"without a variable":      {scopes(scope(0, literal(1, true, term(constant("1")), term(constant("0")))), scope(0)), true},
		"no variable at all":      {scopes(scope(0, on(1, 3))), false},
		"one Id twice":            {scopes(scope(0, on(1, 0)), scope(3, on(1, 0))), false},
		"Ids that fall":           {scopes(scope(0, on(2, 0)), scope(3, on(1, 0))), false},
		"Ids that rise":           {scopes(scope(0, on(2, 0)), scope(3), scope(3, on(5, 0))), true},
		"one Id twice over one":   {scopes(scope(0, on(2, 0)), scope(3), scope(3, on(2, 0))), false},
		"one Id twice in one":     {scopes(scope(0, on(2, 0), on(2, 1))), false},
		"the Id 0":                {scopes(scope(0, on(0, 0))), false},
		"the Id -1":               {scopes(scope(0, on(-1, 0))), false},
		"the least Id":            {scopes(scope(0, on(math.MinInt64, 0))), false},
		"the Id of Next":          {scopes(scope(0, on(1000000, 0))), false},
		"the Id below Next":       {scopes(scope(0, on(999999, 0))), true},
		"above Next":              {scopes(scope(0, on(1000001, 0))), false},
		"unlike widths":           {scopes(scope(0, literal(1, true, term(variable(0)), term(constant("1"))))), false},
		"no terms":                {scopes(scope(0, impl.Literal{Id: 1})), false},
	} {
		if got := checkRight(t, what, impl.Session{Decls: decls, Scopes: c.list, Next: 1000000}); got != c.want {
			t.Errorf("%s: %v", what, got)
		}
	}
}

func TestSessionsOfWrongParts(t *testing.T) {
	base := sessionBy(t, "declare a 4", "declare b 2", "declare c 1", "declare cat 3", "declare x9 64", "declare w 65", "equal a = (cat b #b01)", "push", "unlike (part 1 0 a) ! b")
	if !checkRight(t, "base", base) {
		t.Fatal("not right")
	}
	wrong := 0
	for what, list := range wrongLists() {
		for place := range base.Scopes {
			s := sessionCopy(base)
			s.Scopes[1].Literals, s.Scopes[place].Literals, s.Next = nil, list, 1000000
			if !checkRight(t, what, s) {
				wrong++
			}
		}
	}
	for i, decls := range wrongDecls() {
		s := sessionCopy(base)
		s.Decls = decls
		checkRight(t, fmt.Sprint("decls ", i), s)
		s.Scopes = make([]impl.Scope, 1)
		if checkRight(t, fmt.Sprint("decls ", i), s) {
			t.Error(decls)
		}
	}
	for i, x := range wrongTerms(base.Scopes[0].Literals[0].T) {
		s := sessionCopy(base)
		s.Scopes[0].Literals[0].T = x
		if !checkRight(t, fmt.Sprint("term ", i), s) {
			wrong++
		}
	}
	if wrong < 300 {
		t.Error("too few are wrong:", wrong)
	}
}

func TestThrownSessions(t *testing.T) {
	d := dice{state: 301}
	told := make(map[int64]int)
	for range 120 {
		s := impl.Begin()
		for range 60 {
			var code int64
			s, code = checkMove(t, s, thrownMove(&d, deskOf(s)))
			told[code]++
		}
		checkRight(t, "thrown", s)
	}
	for code := range int64(9) {
		if told[code] < 10 && code != impl.SsBad && code != impl.SsMany {
			t.Errorf("the code %d is too seldom: %v", code, told)
		}
	}
}

// The promise: behind a push and a pop a session is as it was, but for Next.
func TestPushAndPopLeaveASession(t *testing.T) {
	d := dice{state: 302}
	asserted, declared, deep := 0, 0, 0
	for range 400 {
		before := thrownSession(&d, d.below(40))
		s, code := impl.Push(before)
		if code == impl.SsMany {
			continue
		}
		count := 0
		for range d.below(25) {
			m := thrownMove(&d, deskOf(s))
			if m.kind == "pop" && len(s.Scopes) == len(before.Scopes)+1 {
				continue
			}
			var id int64
			s, id, code = m.told(s)
			if id != 0 {
				count++
			}
			if m.kind == "declare" && code == impl.SsOk {
				declared++
			}
			deep = max(deep, len(s.Scopes)-len(before.Scopes))
		}
		asserted += count
		for len(s.Scopes) > len(before.Scopes) {
			s, _ = impl.Pop(s)
		}
		want := sessionCopy(before)
		want.Next += int64(count)
		if !sameSession(s, want) || !impl.SessionOk(s) {
			t.Fatalf("%s became %s", sessionText(before), sessionText(s))
		}
	}
	if asserted < 200 || declared < 200 || deep < 4 {
		t.Error("too little is done:", asserted, declared, deep)
	}
}

// The promise: what is asserted is asserted.
func TestWhatIsAssertedIsAsserted(t *testing.T) {
	d := dice{state: 303}
	held := make(map[bool]int)
	for range 150 {
		s := sessionBy(t, "declare a 2", "declare b 2", "declare c 1")
		var want []impl.Literal
		for range 1 + d.below(6) {
			if d.below(3) == 0 {
				s, _ = impl.Push(s)
			}
			m := thrownAssert(&d, s.Decls)
			next, id, code := m.told(s)
			if code != impl.SsOk {
				continue
			}
			l := literal(s.Next, m.kind == "equal", readTerm(t, s.Decls, m.left), readTerm(t, s.Decls, m.right))
			want = append(want, l)
			s = next
			if all := impl.AllOf(s); id != l.Id || !slices.EqualFunc(all, want, sameLiteral) {
				t.Fatalf("%s: %d: %v, want %v", sessionText(s), id, all, want)
			}
			if is, code := impl.Entails(s.Decls, impl.AllOf(s), l, manyVisits); !is || code != impl.CkUnsat {
				t.Fatalf("%s does not entail %v", sessionText(s), l)
			}
		}
		for _, rows := range rowsOfAll([]int64{2, 2, 1}) {
			is := impl.FirstFails(s.Decls, valuesOfRows(rows), impl.AllOf(s)) == 0
			if is != holdByRows(want, rows) {
				t.Fatalf("%s by %q: %v", sessionText(s), rows, is)
			}
			held[is]++
		}
	}
	if held[true] < 100 || held[false] < 100 {
		t.Errorf("too seldom: %v", held)
	}
}

func TestSessionsKeep(t *testing.T) {
	d := dice{state: 304}
	keeps(t, impl.Begin)
	wrong := impl.Session{Decls: manyDecls(2, 3), Scopes: []impl.Scope{{Decls: 1}}, Next: 5}
	for i := range 60 {
		s := thrownSession(&d, d.below(50))
		if i%10 == 0 {
			s = filledSession(60, 20, 999999+int64(i/10%2))
		}
		for _, s := range []impl.Session{s, wrong} {
			keepsSession(t, &d, s)
		}
		s.Scopes[len(s.Scopes)-1].Decls = -1
		keepsSession(t, &d, s)
	}
}

func keepsSession(t *testing.T, d *dice, s impl.Session) {
	t.Helper()
	keeps(t, impl.SessionOk, s)
	keeps(t, impl.Push, s)
	keeps(t, impl.Pop, s)
	keeps(t, impl.AllOf, s)
	for _, name := range []string{"zz", "v1", "", "A"} {
		keeps(t, impl.Declare, s, name, int64(d.below(6)))
	}
	for _, left := range []string{"#xa", "(cat #b1 #b010)", "(rep 4 #b1)", "#b1", "zz"} {
		keeps(t, impl.Assert, s, d.below(2) == 0, left, "(left 1 #b0101)")
	}
}
