package tests

import (
	"fmt"
	"slices"
	"strconv"
	"strings"
	"testing"

	"loop.example/g00081/impl"
)

// A desk is the test's own picture of a session: layers of paper, each with
// what was declared and asserted while it lay on top.

type layer struct {
	decls    []impl.Decl
	literals []impl.Literal
}

type desk struct {
	layers []layer
	next   int64
}

func newDesk() desk { return desk{layers: make([]layer, 1), next: 1} }

func (d desk) decls() []impl.Decl {
	var all []impl.Decl
	for _, l := range d.layers {
		all = append(all, l.decls...)
	}
	return all
}

func (d desk) literals() []impl.Literal {
	var all []impl.Literal
	for _, l := range d.layers {
		all = append(all, l.literals...)
	}
	return all
}

func (d desk) session() impl.Session {
	s := impl.Session{Decls: d.decls(), Next: d.next}
	below := int64(0)
	for _, l := range d.layers {
		s.Scopes = append(s.Scopes, impl.Scope{Decls: below, Literals: l.literals})
		below += int64(len(l.decls))
	}
	return s
}

// deskOf is asked of right sessions.
func deskOf(s impl.Session) desk {
	d := desk{next: s.Next}
	for i, scope := range s.Scopes {
		end := int64(len(s.Decls))
		if i+1 < len(s.Scopes) {
			end = s.Scopes[i+1].Decls
		}
		d.layers = append(d.layers, layer{slices.Clone(s.Decls[scope.Decls:end]), slices.Clone(scope.Literals)})
	}
	return d
}

func (d desk) clone() desk { return deskOf(d.session()) }

// move is one step of a session: declare, equal, unlike, push or pop.
type move struct {
	kind        string
	name        string
	width       int64
	left, right string
}

// moveOf reads "declare a 4", "equal a = #x3", "unlike a ! b", "push", "pop".
func moveOf(text string) move {
	kind, rest, _ := strings.Cut(text, " ")
	m := move{kind: kind}
	switch kind {
	case "declare":
		name, width, _ := strings.Cut(rest, " ")
		m.name = name
		m.width, _ = strconv.ParseInt(width, 10, 64)
	case "equal":
		m.left, m.right, _ = strings.Cut(rest, " = ")
	case "unlike":
		m.left, m.right, _ = strings.Cut(rest, " ! ")
	}
	return m
}

// told is what the program answers: the session, an Id and a code.
func (m move) told(s impl.Session) (impl.Session, int64, int64) {
	var code int64
	switch m.kind {
	case "declare":
		s, code = impl.Declare(s, m.name, m.width)
	case "push":
		s, code = impl.Push(s)
	case "pop":
		s, code = impl.Pop(s)
	default:
		return impl.Assert(s, m.kind == "equal", m.left, m.right)
	}
	return s, 0, code
}

// on is what the picture of a right session answers.
func (m move) on(d desk) (desk, int64, int64) {
	code, id := int64(impl.SsOk), int64(0)
	after := d.clone()
	top := &after.layers[len(after.layers)-1]
	switch m.kind {
	case "declare":
		top.decls = append(top.decls, impl.Decl{Name: m.name, Width: m.width})
		code = m.declareCode(d.decls())
	case "push":
		after.layers = append(after.layers, layer{})
		if len(after.layers) > 20 {
			code = impl.SsMany
		}
	case "pop":
		after.layers = after.layers[:len(after.layers)-1]
		if len(after.layers) == 0 {
			code = impl.SsBottom
		}
	default:
		var l impl.Literal
		l, code = m.literal(d)
		top.literals = append(top.literals, l)
		after.next++
		id = l.Id
	}
	if code != impl.SsOk {
		return d, 0, code
	}
	return after, id, code
}

func (m move) declareCode(decls []impl.Decl) int64 {
	switch {
	case !nameByDefinition(m.name):
		return impl.SsName
	case slices.ContainsFunc(decls, func(d impl.Decl) bool { return d.Name == m.name }):
		return impl.SsTwice
	case m.width < 1 || m.width > 4096:
		return impl.SsWidth
	case len(decls) == 60 || widthOfAll(decls)+m.width > 20000:
		return impl.SsMany
	}
	return impl.SsOk
}

func (m move) literal(d desk) (impl.Literal, int64) {
	decls := d.decls()
	s, c1, _ := readTermByDefinition(decls, m.left)
	u, c2, _ := readTermByDefinition(decls, m.right)
	switch {
	case c1 != 0 || c2 != 0:
		return impl.Literal{}, impl.SsTerm
	case lastOf(widthsByTable(decls, s)) != lastOf(widthsByTable(decls, u)):
		return impl.Literal{}, impl.SsWidths
	case len(d.literals()) == 60 || d.next == 1000000:
		return impl.Literal{}, impl.SsMany
	}
	return literal(d.next, m.kind == "equal", s, u), impl.SsOk
}

// rightSession is the chapter's sentence, word by word.
func rightSession(s impl.Session) bool {
	if !rightDecls(s.Decls) || len(s.Scopes) < 1 || len(s.Scopes) > 20 || s.Scopes[0].Decls != 0 || s.Next < 1 || s.Next > 1000000 {
		return false
	}
	for i, scope := range s.Scopes {
		if scope.Decls > int64(len(s.Decls)) || i > 0 && scope.Decls < s.Scopes[i-1].Decls {
			return false
		}
	}
	var ids []int64
	for i, scope := range s.Scopes {
		there := s.Decls
		if i+1 < len(s.Scopes) {
			there = s.Decls[:s.Scopes[i+1].Decls]
		}
		for _, l := range scope.Literals {
			x, y := widthsByTable(there, l.S), widthsByTable(there, l.T)
			if x == nil || y == nil || lastOf(x) != lastOf(y) || len(ids) > 0 && l.Id <= lastOf(ids) || l.Id < 1 || l.Id >= s.Next {
				return false
			}
			ids = append(ids, l.Id)
		}
	}
	return len(ids) <= 60
}

func scope(decls int64, list ...impl.Literal) impl.Scope {
	return impl.Scope{Decls: decls, Literals: list}
}

func sameScope(a, b impl.Scope) bool {
	return a.Decls == b.Decls && slices.EqualFunc(a.Literals, b.Literals, sameLiteral)
}

func sameSession(a, b impl.Session) bool {
	return a.Next == b.Next && slices.Equal(a.Decls, b.Decls) && slices.EqualFunc(a.Scopes, b.Scopes, sameScope)
}

func isZero(s impl.Session) bool {
	return len(s.Decls) == 0 && len(s.Scopes) == 0 && s.Next == 0
}

// sessionText is asked of right sessions: "a:4 b:1 [0: 1 a = #x3] [1: 2 b ! #b0] 3".
func sessionText(s impl.Session) string {
	var out []string
	for _, d := range s.Decls {
		out = append(out, fmt.Sprint(d.Name, ":", d.Width))
	}
	for _, scope := range s.Scopes {
		words := []string{fmt.Sprint(scope.Decls, ":")}
		for _, l := range scope.Literals {
			sign := " ! "
			if l.Equal {
				sign = " = "
			}
			words = append(words, fmt.Sprint(l.Id, " ", textByTable(s.Decls, l.S), sign, textByTable(s.Decls, l.T)))
		}
		out = append(out, "["+strings.Join(words, " ")+"]")
	}
	return strings.Join(append(out, fmt.Sprint(s.Next)), " ")
}

// sessionBy takes moves from Begin on, all of them without a code.
func sessionBy(t *testing.T, moves ...string) impl.Session {
	t.Helper()
	s := impl.Begin()
	for _, text := range moves {
		var code int64
		if s, _, code = moveOf(text).told(s); code != impl.SsOk {
			t.Fatalf("%s has the code %d", short(text), code)
		}
	}
	return s
}

func sessionCopy(s impl.Session) impl.Session {
	out := impl.Session{Decls: slices.Clone(s.Decls), Next: s.Next}
	for _, scope := range s.Scopes {
		var list []impl.Literal
		for _, l := range scope.Literals {
			list = append(list, literal(l.Id, l.Equal, termCopy(l.S), termCopy(l.T)))
		}
		out.Scopes = append(out.Scopes, impl.Scope{Decls: scope.Decls, Literals: list})
	}
	return out
}

// thrownMove fits a desk most of the time.
func thrownMove(d *dice, on desk) move {
	decls := on.decls()
	switch n := d.below(20); {
	case n < 5:
		name := fmt.Sprint("v", d.below(80))
		if d.below(9) == 0 {
			name = []string{"", "A", "9", "cat", "abcdefghijkl", "abcdefghijklm", "a b"}[d.below(7)]
		}
		width := int64(1 + d.below(9))
		if d.below(9) == 0 {
			width = []int64{0, -1, 70, 4097, 65}[d.below(5)]
		}
		return move{kind: "declare", name: name, width: width}
	case n < 8:
		return move{kind: "push"}
	case n < 10:
		return move{kind: "pop"}
	case len(decls) == 0:
		return moveOf([]string{"equal #b1 = #b0", "unlike #xa ! #b1010", "equal #b1 = a", "equal #b1 = #b10"}[d.below(4)])
	default:
		return thrownAssert(d, decls)
	}
}

func thrownAssert(d *dice, decls []impl.Decl) move {
	s, u := thrownSides(d, decls, 3)
	m := move{kind: []string{"equal", "unlike"}[d.below(2)], left: textByTable(decls, s), right: textByTable(decls, u)}
	switch d.below(12) {
	case 0:
		m.left = []string{"", "(", "zz", "(cat a)", "#b2", "(part 9 0 #b1)"}[d.below(6)]
	case 1:
		m.right = []string{")", "; nothing", "(rep 0 #b1)", "A", "(zero 4096 #b1)", "a a"}[d.below(6)]
	case 2:
		m.right = "(cat #b1 " + m.right + ")"
	}
	return m
}

// thrownSession is right, by so many moves.
func thrownSession(d *dice, moves int) impl.Session {
	on := newDesk()
	for range moves {
		on, _, _ = thrownMove(d, on).on(on)
	}
	return on.session()
}
