package tests

import (
	"fmt"
	"slices"
	"strings"
	"testing"

	"loop.example/g00081/impl"
)

// spared is a list with room behind it that no call may touch.
func spared[T any](list []T, spare T) []T {
	out := append(slices.Clone(list), spare, spare, spare)
	return out[:len(list)]
}

func whole[T any](list []T) []T { return list[:cap(list)] }

func sparedBits(b impl.Bits) impl.Bits {
	return impl.Bits{Width: b.Width, Words: spared(b.Words, spareWord)}
}

func sparedTerm(x impl.Term) impl.Term {
	out := termCopy(x)
	for i, node := range out.Nodes {
		out.Nodes[i].Value = sparedBits(node.Value)
		out.Nodes[i].Kids = spared(node.Kids, -77)
	}
	return impl.Term{Nodes: spared(out.Nodes, impl.TNode{Op: -77, Kids: []int64{-77}})}
}

// seen is all that stands in arguments, with the room behind it.
type seen struct {
	decls    []impl.Decl
	values   []impl.Bits
	terms    []impl.Term
	literals []impl.Literal
}

func (s seen) text() string {
	var out strings.Builder
	fmt.Fprint(&out, whole(s.decls))
	for _, b := range whole(s.values) {
		fmt.Fprint(&out, b.Width, whole(b.Words))
	}
	terms := slices.Clone(s.terms)
	for _, l := range whole(s.literals) {
		fmt.Fprint(&out, l.Id, l.Equal)
		terms = append(terms, l.S, l.T)
	}
	for _, x := range terms {
		for _, node := range whole(x.Nodes) {
			fmt.Fprint(&out, node.Op, node.Var, node.A, node.B, node.Value.Width, whole(node.Value.Words), whole(node.Kids), ";")
		}
	}
	return out.String()
}

// fillTerm writes a number of its own into every list of an answer and tells
// whether each still has its own in the end.
func fillTerm(x impl.Term) bool {
	number := int64(1000)
	for i := range x.Nodes {
		number++
		for k := range whole(x.Nodes[i].Kids) {
			whole(x.Nodes[i].Kids)[k] = number
		}
		for k := range whole(x.Nodes[i].Value.Words) {
			whole(x.Nodes[i].Value.Words)[k] = uint64(number)
		}
	}
	number = 1000
	for _, node := range x.Nodes {
		number++
		for _, kid := range whole(node.Kids) {
			if kid != number {
				return false
			}
		}
		for _, word := range whole(node.Value.Words) {
			if word != uint64(number) {
				return false
			}
		}
	}
	for i := range whole(x.Nodes) {
		whole(x.Nodes)[i] = impl.TNode{Op: 99, Kids: []int64{99}}
	}
	return true
}

func fillBits(b impl.Bits) {
	for i := range whole(b.Words) {
		whole(b.Words)[i] = 99
	}
}

// guarded are arguments of all kinds, thrown, with room behind each list.
func guarded(d *dice, decls []impl.Decl) seen {
	x, u := thrownTerm(d, decls, 12), thrownTerm(d, decls, 12)
	last := int64(len(u.Nodes) - 1)
	u.Nodes = append(u.Nodes, part(0, 0, last), one(impl.TmRep, decls[0].Width, last+1))
	s := seen{decls: spared(decls, impl.Decl{Name: "spare", Width: 77})}
	for _, row := range thrownRows(d, decls) {
		s.values = append(s.values, sparedBits(bitsOfRow(row)))
	}
	s.values = spared(s.values, bitsOfRow("1"))
	s.terms = []impl.Term{sparedTerm(x), sparedTerm(u), sparedTerm(term(variable(0))), sparedTerm(term(constant("1011")))}
	for i, y := range s.terms {
		s.literals = append(s.literals, literal(int64(i+1), d.below(2) == 0, sparedTerm(y), sparedTerm(y)))
	}
	s.literals = spared(s.literals, literal(-77, true, impl.Term{}, impl.Term{}))
	return s
}

func TestTermsAndValuesWriteIntoNothing(t *testing.T) {
	d := dice{state: 51}
	for range 400 {
		s := guarded(&d, someDecls())
		before := s.text()
		for _, x := range s.terms {
			checkNewMemory(t, s, x)
			checkSameAgain(t, s, x)
		}
		impl.DeclsOk(s.decls)
		impl.ValuesOk(s.decls, s.values)
		impl.LiteralsOk(s.decls, s.literals)
		impl.FirstFails(s.decls, s.values, s.literals)
		impl.Holds(s.decls, s.values, s.literals[0])
		if s.text() != before {
			t.Fatalf("%s became %s", before, s.text())
		}
	}
}

// checkNewMemory spoils all that is answered; the caller sees whether an argument was spoiled, too.
func checkNewMemory(t *testing.T, s seen, x impl.Term) {
	t.Helper()
	impl.WidthOf(s.decls, x)
	text := impl.WriteTerm(s.decls, x)
	if !fillTerm(impl.Share(s.decls, x)) {
		t.Fatalf("two lists of Share of %s are one", short(text))
	}
	if y, code, _ := impl.ReadTerm(s.decls, text); code == 0 && !fillTerm(y) {
		t.Fatalf("two lists of what is read of %s are one", short(text))
	}
	for v := range int64(len(s.decls)) {
		if y, ok := impl.Replace(s.decls, x, v, s.terms[1]); ok && !fillTerm(y) {
			t.Fatalf("two lists of what is replaced in %s are one", short(text))
		}
		if y, ok := impl.Replace(s.decls, s.terms[2], v, x); ok && !fillTerm(y) {
			t.Fatalf("two lists of what is replaced by %s are one", short(text))
		}
	}
	vars := whole(impl.VarsOf(s.decls, x))
	for i := range vars {
		vars[i] = 99
	}
	b, ok := impl.Eval(s.decls, s.values, x)
	if !ok {
		t.Fatalf("%s has no value", short(text))
	}
	fillBits(b)
}

// checkSameAgain asks twice, with what was answered first spoiled in between.
func checkSameAgain(t *testing.T, s seen, x impl.Term) {
	t.Helper()
	first := impl.Share(s.decls, x)
	kept := termCopy(first)
	fillTerm(first)
	if !sameTerm(impl.Share(s.decls, x), kept) {
		t.Fatalf("Share of %v is another one", x)
	}
	b, _ := impl.Eval(s.decls, s.values, x)
	bits := impl.Bits{Width: b.Width, Words: slices.Clone(b.Words)}
	fillBits(b)
	if b, _ := impl.Eval(s.decls, s.values, x); !sameBits(b, bits) {
		t.Fatalf("the value of %v is another one", x)
	}
	y, ok := impl.Replace(s.decls, x, 0, s.terms[1])
	kept = termCopy(y)
	fillTerm(y)
	if z, again := impl.Replace(s.decls, x, 0, s.terms[1]); ok != again || !sameTerm(z, kept) {
		t.Fatalf("Replace in %v is another one", x)
	}
}

func TestWrongTermsAreNotWrittenInto(t *testing.T) {
	d := dice{state: 52}
	for range 12 {
		s := guarded(&d, someDecls())
		for _, wrong := range wrongTerms(s.terms[0]) {
			s.terms[0] = sparedTerm(wrong)
			s.literals[0].S = s.terms[0]
			before := s.text()
			for _, u := range s.terms {
				impl.Replace(s.decls, s.terms[0], 0, u)
				impl.Replace(s.decls, u, 0, s.terms[0])
			}
			impl.WidthOf(s.decls, s.terms[0])
			impl.WriteTerm(s.decls, s.terms[0])
			impl.Share(s.decls, s.terms[0])
			impl.VarsOf(s.decls, s.terms[0])
			impl.Eval(s.decls, s.values, s.terms[0])
			impl.LiteralsOk(s.decls, s.literals)
			impl.FirstFails(s.decls, s.values, s.literals)
			impl.Holds(s.decls, s.values, s.literals[0])
			if s.text() != before {
				t.Fatalf("%s became %s", before, s.text())
			}
		}
	}
}

// The promise, of the functions of words, trees, terms and values: right arguments and wrong ones.
func TestFirstChaptersKeep(t *testing.T) {
	d := dice{state: 2307}
	for range 30 {
		a, b := bitsOfRow(d.row(1+d.below(130))), bitsOfRow(d.row(1+d.below(130)))
		n, m := int64(d.below(140)-3), int64(d.below(140)-3)
		for _, word := range append(wrongBits(), a, b) {
			keepsWord(t, word, b, n, m)
		}
		shape := thrownShape(&d, 12)
		tree := treeOfShape(shape)
		keepsTree(t, tree, textOfShape(shape))
		spoil(&d, tree)
		keepsTree(t, tree, textOfShape(shape)+")")
		decls := someDecls()
		x, y := thrownSides(&d, decls, 4)
		values := valuesOfRows(thrownRows(&d, decls))
		for _, wrong := range append(wrongTerms(x)[:3], x) {
			keepsTerm(t, decls, values, wrong, y)
			keepsTerm(t, decls, values[1:], y, wrong)
		}
		keepsTerm(t, append(decls, decls[0]), values, x, y)
	}
}

func keepsWord(t *testing.T, a, b impl.Bits, n, m int64) {
	t.Helper()
	keeps(t, impl.BitsOk, a)
	keeps(t, impl.ReadBits, impl.WriteBits(a))
	keeps(t, impl.WriteBits, a)
	keeps(t, impl.BitsOf, n, m)
	keeps(t, impl.PartOf, a, n, m)
	keeps(t, impl.JoinBits, a, b)
	keeps(t, impl.TurnBits, a, n)
	keeps(t, impl.RepeatBits, a, n)
	keeps(t, impl.WidenBits, a, n, m > 60)
	keeps(t, impl.CompareBits, a, b)
	keeps(t, impl.NextBits, a)
	keeps(t, impl.CountOnes, a)
}

func keepsTree(t *testing.T, tree impl.Tree, text string) {
	t.Helper()
	keeps(t, impl.TreeOk, tree)
	keeps(t, impl.ReadTree, text)
	keeps(t, impl.WriteTree, tree)
	keeps(t, impl.DepthOf, tree)
}

func keepsTerm(t *testing.T, decls []impl.Decl, values []impl.Bits, x, y impl.Term) {
	t.Helper()
	l := literal(1, len(x.Nodes) > 3, x, y)
	keeps(t, impl.DeclsOk, decls)
	keeps(t, impl.WidthOf, decls, x)
	keeps(t, impl.ReadTerm, decls, impl.WriteTerm(decls, x))
	keeps(t, impl.WriteTerm, decls, x)
	keeps(t, impl.Share, decls, x)
	keeps(t, impl.VarsOf, decls, x)
	keeps(t, impl.Replace, decls, x, int64(len(y.Nodes)%4), y)
	keeps(t, impl.ValuesOk, decls, values)
	keeps(t, impl.Eval, decls, values, x)
	keeps(t, impl.LiteralsOk, decls, []impl.Literal{l, l})
	keeps(t, impl.Holds, decls, values, l)
	keeps(t, impl.FirstFails, decls, values, []impl.Literal{l})
}
