package tests

import (
	"slices"
	"strings"
	"testing"

	"loop.example/g00081/impl"
)

// Promise 2: trees come back from their texts; what is read of a text is
// right, and is written as a text that is read as the same.

func TestTreesComeBackFromTheirTexts(t *testing.T) {
	for _, s := range []shape{
		atom("a"), list(), list(atom("a")), list(list()), list(list(), list()), list(atom("a"), atom("b"), atom("c")),
		list(atom("a"), list(atom("b")), atom("c")), list(list(atom("a"), atom("b")), list(), list(list(atom("c")), atom("d"))),
		within(3, atom("x")), within(3, list()), list(within(4, list()), atom("z"), within(2, atom("y"))),
		list(atom("cat"), atom("#b01"), list(atom("part"), atom("3"), atom("0"), atom("v1"))),
	} {
		checkShape(t, s)
	}
	d := dice{state: 7}
	for i := range 3000 {
		checkShape(t, thrownShape(&d, 1+i%120))
	}
	for range 20 {
		checkShape(t, list(thrownShape(&d, 600), thrownShape(&d, 600), thrownShape(&d, 700)))
	}
}

func TestTreeOkOfSmallTrees(t *testing.T) {
	if impl.TreeOk(impl.Tree{}) || impl.TreeOk(impl.Tree{Nodes: []impl.Node{}}) {
		t.Fatal("a tree has a node")
	}
	for _, n := range []int{1, 2} {
		checkAllTrees(t, allNodes(3, []int64{-1, 0, 1, 2}), make([]impl.Node, n), 0)
	}
	checkAllTrees(t, allNodes(2, []int64{-1, 0, 1, 2, 3}), make([]impl.Node, 3), 0)
	checkAllTrees(t, allNodes(2, []int64{1, 2, 3})[:13], make([]impl.Node, 4), 0)
}

// allNodes are lists of at most so many of some Kids, then the same with a Text.
func allNodes(most int, places []int64) []impl.Node {
	lists := [][]int64{nil}
	longest := lists
	for range most {
		var longer [][]int64
		for _, kids := range longest {
			for _, place := range places {
				longer = append(longer, append(slices.Clone(kids), place))
			}
		}
		lists, longest = append(lists, longer...), longer
	}
	var nodes []impl.Node
	for _, text := range []string{"", "a"} {
		for _, kids := range lists {
			nodes = append(nodes, impl.Node{Text: text, Kids: kids})
		}
	}
	return nodes
}

func checkAllTrees(t *testing.T, choices []impl.Node, nodes []impl.Node, place int) {
	if place == len(nodes) {
		checkTree(t, impl.Tree{Nodes: nodes})
		return
	}
	for _, node := range choices {
		nodes[place] = node
		checkAllTrees(t, choices, nodes, place+1)
	}
}

func TestTreeOkOfSpoiledTrees(t *testing.T) {
	d := dice{state: 11}
	for i := range 2000 {
		whole := treeOfShape(list(thrownShape(&d, 2+i%40), thrownShape(&d, 9)))
		for range 6 {
			tree := treeCopy(whole)
			spoil(&d, tree)
			checkTree(t, tree)
		}
	}
}

// spoil changes a place or two of a tree; it may be right all the same.
func spoil(d *dice, tree impl.Tree) {
	nodes := tree.Nodes
	a, b := d.below(len(nodes)), d.below(len(nodes))
	one := &nodes[a]
	switch d.below(7) {
	case 0:
		nodes[a], nodes[b] = nodes[b], nodes[a]
	case 1:
		one.Kids = append(one.Kids, int64(b))
	case 2:
		one.Kids = append(one.Kids, farPlaces[d.below(len(farPlaces))])
	case 3:
		if len(one.Kids) > 0 {
			one.Kids = one.Kids[:len(one.Kids)-1]
		}
	case 4:
		slices.Reverse(one.Kids)
	case 5:
		if len(one.Kids) > 0 {
			one.Kids[d.below(len(one.Kids))] = int64(b)
		}
	case 6:
		one.Text += []string{"", "a", " ", "(", ";", "\x7f", "\x80"}[d.below(7)]
	}
}

func TestTreeOkOfOrder(t *testing.T) {
	atomA, atomB := impl.Node{Text: "a"}, impl.Node{Text: "b"}
	for _, c := range []struct {
		what  string
		nodes []impl.Node
		right bool
	}{
		{"in order", []impl.Node{{Kids: []int64{1, 3}}, {Kids: []int64{2}}, atomA, atomB}, true},
		{"level by level", []impl.Node{{Kids: []int64{1, 2}}, {Kids: []int64{3}}, atomA, atomB}, false},
		{"Kids from the right", []impl.Node{{Kids: []int64{2, 1}}, atomA, atomB}, false},
		{"the whole at the end", []impl.Node{atomA, atomB, {Kids: []int64{0, 1}}}, false},
		{"a Kid twice", []impl.Node{{Kids: []int64{1, 1}}, atomA}, false},
		{"a Kid of two", []impl.Node{{Kids: []int64{1, 2}}, {Kids: []int64{2}}, atomA}, false},
		{"no Kid of any", []impl.Node{{Kids: []int64{1}}, atomA, atomB}, false},
		{"no Kid of an atom", []impl.Node{atomA, atomB}, false},
		{"its own Kid", []impl.Node{{Kids: []int64{0}}}, false},
		{"the whole as a Kid", []impl.Node{{Kids: []int64{1}}, {Kids: []int64{0}}}, false},
		{"a ring beside the whole", []impl.Node{{}, {Kids: []int64{2}}, {Kids: []int64{1}}}, false},
		{"a Kid that is not there", []impl.Node{{Kids: []int64{1, 2}}, atomA}, false},
		{"Text and Kids", []impl.Node{{Text: "a", Kids: []int64{1}}, atomB}, false},
		{"an empty list", []impl.Node{{Kids: []int64{}}}, true},
	} {
		tree := impl.Tree{Nodes: c.nodes}
		if impl.TreeOk(tree) != c.right || (impl.WriteTree(tree) != "") != c.right || (impl.DepthOf(tree) >= 0) != c.right {
			t.Errorf("%s: told the other way round", c.what)
		}
	}
	for _, place := range farPlaces {
		for _, kids := range [][]int64{{place}, {1, place}, {place, 1}} {
			checkTree(t, impl.Tree{Nodes: []impl.Node{{Kids: kids}, atomA}})
		}
	}
}

func TestTreeOkOfEveryByte(t *testing.T) {
	for c := range 256 {
		for _, text := range []string{string([]byte{byte(c)}), string([]byte{'a', byte(c)}), string([]byte{byte(c), 'a'}), string([]byte{'a', byte(c), 'a'})} {
			for _, tree := range []impl.Tree{{Nodes: []impl.Node{{Text: text}}}, {Nodes: []impl.Node{{Kids: []int64{1, 2}}, {Text: "a"}, {Text: text}}}} {
				if impl.TreeOk(tree) != wordByte(byte(c)) || (impl.WriteTree(tree) != "") != wordByte(byte(c)) || (impl.DepthOf(tree) >= 0) != wordByte(byte(c)) {
					t.Fatalf("byte %d in the text %q", c, text)
				}
			}
		}
	}
}

func TestTreesAtTheirLimits(t *testing.T) {
	checkShape(t, list(atoms(1998, "a")...))
	checkShape(t, list(atoms(1999, "a")...))
	checkWrongShape(t, list(atoms(2000, "a")...))
	checkWrongShape(t, list(atoms(2500, "a")...))
	checkWrongShape(t, list(list(atoms(1000, "a")...), list(atoms(998, "a")...)))
	checkShape(t, list(list(atoms(1000, "a")...), list(atoms(997, "a")...)))
	checkShape(t, within(99, atom("a")))
	checkShape(t, within(100, atom("a")))
	checkWrongShape(t, within(101, atom("a")))
	checkShape(t, within(100, list()))
	checkWrongShape(t, within(101, list()))
	checkShape(t, list(atom("a"), within(99, list()), within(99, atom("b")), atom("c")))
	checkWrongShape(t, list(atom("a"), within(100, list()), atom("c")))
	checkWrongShape(t, list(within(99, atom("b")), within(100, atom("b"))))
}

func TestWriteTreeAtItsLimit(t *testing.T) {
	for _, length := range []int{19999, 20000, 20001, 40000} {
		long := strings.Repeat("a", length)
		checkShape(t, atom(long))
		checkShape(t, list(atom(long[:length-2])))
		checkShape(t, list(atom("b"), atom(long[:length-4])))
		checkShape(t, list(list(), atom(long[:length-9]), list(list())))
		checkShape(t, within(100, atom(long[:length-200])))
		many := atoms(1999, "abcdefghi")
		many[700].text = long[:length-19982]
		if length < 40000 {
			checkShape(t, list(many...))
		}
	}
}

func TestDepthOf(t *testing.T) {
	for _, c := range []struct {
		text  string
		depth int64
	}{{"a", 0}, {"()", 1}, {"(a)", 1}, {"(a b c)", 1}, {"(())", 2}, {"(a (b) c)", 2}, {"((a) b)", 2}, {"(() () ())", 2}, {"(a (b (c)) (d))", 3}, {"((((a))) b)", 4}} {
		tree, code, _ := impl.ReadTree(c.text)
		if got := impl.DepthOf(tree); code != 0 || got != c.depth {
			t.Errorf("%s: %d", c.text, got)
		}
	}
	for _, n := range []int{1, 50, 99, 100} {
		if got := impl.DepthOf(treeOfShape(within(n, atom("a")))); got != int64(n) {
			t.Errorf("%d lists around: %d", n, got)
		}
		if got := impl.DepthOf(treeOfShape(within(n, list()))); got != int64(n)+1 {
			t.Errorf("%d lists around an empty one: %d", n, got)
		}
	}
	if got := impl.DepthOf(impl.Tree{}); got != -1 {
		t.Errorf("no tree: %d", got)
	}
}

// treeWithSpare has nodes and Kids behind its own that no call may touch.
func treeWithSpare(s shape) impl.Tree {
	tree := treeOfShape(s)
	for i := range tree.Nodes {
		kids := tree.Nodes[i].Kids
		tree.Nodes[i].Kids = append(slices.Clip(kids), -7, -7)[:len(kids)]
	}
	n := len(tree.Nodes)
	tree.Nodes = append(slices.Clip(tree.Nodes), impl.Node{Text: "spare"}, impl.Node{Text: "spare"})[:n]
	return tree
}

func TestTreesAreNotWrittenInto(t *testing.T) {
	d := dice{state: 5}
	for range 200 {
		s := list(thrownShape(&d, 30), thrownShape(&d, 30))
		tree := treeWithSpare(s)
		impl.TreeOk(tree)
		impl.WriteTree(tree)
		impl.DepthOf(tree)
		if !sameTree(tree, treeOfShape(s)) || tree.Nodes[:cap(tree.Nodes)][len(tree.Nodes)].Text != "spare" {
			t.Fatal("a tree is written into")
		}
		for _, node := range tree.Nodes {
			if spare := node.Kids[len(node.Kids) : len(node.Kids)+2]; spare[0] != -7 || spare[1] != -7 {
				t.Fatal("the spare room behind Kids is written into")
			}
		}
	}
}

func TestReadTreesAreNewMemory(t *testing.T) {
	text := "(a (b c) () (d (e f) g) h)"
	whole, _, _ := impl.ReadTree(text)
	for spoiled := range whole.Nodes {
		tree, _, _ := impl.ReadTree(text)
		other, _, _ := impl.ReadTree(text)
		kids := tree.Nodes[spoiled].Kids
		kids = kids[:cap(kids)]
		for i := range kids {
			kids[i] = -9
		}
		tree.Nodes[spoiled].Kids = whole.Nodes[spoiled].Kids
		if !sameTree(tree, whole) || !sameTree(other, whole) {
			t.Fatalf("the Kids of the node %d share memory", spoiled)
		}
	}
}
