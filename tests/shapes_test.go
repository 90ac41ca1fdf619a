package tests

import (
	"math"
	"slices"
	"strings"
	"testing"

	"loop.example/g00081/impl"
)

// A shape is the test's own picture of a tree: an atom with a text, or a list.
type shape struct {
	text string
	kids []shape
}

func atom(text string) shape { return shape{text: text} }

func list(kids ...shape) shape { return shape{kids: kids} }

// atoms are so many of the same text.
func atoms(count int, text string) []shape {
	out := make([]shape, count)
	for i := range out {
		out[i].text = text
	}
	return out
}

// within is a shape with so many lists around it.
func within(count int, s shape) shape {
	for range count {
		s = list(s)
	}
	return s
}

func treeOfShape(s shape) impl.Tree {
	var nodes []impl.Node
	addShape(&nodes, s)
	return impl.Tree{Nodes: nodes}
}

func addShape(nodes *[]impl.Node, s shape) int64 {
	place := len(*nodes)
	*nodes = append(*nodes, impl.Node{Text: s.text})
	for _, kid := range s.kids {
		at := addShape(nodes, kid)
		(*nodes)[place].Kids = append((*nodes)[place].Kids, at)
	}
	return int64(place)
}

func textOfShape(s shape) string {
	if s.text != "" {
		return s.text
	}
	var texts []string
	for _, kid := range s.kids {
		texts = append(texts, textOfShape(kid))
	}
	return "(" + strings.Join(texts, " ") + ")"
}

func depthOfShape(s shape) int64 {
	if s.text != "" {
		return 0
	}
	deepest := int64(0)
	for _, kid := range s.kids {
		deepest = max(deepest, depthOfShape(kid))
	}
	return deepest + 1
}

// thrownShape has at most so many nodes.
func thrownShape(d *dice, most int) shape {
	if most < 2 || d.below(4) == 0 {
		return atom([]string{"a", "bc", "#x0f", "!", "~", "'", "*+,", "[]{}", "\"", "0", "a:b<=>"}[d.below(11)])
	}
	s, left := shape{}, most-1
	for left > 0 && d.below(5) > 0 {
		part := 1 + d.below(left)
		s.kids = append(s.kids, thrownShape(d, part))
		left -= part
	}
	return s
}

func treeCopy(t impl.Tree) impl.Tree {
	var out impl.Tree
	for _, node := range t.Nodes {
		out.Nodes = append(out.Nodes, impl.Node{Text: node.Text, Kids: slices.Clone(node.Kids)})
	}
	return out
}

func sameTree(a, b impl.Tree) bool {
	return slices.EqualFunc(a.Nodes, b.Nodes, func(x, y impl.Node) bool {
		return x.Text == y.Text && slices.Equal(x.Kids, y.Kids)
	})
}

func wordByte(c byte) bool { return c >= 33 && c <= 126 && c != 40 && c != 41 && c != 59 }

// rightByDefinition holds a tree against the document's words, one by one.
func rightByDefinition(t impl.Tree) bool {
	if len(t.Nodes) < 1 || len(t.Nodes) > 2000 {
		return false
	}
	parents := make([]int, len(t.Nodes))
	for _, node := range t.Nodes {
		if node.Text != "" && len(node.Kids) > 0 {
			return false
		}
		for i := range len(node.Text) {
			if !wordByte(node.Text[i]) {
				return false
			}
		}
		for _, kid := range node.Kids {
			if kid < 0 || kid >= int64(len(t.Nodes)) {
				return false
			}
			parents[kid]++
		}
	}
	for place, count := range parents {
		if place == 0 && count != 0 || place > 0 && count != 1 {
			return false
		}
	}
	met, deep := meet(t, nil, 0, 0)
	for i, place := range met {
		if int64(i) != place {
			return false
		}
	}
	return len(met) == len(t.Nodes) && deep <= 100
}

// meet is asked only where each node is a Kid of one at most, and 0 of none.
func meet(t impl.Tree, met []int64, place int64, around int) ([]int64, int) {
	met = append(met, place)
	deep := around
	for _, kid := range t.Nodes[place].Kids {
		var below int
		met, below = meet(t, met, kid, around+1)
		deep = max(deep, below)
	}
	return met, deep
}

func checkTree(t *testing.T, tree impl.Tree) {
	t.Helper()
	want := rightByDefinition(tree)
	if impl.TreeOk(tree) != want {
		t.Fatalf("told %v of %v", !want, tree)
	}
	if !want {
		if text, depth := impl.WriteTree(tree), impl.DepthOf(tree); text != "" || depth != -1 {
			t.Fatalf("text %q and depth %d of a wrong tree %v", text, depth, tree)
		}
	}
}

func checkShape(t *testing.T, s shape) {
	t.Helper()
	tree, text := treeOfShape(s), textOfShape(s)
	if !impl.TreeOk(tree) {
		t.Fatalf("the tree of %s is right", short(text))
	}
	if got := impl.DepthOf(tree); got != depthOfShape(s) {
		t.Fatalf("depth %d of %s, want %d", got, short(text), depthOfShape(s))
	}
	if len(text) > 20000 {
		text = ""
	}
	if got := impl.WriteTree(tree); got != text {
		t.Fatalf("written %q, want %q", short(got), short(text))
	}
	if text == "" {
		return
	}
	back, code, at := impl.ReadTree(text)
	if code != 0 || at != 0 || !sameTree(back, tree) {
		t.Fatalf("%s is read as %v, %d, %d", short(text), back, code, at)
	}
}

func checkWrongShape(t *testing.T, s shape) {
	t.Helper()
	tree := treeOfShape(s)
	if impl.TreeOk(tree) || impl.WriteTree(tree) != "" || impl.DepthOf(tree) != -1 {
		t.Fatalf("the tree of %s is not right", short(textOfShape(s)))
	}
}

var farPlaces = []int64{math.MinInt64, math.MinInt64 + 1, -1 << 32, -2, -1, 1 << 32, 1<<32 + 1, math.MaxInt64 - 1, math.MaxInt64}
