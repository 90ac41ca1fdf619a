package impl

import "strings"

const (
	MaxNodes = 2000
	MaxDeep  = 100
	MaxText  = 20000
	TrLong   = 1
	TrByte   = 2
	TrClose  = 3
	TrMore   = 4
	TrDeep   = 5
	TrMany   = 6
	TrOpen   = 7
	TrNone   = 8
)

type Node struct {
	Text string
	Kids []int64
}

type Tree struct {
	Nodes []Node
}

func TreeOk(t Tree) bool { return DepthOf(t) >= 0 }

func ReadTree(text string) (Tree, int64, int64) {
	if len(text) > MaxText {
		return Tree{}, TrLong, 0
	}
	s := scanner{text: text}
	code, at := s.scan()
	if code != 0 {
		return Tree{}, code, int64(at)
	}
	return Tree{Nodes: s.nodes}, 0, 0
}

func WriteTree(t Tree) string {
	if !TreeOk(t) || writtenLength(t) > MaxText {
		return ""
	}
	var text strings.Builder
	writeNode(&text, t, 0)
	return text.String()
}

// DepthOf goes through the nodes as they stand: in a right tree each one is
// the next Kid of the innermost list that still lacks one.
func DepthOf(t Tree) int64 {
	if len(t.Nodes) < 1 || len(t.Nodes) > MaxNodes {
		return -1
	}
	var around stack[openList]
	deepest := 0
	for place, node := range t.Nodes {
		if place > 0 && !takeKid(&around, int64(place)) {
			return -1
		}
		if around.size() > MaxDeep || !nodeOk(node) {
			return -1
		}
		if node.Text == "" {
			around.push(openList{kids: node.Kids})
		}
		deepest = max(deepest, around.size())
	}
	dropFull(&around)
	if around.size() > 0 {
		return -1
	}
	return int64(deepest)
}

type stack[T any] struct {
	items []T
}

func (s *stack[T]) size() int { return len(s.items) }

func (s *stack[T]) push(item T) { s.items = append(s.items, item) }

func (s *stack[T]) top() *T { return &s.items[len(s.items)-1] }

func (s *stack[T]) pop() { s.items = s.items[:len(s.items)-1] }

// openList is a list of which the first met Kids have stood by now.
type openList struct {
	kids []int64
	met  int
}

// dropFull is put off until a node is behind them, as a list is still around its last Kid.
func dropFull(around *stack[openList]) {
	for around.size() > 0 && around.top().met == len(around.top().kids) {
		around.pop()
	}
}

func takeKid(around *stack[openList], place int64) bool {
	dropFull(around)
	if around.size() == 0 {
		return false
	}
	list := around.top()
	if list.kids[list.met] != place {
		return false
	}
	list.met++
	return true
}

func nodeOk(node Node) bool {
	if node.Text != "" && len(node.Kids) > 0 {
		return false
	}
	return atomEnd(node.Text, 0) == len(node.Text)
}

// writtenLength is told ahead of writing, as a single Text may be of any length.
func writtenLength(t Tree) int {
	length := 0
	for _, node := range t.Nodes {
		length += len(node.Text)
		if node.Text == "" {
			length += len("()") + max(0, len(node.Kids)-1)
		}
	}
	return length
}

func writeNode(text *strings.Builder, t Tree, place int64) {
	node := t.Nodes[place]
	if node.Text != "" {
		text.WriteString(node.Text)
		return
	}
	text.WriteByte('(')
	for i, kid := range node.Kids {
		if i > 0 {
			text.WriteByte(' ')
		}
		writeNode(text, t, kid)
	}
	text.WriteByte(')')
}

type scanner struct {
	text  string
	nodes []Node
	open  stack[int64]
}

// scan tells the first fault and its place. Each step ends at the byte that
// it does not understand, so that faults are met from the left.
func (s *scanner) scan() (int64, int) {
	at, code := 0, int64(0)
scan:
	for at < len(s.text) {
		switch c := s.text[at]; {
		case c == ' ' || c == '\n':
			at++
		case c == ';':
			at = commentEnd(s.text, at)
		case c == ')':
			if s.open.size() == 0 {
				code = TrClose
				break scan
			}
			s.open.pop()
			at++
		case c == '(' || atomByte(c):
			code = s.beginFault()
			if code != 0 {
				break scan
			}
			at = s.begin(at)
		default:
			code = TrByte
			break scan
		}
	}
	if code == 0 {
		code = s.endFault()
	}
	return code, at
}

func (s *scanner) beginFault() int64 {
	switch {
	case s.open.size() == 0 && len(s.nodes) > 0:
		return TrMore
	case s.open.size() > MaxDeep:
		return TrDeep
	case len(s.nodes) == MaxNodes:
		return TrMany
	}
	return 0
}

func (s *scanner) endFault() int64 {
	switch {
	case s.open.size() > 0:
		return TrOpen
	case len(s.nodes) == 0:
		return TrNone
	}
	return 0
}

// begin puts the node that begins at a place behind the others, and tells where to go on.
func (s *scanner) begin(at int) int {
	place := int64(len(s.nodes))
	if s.open.size() > 0 {
		list := &s.nodes[*s.open.top()]
		list.Kids = append(list.Kids, place)
	}
	if s.text[at] == '(' {
		s.nodes = append(s.nodes, Node{})
		s.open.push(place)
		return at + 1
	}
	end := atomEnd(s.text, at)
	// A copy, as an answer shares no memory with an argument.
	s.nodes = append(s.nodes, Node{Text: strings.Clone(s.text[at:end])})
	return end
}

func atomByte(c byte) bool {
	return c > ' ' && c <= '~' && c != '(' && c != ')' && c != ';'
}

func atomEnd(text string, at int) int {
	for at < len(text) && atomByte(text[at]) {
		at++
	}
	return at
}

// commentEnd stops at a byte that may not stand in a text, too: that is told as anywhere else.
func commentEnd(text string, at int) int {
	for at < len(text) && text[at] >= ' ' && text[at] <= '~' {
		at++
	}
	return at
}
