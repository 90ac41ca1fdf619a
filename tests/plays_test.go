package tests

import (
	"bytes"
	"fmt"
	"regexp"
	"slices"
	"strconv"
	"strings"

	"loop.example/g00081/impl"
)

// A play is the test's own picture of a script: a desk, the rows of the last
// check that said sat, and for each line what the chapter's table says, by the
// pictures of all that it stands on.

type play struct {
	on   desk
	rows []string
	sat  bool
}

// lineForms are the lines of the table: what stands behind the first word.
var lineForms = map[string]string{
	"declare": "NAME N", "equal": "T T", "unlike": "T T", "push": "", "pop": "", "check": "N", "value": "T", "same": "T T",
	"forced": "T", "core": "N", "slices": "", "free": "", "normal": "T", "save": "", "back": "",
}

// changing lines are those that change the session where they have no code.
var changing = []string{"declare", "equal", "unlike", "push", "pop"}

var decimalForm = regexp.MustCompile(`^(0|[1-9][0-9]{0,5}|1000000)$`)

// linesByPicture are those that count; false of a text that is too long.
func linesByPicture(text string) ([]string, bool) {
	var lines []string
	from := 0
	for at := range len(text) {
		if text[at] != 10 {
			continue
		}
		if line := text[from:at]; strings.Count(line, " ") < len(line) {
			lines = append(lines, line)
		}
		from = at + 1
	}
	return lines, from == len(text) && len(text) <= 20000 && len(lines) <= 60
}

func playedByPicture(text string) string {
	lines, ok := linesByPicture(text)
	if !ok {
		return "too long\n"
	}
	p := play{on: newDesk()}
	out := ""
	for _, line := range lines {
		out += p.line(line) + "\n"
	}
	return out
}

// formOfLine tells the first word and the texts behind it; false where the line is none of the table's.
func formOfLine(text string) (string, []string, bool) {
	tree, code, _ := readByDefinition(text)
	if code != 0 || len(tree.Nodes[0].Kids) == 0 {
		return "", nil, false
	}
	kids := tree.Nodes[0].Kids
	word := tree.Nodes[kids[0]].Text
	form, known := lineForms[word]
	parts := strings.Fields(form)
	if !known || len(parts) != len(kids)-1 {
		return "", nil, false
	}
	var words []string
	for i, kid := range kids[1:] {
		text := tree.Nodes[kid].Text
		if parts[i] == "NAME" && !nameByDefinition(text) || parts[i] == "N" && !decimalForm.MatchString(text) {
			return "", nil, false
		}
		words = append(words, textOfPlace(tree, kid))
	}
	return word, words, true
}

func textOfPlace(tree impl.Tree, place int64) string {
	if tree.Nodes[place].Text != "" {
		return tree.Nodes[place].Text
	}
	var texts []string
	for _, kid := range tree.Nodes[place].Kids {
		texts = append(texts, textOfPlace(tree, kid))
	}
	return "(" + strings.Join(texts, " ") + ")"
}

func (p *play) line(text string) string {
	word, words, ok := formOfLine(text)
	switch {
	case !ok:
		return "what"
	case slices.Contains(changing, word):
		return p.change(word, words)
	case lineForms[word] == "N":
		most, _ := strconv.ParseInt(words[0], 10, 64)
		return p.settle(word, most)
	case lineForms[word] == "":
		return p.tell(word)
	}
	return p.ask(word, words)
}

func (p *play) change(word string, words []string) string {
	m := move{kind: word}
	switch word {
	case "declare":
		m.name = words[0]
		m.width, _ = strconv.ParseInt(words[1], 10, 64)
	case "equal", "unlike":
		m.left, m.right = words[0], words[1]
	}
	after, id, code := m.on(p.on)
	if code != impl.SsOk {
		return fmt.Sprint("code ", code)
	}
	*p = play{on: after}
	switch word {
	case "declare":
		return "ok"
	case "equal", "unlike":
		return fmt.Sprint("id ", id)
	}
	return fmt.Sprint("scopes ", len(after.layers))
}

// formless tells whether a side has no flat form.
func (p *play) formless() bool {
	decls := p.on.decls()
	return slices.ContainsFunc(p.on.literals(), func(l impl.Literal) bool {
		return formByTable(decls, l.S) == nil || formByTable(decls, l.T) == nil
	})
}

// settle is what check and core say.
func (p *play) settle(word string, most int64) string {
	decls, list := p.on.decls(), p.on.literals()
	if most > 20000 || p.formless() {
		return "bad"
	}
	if word == "core" {
		ids, code, _ := coreByPicture(decls, list, most)
		return strings.Replace(coreText(ids, code), "unsat", "core", 1)
	}
	r, _ := checkByPicture(decls, list, most)
	if r.Code == impl.CkLarge {
		return "large"
	}
	if r.Code == impl.CkSat {
		p.rows, p.sat = rowsOfValues(r.Values), true
	}
	return fmt.Sprint(codeNames[r.Code], " ", r.Visits)
}

// tell is what the lines of one word say that only ask.
func (p *play) tell(word string) string {
	decls, list := p.on.decls(), p.on.literals()
	data := tapeOf(p.on.session())
	if len(data) > 60000 {
		data = nil
	}
	switch word {
	case "slices":
		if p.formless() {
			return "bad"
		}
		m, _ := noMarks(decls).closed(decls, list)
		return fmt.Sprint("slices ", len(m.slices()))
	case "free":
		if p.formless() {
			return "free -1"
		}
		return fmt.Sprint("free ", freeByPicture(decls, list))
	case "save":
		return fmt.Sprint("saved ", len(data))
	}
	if back, code := loadedByPicture(data); code != 0 || !bytes.Equal(tapeOf(back), data) {
		return "lost"
	}
	return "same"
}

// ask is what the lines with terms say that only ask.
func (p *play) ask(word string, words []string) string {
	decls := p.on.decls()
	var terms []impl.Term
	formless := p.formless()
	for _, text := range words {
		x, code, _ := readTermByDefinition(decls, text)
		switch {
		case code != 0 && word == "value":
			return "none"
		case code != 0:
			return "bad"
		}
		terms = append(terms, x)
		formless = formless || formByTable(decls, x) == nil
	}
	switch {
	case word == "normal":
		return normalByPicture(decls, terms[0])
	case word == "value" && !p.sat:
		return "none"
	case word == "value":
		return textOfRow(lastOf(rowsByTable(p.rows, terms[0])))
	case formless:
		return "bad"
	}
	return p.follows(terms)
}

func normalByPicture(decls []impl.Decl, x impl.Term) string {
	form := formByTable(decls, x)
	if form == nil {
		return "bad"
	}
	normal := termOfForm(decls, form)
	if len(normal.Nodes) > 400 {
		return "bad"
	}
	if text := textByTable(decls, normal); text != "" {
		return text
	}
	return "bad"
}

// follows is what same says of two terms, and forced of one.
func (p *play) follows(terms []impl.Term) string {
	decls := p.on.decls()
	eqs := equalitiesOf(p.on.literals(), nil)
	s, u := terms[0], lastOf(terms)
	switch {
	case lastOf(widthsByTable(decls, s)) != lastOf(widthsByTable(decls, u)):
		return "bad"
	case hasClash(decls, eqs):
		return "clash"
	case len(terms) == 2 && sameByPicture(decls, eqs, s, u):
		return "yes"
	case len(terms) == 2:
		return "no"
	}
	row := forcedByPicture(decls, eqs, s)
	mask := strings.NewReplacer("0", "1", ".", "0").Replace(row)
	return textOfRow(mask) + " " + textOfRow(strings.ReplaceAll(row, ".", "0"))
}
