package parse

import (
	"strconv"
	"strings"

	"riposte/api"
	"riposte/lex"
)

// sheet is a tree that is printed, and the tokens that have been printed so far.
type sheet struct {
	api.Tree
	forms  grammar
	tokens []api.Token
}

// textOf returns the text of a node of a right tree.
func textOf(t api.Tree, n int) (string, api.Errno) {
	if t.Nodes[n].Kind != api.ProgramNode {
		s := sheet{Tree: t, forms: grammar{}}
		s.node(n)
		return lex.Tight(s.tokens)
	}
	var b strings.Builder
	for item := range kidsOf(t.Nodes, n) {
		text, e := textOf(t, item)
		if e != api.OK {
			return "", e
		}
		b.WriteString(text)
		b.WriteByte('\n')
	}
	if b.Len() > api.MaxText {
		return "", api.ErrLimit
	}
	return b.String(), api.OK
}

// add prints a token.
func (s *sheet) add(kind uint8, text string) {
	s.tokens = append(s.tokens, api.Token{Kind: kind, Text: text})
}

// fixed prints keywords and signs.
func (s *sheet) fixed(texts ...string) {
	for _, text := range texts {
		kind := api.TokSign
		if 'a' <= text[0] && text[0] <= 'z' {
			kind = api.TokWord
		}
		s.add(kind, text)
	}
}

// node prints a node, without brackets around it.
func (s *sheet) node(n int) {
	if short := shortType(s.Nodes[n]); short != "" {
		s.fixed(short)
		return
	}
	for w := range s.forms.of(s.Nodes[n].Kind).deal(kidList(s.Nodes, n)) {
		switch w.role {
		case token:
			s.fixed(w.text)
		case field:
			s.field(s.Nodes[n], w.text)
		default:
			s.kids(w)
		}
	}
}

// shortType returns the keyword that is shorter than a type as its rule says it, if there is one.
func shortType(x api.TreeNode) string {
	if x.Kind == api.IntType && x.N == 1 {
		return "com"
	}
	if x.Kind == api.IntType && x.N == 2 {
		return "bool"
	}
	return ""
}

// field prints a field of a node.
func (s *sheet) field(x api.TreeNode, name string) {
	switch name {
	case "Text":
		s.add(api.TokName, x.Text)
	case "N":
		s.add(api.TokNumber, strconv.Itoa(x.N))
	case "M":
		s.add(api.TokNumber, strconv.Itoa(x.M))
	}
}

// kids prints the kids for which a word stands, with brackets around those that are looser than what the word asks for.
func (s *sheet) kids(w word) {
	for i, k := range w.kids {
		if i > 0 {
			s.fixed(w.between)
		}
		if s.forms.of(s.Nodes[k].Kind).level < w.level {
			s.fixed("(")
			s.node(k)
			s.fixed(")")
		} else {
			s.node(k)
		}
	}
}
