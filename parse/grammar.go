package parse

import (
	"iter"
	"slices"
	"strings"

	"riposte/api"
)

// rule is what the grammar makes by it, and the words of this, with blanks between them:
//   - small letters or signs are a token;
//   - Text, N and M are fields of the node;
//   - others in capital letters are what the grammar makes of a kid;
//   - such a one with + or * behind it is a list of kids, one or more of them, or none or more. What stands between two of them is in front of the + or *.
//
// A rule has one list at most, in front of all other kids.
type rule struct{ makes, words string }

// rules returns the rule of each kind of nodes.
func rules() [api.BindNode + 1]rule {
	return [...]rule{
		api.ProgramNode: {"Program", "Item*"},
		api.ImportItem:  {"Item", "import Text : Type ;"},
		api.DefItem:     {"Item", "def Text ( Param,* ) : Base = Term ;"},
		api.ExportItem:  {"Item", "export Text ( Param,* ) : Base = Term ;"},
		api.ParamNode:   {"Param", "Text : Type"},
		api.IntType:     {"Base", "int N"},
		api.CellType:    {"Base", "cell N"},
		api.ArrowType:   {"Type", "( Base,+ ) -> Base"},
		api.SeqNode:     {"Term", "First;+ ; First"},
		api.IfNode:      {"First", "if First then First else First"},
		api.WhileNode:   {"First", "while First do First"},
		api.NewNode:     {"First", "new Text : N := M in First"},
		api.LabelNode:   {"First", "label Text in First else First"},
		api.NoticeNode:  {"First", "notice Text := N in First"},
		api.ChooseNode:  {"First", "choose First else First"},
		api.PutNode:     {"First", "Text := First"},
		api.OrNode:      {"Or", "Or or And"},
		api.AndNode:     {"And", "And and Not"},
		api.NotNode:     {"Not", "not Not"},
		api.EqNode:      {"Test", "Sum = Sum"},
		api.LessNode:    {"Test", "Sum < Sum"},
		api.AddNode:     {"Sum", "Sum + Product"},
		api.SubNode:     {"Sum", "Sum - Product"},
		api.MulNode:     {"Product", "Product * Cast"},
		api.AsNode:      {"Cast", "Cast as N"},
		api.NumNode:     {"Atom", "N"},
		api.TrueNode:    {"Atom", "true"},
		api.FalseNode:   {"Atom", "false"},
		api.SkipNode:    {"Atom", "skip"},
		api.HangNode:    {"Atom", "hang"},
		api.JumpNode:    {"Atom", "jump Text"},
		api.GetNode:     {"Atom", "! Text"},
		api.NameNode:    {"Atom", "Text"},
		api.CallNode:    {"Atom", "Text ( Arg,+ )"},
		api.FnNode:      {"Arg", "fn ( Bind,+ ) First"},
		api.ObjectNode:  {"Arg", "{ get First ; put Bind . First }"},
		api.BindNode:    {"Bind", "Text"},
	}
}

// role is what a word of a rule stands for.
type role uint8

const (
	token role = iota
	field
	kid
	list
)

// word is a word of a rule, and the kids of a node for which it stands.
type word struct {
	role    role
	text    string // the token, the field, or what the grammar makes of the kids
	level   int    // that of the kids
	between string // what stands between the kids of a list
	perhaps bool   // the list may have none
	kids    []int
}

// wordOf takes a word of a rule apart.
func wordOf(s string) word {
	name := strings.TrimRight(s, ",;+*")
	switch {
	case s[0] < 'A' || s[0] > 'Z':
		return word{role: token, text: s}
	case s == "Text" || s == "N" || s == "M":
		return word{role: field, text: s}
	case s == name:
		return word{role: kid, text: s, level: level(s)}
	}
	last := len(s) - 1
	return word{role: list, text: name, level: level(name), between: s[len(name):last], perhaps: s[last] == '*'}
}

// isFull tells whether a word stands for as many kids as it must.
func (w word) isFull() bool {
	switch w.role {
	case kid:
		return len(w.kids) == 1
	case list:
		return w.perhaps || len(w.kids) > 0
	}
	return true
}

// form is a rule that is taken apart.
type form struct {
	makes  string
	level  int
	words  []word
	single int // how many words stand for one kid
}

// formOf returns the form of a kind; of one that there is not, a form that makes nothing.
func formOf(kind uint8) form {
	if kind > api.BindNode {
		return form{level: level("")}
	}
	r := rules()[kind]
	f := form{makes: r.makes, level: level(r.makes)}
	for _, s := range strings.Fields(r.words) {
		w := wordOf(s)
		f.words = append(f.words, w)
		if w.role == kid {
			f.single++
		}
	}
	return f
}

// level tells how tight the terms are that the grammar makes: a tighter one stands without brackets wherever a looser one can. It is below 0 of what is no term.
func level(makes string) int {
	return slices.Index([]string{"Term", "First", "Or", "And", "Not", "Test", "Sum", "Product", "Cast", "Atom"}, makes)
}

// canBe tells whether what the grammar makes can stand for a word, with brackets if need be.
func (f form) canBe(w word) bool {
	switch {
	case f.makes == w.text:
		return true
	case w.text == "Type":
		return f.makes == "Base"
	case w.text == "Arg":
		return f.level >= 0
	}
	return f.level >= 0 && w.level >= 0
}

// has tells whether the nodes of a form have a field.
func (f form) has(name string) bool {
	return slices.ContainsFunc(f.words, func(w word) bool { return w.role == field && w.text == name })
}

// deal yields the words of a form, each with the kids for which it stands: a list has all that no other word needs. If there are too few some words are not full; if there are too many the last ones are left over.
func (f form) deal(kids []int) iter.Seq[word] {
	return func(yield func(word) bool) {
		left := kids
		for _, w := range f.words {
			n := 0
			switch w.role {
			case kid:
				n = min(1, len(left))
			case list:
				n = max(0, len(left)-f.single)
			}
			w.kids, left = left[:n], left[n:]
			if !yield(w) {
				return
			}
		}
	}
}

// grammar has the forms of kinds, each from when it was asked for.
type grammar map[uint8]form

// of returns the form of a kind.
func (g grammar) of(kind uint8) form {
	f, ok := g[kind]
	if !ok {
		f = formOf(kind)
		g[kind] = f
	}
	return f
}
