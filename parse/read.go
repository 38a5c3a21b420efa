package parse

import (
	"slices"
	"strconv"

	"riposte/api"
	"riposte/lex"
)

// knot is a node that is read, with its kids. Its Size is not known before all is read.
type knot struct {
	api.TreeNode
	kids []knot
}

// knotAt returns a knot of a kind, whose place is that of a token.
func knotAt(kind uint8, t api.Token, kids ...knot) knot {
	return knot{TreeNode: api.TreeNode{Kind: kind, At: t.At}, kids: kids}
}

// appendTo puts the nodes of a knot behind others.
func (k knot) appendTo(l []api.TreeNode) []api.TreeNode {
	n := len(l)
	l = append(l, k.TreeNode)
	for _, x := range k.kids {
		l = x.appendTo(l)
	}
	l[n].Size = len(l) - n
	return l
}

// treeOf returns the tree of items.
func treeOf(items []knot) (api.Tree, api.Errno) {
	t := api.Tree{Nodes: knotAt(api.ProgramNode, api.Token{}, items...).appendTo(nil)}
	if e := Check(t); e != api.OK {
		return api.Tree{}, e
	}
	return t, api.OK
}

// stray is the place at which a text does not go on as the grammar says.
type stray int

// reader reads the tokens of a text.
type reader struct {
	tokens []api.Token
	next   int // the number of the token that comes next
	end    int // the place where the text ends
	firsts map[string]func(*reader) knot
	kinds  map[string]uint8
}

// readText reads the items of a text, with the faults of those that do not go on. The error is that of the tokens, and where it is.
func readText(s string) ([]knot, []api.Fault, int, api.Errno) {
	l, at, e := lex.Tokens(s)
	if e != api.OK {
		return nil, nil, at, e
	}
	r := reader{tokens: l, end: len(s), firsts: firsts(), kinds: kinds()}
	items, faults := r.items()
	return items, faults, 0, api.OK
}

// items reads one item after the other. What does not go on at its first token does not begin with the keyword of an item, so that this token is left out in any case.
func (r *reader) items() ([]knot, []api.Fault) {
	var items []knot
	var faults []api.Fault
	for r.next < len(r.tokens) {
		k, at, ok := attempt(r.item)
		if ok {
			items = append(items, k)
			continue
		}
		faults = append(faults, api.Fault{At: at, E: api.ErrForm})
		r.skipToItem()
	}
	return items, faults
}

// skipToItem leaves out all tokens before the next one with which an item can begin.
func (r *reader) skipToItem() {
	for r.next < len(r.tokens) && !beginsItem(r.ahead(0)) {
		r.next++
	}
}

// attempt reads a part of a text, or returns the place where it does not go on.
func attempt(part func() knot) (k knot, at int, ok bool) {
	defer func() {
		switch x := recover().(type) {
		case nil:
		case stray:
			at = int(x)
		}
	}()
	k = part()
	return k, 0, true
}

// ahead returns one of the tokens that come next; behind the last one there are tokens of no kind.
func (r *reader) ahead(n int) api.Token {
	if r.next+n < len(r.tokens) {
		return r.tokens[r.next+n]
	}
	return api.Token{At: r.end}
}

// sees tells whether one of some keywords and signs comes next.
func (r *reader) sees(signs ...string) bool {
	return slices.Contains(signs, r.ahead(0).Text)
}

// takeIf takes the next token if it is as it must be; otherwise the text does not go on.
func (r *reader) takeIf(ok bool) api.Token {
	t := r.ahead(0)
	if !ok {
		panic(stray(t.At))
	}
	r.next++
	return t
}

// take takes one of some keywords and signs.
func (r *reader) take(signs ...string) api.Token { return r.takeIf(r.sees(signs...)) }

// name takes a name.
func (r *reader) name() api.Token { return r.takeIf(r.ahead(0).Kind == api.TokName) }

// number takes a number.
func (r *reader) number() int {
	t := r.takeIf(r.ahead(0).Kind == api.TokNumber)
	// Tokens has looked at the number already.
	n, _ := strconv.Atoi(t.Text)
	return n
}

// list reads parts with commas between them, one at least.
func (r *reader) list(part func() knot) []knot {
	l := []knot{part()}
	for r.sees(",") {
		r.take(",")
		l = append(l, part())
	}
	return l
}

// named reads a name as a knot.
func (r *reader) named(kind uint8) knot {
	t := r.name()
	k := knotAt(kind, t)
	k.Text = t.Text
	return k
}

// headed reads a name behind a keyword or sign, at whose place the knot is.
func (r *reader) headed(kind uint8, sign string) knot {
	t := r.take(sign)
	k := r.named(kind)
	k.At = t.At
	return k
}

// beginsItem tells whether an item can begin with a token.
func beginsItem(t api.Token) bool {
	return slices.Contains([]string{"import", "def", "export"}, t.Text)
}

// item reads an item.
func (r *reader) item() knot {
	if r.sees("import") {
		k := r.headed(api.ImportItem, "import")
		r.take(":")
		k.kids = []knot{r.anyType()}
		r.take(";")
		return k
	}
	if r.sees("def") {
		return r.definition(r.headed(api.DefItem, "def"))
	}
	return r.definition(r.headed(api.ExportItem, "export"))
}

// definition reads what stands behind the name of a def or an export.
func (r *reader) definition(k knot) knot {
	r.take("(")
	if !r.sees(")") {
		k.kids = r.list(r.param)
	}
	r.take(")")
	r.take(":")
	k.kids = append(k.kids, r.base())
	r.take("=")
	k.kids = append(k.kids, r.term())
	r.take(";")
	return k
}

// param reads a param.
func (r *reader) param() knot {
	k := r.named(api.ParamNode)
	r.take(":")
	k.kids = []knot{r.anyType()}
	return k
}

// anyType reads a type.
func (r *reader) anyType() knot {
	if !r.sees("(") {
		return r.base()
	}
	t := r.take("(")
	bases := r.list(r.base)
	r.take(")")
	r.take("->")
	bases = append(bases, r.base())
	return knotAt(api.ArrowType, t, bases...)
}

// base reads a base.
func (r *reader) base() knot {
	t := r.take("int", "cell", "com", "bool")
	k := knotAt(r.kinds[t.Text], t)
	switch t.Text {
	case "com":
		k.N = 1
	case "bool":
		k.N = 2
	default:
		k.N = r.number()
	}
	return k
}
