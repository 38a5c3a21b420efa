package parse_test

import (
	"slices"
	"strings"
	"testing"

	"riposte/api"
	"riposte/parse"
)

// dice are numbers that look random and are the same in each run.
type dice uint64

func (d *dice) below(n int) int {
	*d = *d*6364136223846793005 + 1442695040888963407
	return int(uint64(*d)>>33) % n
}

func (d *dice) one(l ...string) string { return l[d.below(len(l))] }

// parsed returns the tree of a text that must have one.
func parsed(t *testing.T, s string) api.Tree {
	t.Helper()
	x, at, e := parse.Parse(s)
	if at != 0 || e != api.OK {
		t.Fatalf("Parse of %q: %d, %v", s, at, e)
	}
	return x
}

// ofTerm returns the tree of an item whose term is the node 3.
func ofTerm(t *testing.T, s string) api.Tree {
	t.Helper()
	return parsed(t, "def f():com="+s+";")
}

// bare returns nodes without their places.
func bare(l []api.TreeNode) []api.TreeNode {
	l = slices.Clone(l)
	for i := range l {
		l[i].At = 0
	}
	return l
}

// items returns the nodes of the items of a tree, without their places.
func items(t api.Tree) (l [][]api.TreeNode) {
	for n := 1; n < len(t.Nodes); n += t.Nodes[n].Size {
		l = append(l, bare(t.Nodes[n:n+t.Nodes[n].Size]))
	}
	return l
}

// branch is a node with all its kids; trees are built of branches where the right one is looked for in another way than parse has.
type branch struct {
	api.TreeNode
	kids []branch
}

func b(kind uint8, kids ...branch) branch {
	return branch{api.TreeNode{Kind: kind}, kids}
}

func (x branch) text(s string) branch {
	x.Text = s
	return x
}

func (x branch) n(n int) branch {
	x.N = n
	return x
}

func (x branch) m(m int) branch {
	x.M = m
	return x
}

func (x branch) at(at int) branch {
	x.At = at
	return x
}

// nodes returns the nodes of a branch.
func (x branch) nodes() []api.TreeNode {
	l := []api.TreeNode{x.TreeNode}
	for _, k := range x.kids {
		l = append(l, k.nodes()...)
	}
	l[0].Size = len(l)
	return l
}

// depth returns how far the deepest node is from the branch.
func (x branch) depth() int {
	n := 0
	for _, k := range x.kids {
		n = max(n, k.depth()+1)
	}
	return n
}

func (x branch) tree() api.Tree { return api.Tree{Nodes: x.nodes()} }

func name(s string) branch { return b(api.NameNode).text(s) }

func bind(s string) branch { return b(api.BindNode).text(s) }

func intOf(n int) branch { return b(api.IntType).n(n) }

func cellOf(n int) branch { return b(api.CellType).n(n) }

func def(kids ...branch) branch { return b(api.DefItem, kids...).text("f") }

// defOf returns a program whose only item has a term, which is the node 3.
func defOf(term branch) branch { return b(api.ProgramNode, def(intOf(1), term)) }

// nots returns a term of as many levels below its first one as n says.
func nots(n int) branch {
	x := name("a")
	for range n {
		x = b(api.NotNode, x)
	}
	return x
}

// row returns as many branches of one kind as n says.
func row(n int, x branch) []branch { return slices.Repeat([]branch{x}, n) }

// branchOf returns the branch of the node n.
func branchOf(t api.Tree, n int) branch {
	x := branch{TreeNode: t.Nodes[n]}
	for k := n + 1; k < n+t.Nodes[n].Size; k += t.Nodes[k].Size {
		x.kids = append(x.kids, branchOf(t, k))
	}
	return x
}

// maker makes texts of programs at random, with their trees and their shortest texts.
type maker struct {
	dice
	room   int // how many terms may still branch
	nodes  []api.TreeNode
	tokens []string // of the text
	short  []string // of the shortest text
}

// put puts tokens down.
func (m *maker) put(l ...string) {
	m.tokens = append(m.tokens, l...)
	m.short = append(m.short, l...)
}

// open begins a node at the next token; end says how many nodes it has.
func (m *maker) open(kind uint8, text string, n, x int) int {
	m.nodes = append(m.nodes, api.TreeNode{Kind: kind, Text: text, N: n, M: x, At: len(m.tokens)})
	return len(m.nodes) - 1
}

func (m *maker) end(node int) { m.nodes[node].Size = len(m.nodes) - node }

func (m *maker) name() string {
	return m.one("a", "b", "x", "f", "g", "iff", "abcdefghijkl", "aZ9", "c0")
}

func (m *maker) number() int { return []int{0, 1, 2, 3, 64, 1000000}[m.below(6)] }

func (m *maker) program() {
	node := m.open(api.ProgramNode, "", 0, 0)
	for range m.below(4) {
		m.item()
		// Between the items of a text nothing must stand, but in a shortest text a line feed.
		m.short = append(m.short, "\n")
	}
	m.end(node)
	m.nodes[0].At = -1
}

func (m *maker) item() {
	s := m.name()
	if m.below(3) == 0 {
		node := m.open(api.ImportItem, s, 0, 0)
		m.put("import", s, ":")
		m.typ()
		m.put(";")
		m.end(node)
		return
	}
	word := m.one("def", "export")
	node := m.open(map[string]uint8{"def": api.DefItem, "export": api.ExportItem}[word], s, 0, 0)
	m.put(word, s, "(")
	for i := range m.below(4) {
		if i > 0 {
			m.put(",")
		}
		s := m.name()
		param := m.open(api.ParamNode, s, 0, 0)
		m.put(s, ":")
		m.typ()
		m.end(param)
	}
	m.put(")", ":")
	m.base()
	m.put("=")
	m.term(0)
	m.put(";")
	m.end(node)
}

func (m *maker) base() {
	n := m.number()
	if m.below(3) == 0 {
		node := m.open(api.CellType, "", n, 0)
		m.put("cell", itoa(n))
		m.end(node)
		return
	}
	node := m.open(api.IntType, "", n, 0)
	long, word := []string{"int", itoa(n)}, map[int]string{1: "com", 2: "bool"}[n]
	short := long
	if word != "" {
		short = []string{word}
	}
	if m.below(2) == 0 {
		long = short
	}
	m.tokens = append(m.tokens, long...)
	m.short = append(m.short, short...)
	m.end(node)
}

func (m *maker) typ() {
	if m.below(2) == 0 {
		m.base()
		return
	}
	node := m.open(api.ArrowType, "", 0, 0)
	m.put("(")
	m.base()
	for range m.below(3) {
		m.put(",")
		m.base()
	}
	m.put(")", "->")
	m.base()
	m.end(node)
}

// The places of terms, from the loosest to the tightest; they are numbered as the grammar's lines come.
const (
	inTerm = iota
	inFirst
	inOr
	inAnd
	inNot
	inTest
	inSum
	inProduct
	inCast
	inAtom
)

// term makes a term where one of a place must stand.
func (m *maker) term(place int) {
	if m.below(6) == 0 { // a pair of brackets that need not be
		m.tokens = append(m.tokens, "(")
		m.term2(place, inTerm)
		m.tokens = append(m.tokens, ")")
		return
	}
	m.term2(place, place)
}

// term2 makes a term where one of a place stands in the shortest text, and one of another place in the text.
func (m *maker) term2(short, long int) {
	pick := m.below(10)
	if m.room--; m.room < 0 || len(m.tokens) > 300 {
		pick = inAtom
	}
	if pick < short {
		m.short = append(m.short, "(")
		defer func() { m.short = append(m.short, ")") }()
	}
	if pick < long {
		m.tokens = append(m.tokens, "(")
		defer func() { m.tokens = append(m.tokens, ")") }()
	}
	switch pick {
	case inTerm:
		m.seq()
	case inFirst:
		m.first()
	case inOr:
		m.binary(api.OrNode, "or", inOr, inAnd)
	case inAnd:
		m.binary(api.AndNode, "and", inAnd, inNot)
	case inNot:
		node := m.open(api.NotNode, "", 0, 0)
		m.put("not")
		m.term(inNot)
		m.end(node)
	case inTest:
		if m.below(2) == 0 {
			m.binary(api.EqNode, "=", inSum, inSum)
		} else {
			m.binary(api.LessNode, "<", inSum, inSum)
		}
	case inSum:
		if m.below(2) == 0 {
			m.binary(api.AddNode, "+", inSum, inProduct)
		} else {
			m.binary(api.SubNode, "-", inSum, inProduct)
		}
	case inProduct:
		m.binary(api.MulNode, "*", inProduct, inCast)
	case inCast:
		n := m.number()
		node := m.open(api.AsNode, "", n, 0)
		m.term(inCast)
		m.nodes[node].At = len(m.tokens)
		m.put("as", itoa(n))
		m.end(node)
	default:
		m.atom()
	}
}

func (m *maker) binary(kind uint8, sign string, left, right int) {
	node := m.open(kind, "", 0, 0)
	m.term(left)
	m.nodes[node].At = len(m.tokens)
	m.put(sign)
	m.term(right)
	m.end(node)
}

func (m *maker) seq() {
	node := m.open(api.SeqNode, "", 0, 0)
	m.term(inFirst)
	m.nodes[node].At = len(m.tokens)
	for range 1 + m.below(3) {
		m.put(";")
		m.term(inFirst)
	}
	m.end(node)
}

// first makes a term that begins with a keyword, or puts; the tokens in front of each of its kids are those of a row.
func (m *maker) first() {
	s, n, x := m.name(), m.number(), m.number()
	kind, rows := api.PutNode, [][]string{{s, ":="}}
	switch m.below(7) {
	case 0:
		kind, s, n, x, rows = api.IfNode, "", 0, 0, [][]string{{"if"}, {"then"}, {"else"}}
	case 1:
		kind, s, n, x, rows = api.WhileNode, "", 0, 0, [][]string{{"while"}, {"do"}}
	case 2:
		kind, rows = api.NewNode, [][]string{{"new", s, ":", itoa(n), ":=", itoa(x), "in"}}
	case 3:
		kind, n, x, rows = api.LabelNode, 0, 0, [][]string{{"label", s, "in"}, {"else"}}
	case 4:
		kind, x, rows = api.NoticeNode, 0, [][]string{{"notice", s, ":=", itoa(n), "in"}}
	case 5:
		kind, s, n, x, rows = api.ChooseNode, "", 0, 0, [][]string{{"choose"}, {"else"}}
	default:
		n, x = 0, 0
	}
	node := m.open(kind, s, n, x)
	for _, l := range rows {
		m.put(l...)
		m.term(inFirst)
	}
	m.end(node)
}

func (m *maker) atom() {
	s, n := m.name(), m.number()
	word := m.one("number", "number", "true", "false", "skip", "hang", "jump", "!", "name", "name", "call", "call")
	if word == "call" && m.room < 0 {
		word = "name"
	}
	switch word {
	case "number":
		node := m.open(api.NumNode, "", n, 0)
		m.put(itoa(n))
		m.end(node)
	case "true", "false", "skip", "hang":
		node := m.open(map[string]uint8{"true": api.TrueNode, "false": api.FalseNode, "skip": api.SkipNode, "hang": api.HangNode}[word], "", 0, 0)
		m.put(word)
		m.end(node)
	case "jump", "!":
		node := m.open(map[string]uint8{"jump": api.JumpNode, "!": api.GetNode}[word], s, 0, 0)
		m.put(word, s)
		m.end(node)
	case "name":
		node := m.open(api.NameNode, s, 0, 0)
		m.put(s)
		m.end(node)
	case "call":
		node := m.open(api.CallNode, s, 0, 0)
		m.put(s, "(")
		m.arg()
		for range m.below(3) {
			m.put(",")
			m.arg()
		}
		m.put(")")
		m.end(node)
	}
}

func (m *maker) arg() {
	switch m.below(4) {
	case 0:
		node := m.open(api.FnNode, "", 0, 0)
		m.put("fn", "(")
		m.bind()
		for range m.below(3) {
			m.put(",")
			m.bind()
		}
		m.put(")")
		m.term(inFirst)
		m.end(node)
	case 1:
		node := m.open(api.ObjectNode, "", 0, 0)
		m.put("{", "get")
		m.term(inFirst)
		m.put(";", "put")
		m.bind()
		m.put(".")
		m.term(inFirst)
		m.put("}")
		m.end(node)
	default:
		m.term(inTerm)
	}
}

func (m *maker) bind() {
	s := m.name()
	node := m.open(api.BindNode, s, 0, 0)
	m.put(s)
	m.end(node)
}

// made is a text, with its tree and the text that Print must return.
type made struct {
	text, short string
	tree        api.Tree
}

// make makes a program at random that is within the limits; room says how great it is about.
func (d *dice) make(room int) made {
	for {
		m := &maker{dice: *d, room: room}
		m.program()
		text, places := spread(m.tokens, &m.dice)
		for i, x := range m.nodes {
			if m.nodes[i].At = 0; x.At >= 0 {
				m.nodes[i].At = places[x.At]
			}
		}
		*d = m.dice
		x := made{text, tight(m.short), api.Tree{Nodes: m.nodes}}
		if len(text) <= api.MaxText && len(m.tokens) <= api.MaxTokens && branchOf(x.tree, 0).depth() <= api.MaxDepth {
			return x
		}
	}
}

// letter tells whether a byte stands in keywords, names and numbers.
func letter(c byte) bool {
	return 'a' <= c && c <= 'z' || 'A' <= c && c <= 'Z' || '0' <= c && c <= '9'
}

// grow tells whether two tokens are another one if nothing stands between them.
func grow(x, y string) bool {
	return letter(x[len(x)-1]) && letter(y[0]) || x == ":" && y == "="
}

// tight returns a text of tokens with no blank too many.
func tight(l []string) string {
	var b strings.Builder
	for i, s := range l {
		if i > 0 && grow(l[i-1], s) {
			b.WriteByte(' ')
		}
		b.WriteString(s)
	}
	return b.String()
}

// spread returns a text of tokens, with something or nothing between them, and where each begins.
func spread(l []string, d *dice) (string, []int) {
	var b strings.Builder
	var places []int
	for i, s := range l {
		between := d.one("", "", "", " ", "  ", "\n", "~ def (;\n", " ~\n")
		if between == "" && i > 0 && grow(l[i-1], s) {
			between = " "
		}
		b.WriteString(between)
		places = append(places, b.Len())
		b.WriteString(s)
	}
	b.WriteString(d.one("", " ", "\n", "~ ;"))
	return b.String(), places
}
