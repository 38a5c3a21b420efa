package check

import (
	"iter"
	"slices"

	"riposte/api"
	"riposte/parse"
)

// span is the nodes from one on, up to another one that is not among them.
type span struct{ from, to int }

// has tells whether a node is in a span.
func (x span) has(n int) bool { return x.from <= n && n < x.to }

// place finds the nodes at which a declaration is in sight.
type place func(s *scope, d int) span

// scope is a right tree that knows what is above each node, where each declaration is in sight, and what each node means.
type scope struct {
	api.Tree
	ups    []int
	places map[uint8]place  // by the kinds of declarations
	sights []span           // of what is no declaration: no nodes
	named  map[string][]int // the declarations with a name, ascending
	meant  []int            // 0, the program, stands for nothing
}

// scopeAt returns the scope of a tree that is right and has a node.
func scopeAt(t api.Tree, n int) (*scope, api.Errno) {
	if e := parse.Check(t); e != api.OK {
		return nil, e
	}
	if n < 0 || n >= len(t.Nodes) {
		return nil, api.ErrRange
	}
	return scopeOf(t), api.OK
}

// scopeAtItem returns the scope of a tree that is right and has a node that is an item.
func scopeAtItem(t api.Tree, n int) (*scope, api.Errno) {
	s, e := scopeAt(t, n)
	if e != api.OK {
		return nil, e
	}
	if !s.isItem(n) {
		return nil, api.ErrNone
	}
	return s, api.OK
}

// scopeOf returns the scope of a right tree.
func scopeOf(t api.Tree) *scope {
	many := len(t.Nodes)
	s := &scope{Tree: t, ups: make([]int, many), places: places(), sights: make([]span, many), named: map[string][]int{}, meant: make([]int, many)}
	for n := range many {
		for k := range s.kids(n) {
			s.ups[k] = n
		}
	}
	for n, x := range t.Nodes {
		// What a node means stands in front of it, and is known by now.
		s.meant[n] = s.lastInSight(n)
		if s.isDeclaration(n) {
			s.sights[n] = s.places[x.Kind](s, n)
			s.named[x.Text] = append(s.named[x.Text], n)
		}
	}
	return s
}

// places returns where declarations are in sight.
func places() map[uint8]place {
	return map[uint8]place{
		api.ImportItem: (*scope).behind,
		api.DefItem:    (*scope).behind,
		api.ExportItem: (*scope).nowhere,
		api.ParamNode:  (*scope).lastBeside,
		api.NewNode:    (*scope).firstKid,
		api.LabelNode:  (*scope).firstKid,
		api.BindNode:   (*scope).lastBeside,
	}
}

// behind returns all nodes behind a declaration.
func (s *scope) behind(d int) span { return span{s.end(d), len(s.Nodes)} }

// nowhere returns no nodes.
func (s *scope) nowhere(int) span { return span{} }

// firstKid returns the nodes of the first kid of a declaration.
func (s *scope) firstKid(d int) span { return s.all(d + 1) }

// lastBeside returns the nodes of the last one among the kids of which a declaration is one.
func (s *scope) lastBeside(d int) span { return s.all(s.last(s.ups[d])) }

// lastInSight returns the last declaration so far with the name of a node that is in sight there and of the kind that this means; 0 if there is none.
func (s *scope) lastInSight(n int) int {
	if !s.isName(n) {
		return 0
	}
	for _, d := range slices.Backward(s.named[s.Nodes[n].Text]) {
		if s.sights[d].has(n) && s.is(d, api.LabelNode) == s.is(n, api.JumpNode) {
			return d
		}
	}
	return 0
}

// is tells whether a node is of one of some kinds.
func (s *scope) is(n int, kinds ...uint8) bool {
	return slices.Contains(kinds, s.Nodes[n].Kind)
}

// isItem tells whether a node is an item.
func (s *scope) isItem(n int) bool {
	return s.is(n, api.ImportItem, api.DefItem, api.ExportItem)
}

// isDeclaration tells whether a node is a declaration.
func (s *scope) isDeclaration(n int) bool {
	_, ok := s.places[s.Nodes[n].Kind]
	return ok
}

// isName tells whether a node is one that means a declaration.
func (s *scope) isName(n int) bool {
	return s.is(n, api.NameNode, api.CallNode, api.GetNode, api.PutNode, api.NoticeNode, api.JumpNode)
}

// isTerm tells whether a node is a term.
func (s *scope) isTerm(n int) bool {
	return api.SeqNode <= s.Nodes[n].Kind && s.Nodes[n].Kind <= api.CallNode
}

// end returns the number of the first node behind a node, and all below this.
func (s *scope) end(n int) int { return n + s.Nodes[n].Size }

// all returns a node, and all below it.
func (s *scope) all(n int) span { return span{n, s.end(n)} }

// kids yields the kids of a node.
func (s *scope) kids(n int) iter.Seq[int] {
	return func(yield func(int) bool) {
		for k := n + 1; k < s.end(n); k = s.end(k) {
			if !yield(k) {
				return
			}
		}
	}
}

// list returns the kids of a node.
func (s *scope) list(n int) []int { return slices.Collect(s.kids(n)) }

// last returns the last kid of a node.
func (s *scope) last(n int) int {
	l := s.list(n)
	return l[len(l)-1]
}

// itemOf returns the item in which a term is.
func (s *scope) itemOf(n int) int {
	for !s.isItem(n) {
		n = s.ups[n]
	}
	return n
}
