package parse

import (
	"iter"
	"slices"

	"riposte/api"
	"riposte/lex"
)

// told returns what is told of a node of a tree, if the tree is right and has the node.
func told[T any](t api.Tree, n int, tell func(t api.Tree, n int) (T, api.Errno)) (T, api.Errno) {
	var none T
	if e := Check(t); e != api.OK {
		return none, e
	}
	if n < 0 || n >= len(t.Nodes) {
		return none, api.ErrRange
	}
	return tell(t, n)
}

// upsOf returns for each node the one whose kid it is, -1 for the node 0, and whether the Sizes lie one in the other.
func upsOf(l []api.TreeNode) ([]int, bool) {
	ups := make([]int, len(l))
	up, end := -1, len(l)
	for n, x := range l {
		for up >= 0 && n == end {
			up = ups[up]
			end = endOf(l, up)
		}
		if x.Size < 1 || x.Size > end-n || up < 0 && n > 0 {
			return nil, false
		}
		ups[n] = up
		up, end = n, n+x.Size
	}
	return ups, true
}

// endOf returns where the nodes of a node end, and for -1 where all end.
func endOf(l []api.TreeNode, n int) int {
	if n < 0 {
		return len(l)
	}
	return n + l[n].Size
}

// kidsOf yields the kids of a node. The Sizes must lie one in the other.
func kidsOf(l []api.TreeNode, n int) iter.Seq[int] {
	return func(yield func(int) bool) {
		for k := n + 1; k < endOf(l, n); k += l[k].Size {
			if !yield(k) {
				return
			}
		}
	}
}

// kidList returns the kids of a node.
func kidList(l []api.TreeNode, n int) []int { return slices.Collect(kidsOf(l, n)) }

// depth returns how far a node is from the node 0 at most.
func depth(ups []int) int {
	deepest := 0
	far := make([]int, len(ups))
	for n, up := range ups {
		if n > 0 {
			far[n] = far[up] + 1
			deepest = max(deepest, far[n])
		}
	}
	return deepest
}

// isRight tells whether nodes whose Sizes lie one in the other are a tree by the rules.
func isRight(l []api.TreeNode) bool {
	if len(l) == 0 || l[0].Kind != api.ProgramNode {
		return false
	}
	g := grammar{}
	for n, x := range l {
		if !g.of(x.Kind).fieldsFit(x) || !g.kidsFit(l, n) {
			return false
		}
	}
	return g.namesFit(l)
}

// fieldsFit tells whether a node has no field but those of its form, and no number that is out of its limits.
func (f form) fieldsFit(x api.TreeNode) bool {
	return (x.Text == "" || f.has("Text")) && numberFits(x.N, f.has("N")) && numberFits(x.M, f.has("M"))
}

// numberFits tells whether a number is one that a field may have, if the node has the field.
func numberFits(n int, has bool) bool { return n == 0 || has && 0 < n && n <= api.MaxNumber }

// kidsFit tells whether the kids of a node are those that its form asks for.
func (g grammar) kidsFit(l []api.TreeNode, n int) bool {
	kids := kidList(l, n)
	left := len(kids)
	for w := range g.of(l[n].Kind).deal(kids) {
		for _, k := range w.kids {
			if !g.of(l[k].Kind).canBe(w) {
				return false
			}
		}
		if !w.isFull() {
			return false
		}
		left -= len(w.kids)
	}
	return left == 0
}

// namesFit tells whether all nodes that must have names have some. They are never too many for lex, since each node has one at most.
func (g grammar) namesFit(l []api.TreeNode) bool {
	var names []api.Token
	for _, x := range l {
		if g.of(x.Kind).has("Text") {
			names = append(names, api.Token{Kind: api.TokName, Text: x.Text})
		}
	}
	_, e := lex.Tight(names)
	return e != api.ErrArg
}

// grafted returns nodes in which a node has become others, and those above it know how many nodes they have now.
func grafted(l []api.TreeNode, n int, others []api.TreeNode) api.Tree {
	r := slices.Concat(l[:n], others, l[endOf(l, n):])
	ups, _ := upsOf(l)
	for up := ups[n]; up >= 0; up = ups[up] {
		r[up].Size += len(r) - len(l)
	}
	return api.Tree{Nodes: r}
}
