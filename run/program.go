package run

import (
	"slices"

	"riposte/api"
	"riposte/check"
)

// program is an export that one can talk with: the term of the export, the identifiers of its arena, and what is known of the nodes of its tree.
type program struct {
	api.Tree
	arena api.Arena
	term  int
	ids   map[int]int // by the declarations
	kids  [][]int
	means []int // the declaration that a node means
	ways  map[uint8]way
	size  func(n int) int // the size that a term is given, 0 if it is an argument without one
}

// programOf returns the program of a session without errors.
func programOf(x api.Session) (*program, api.Errno) {
	a, e := Arena(x)
	if e != api.OK {
		return nil, e
	}
	p := &program{Tree: x.T, arena: playable(a), kids: kidsOf(x.T.Nodes), means: meanings(x.T.Nodes), ways: waysOfNodes()}
	// There is one, since there is its arena.
	export := slices.IndexFunc(x.T.Nodes, func(y api.TreeNode) bool {
		return y.Kind == api.ExportItem && y.Text == x.Export
	})
	p.term = p.last(export)
	p.ids = p.identifiers(export)
	p.size = once(func(n int) int {
		s, _ := check.Size(x.T, n)
		return s
	})
	return p, api.OK
}

// playable returns the arena of a program, which is its own, as one in which its words are legal. By its type in a program what has params can tell a cell, though right arenas have no such types: since nothing can be put to it, this cell is no more than an integer.
func playable(a api.Arena) api.Arena {
	for i, x := range a.Ids {
		a.Ids[i].Result.Cell = x.Result.Cell && len(x.Params) == 0
	}
	return a
}

// kidsOf returns the kids of each node of a right tree.
func kidsOf(l []api.TreeNode) [][]int {
	kids := make([][]int, len(l))
	for n, x := range l {
		for k := n + 1; k < n+x.Size; k += l[k].Size {
			kids[n] = append(kids[n], k)
		}
	}
	return kids
}

// meanings returns the declaration that each node of a program without errors means, if it is one that means something: this is the last one in front of it with its name, since no two in one item have the same name, and none has that of an item. (So it is not asked of check node by node, which would take longer than all else.)
func meanings(l []api.TreeNode) []int {
	means := make([]int, len(l))
	named := map[string]int{}
	for n, x := range l {
		switch x.Kind {
		case api.ImportItem, api.DefItem, api.ExportItem, api.ParamNode, api.NewNode, api.LabelNode, api.BindNode:
			named[x.Text] = n
		default:
			means[n] = named[x.Text]
		}
	}
	return means
}

// last returns the last kid of a node.
func (p *program) last(n int) int {
	l := p.kids[n]
	return l[len(l)-1]
}

// identifiers returns the numbers of what an export can ask, by the declarations: all imports, then its params.
func (p *program) identifiers(export int) map[int]int {
	ids := map[int]int{}
	for _, n := range slices.Concat(p.kids[0], p.kids[export]) {
		if p.Nodes[n].Kind == api.ImportItem || p.Nodes[n].Kind == api.ParamNode {
			ids[n] = len(ids) + 1
		}
	}
	return ids
}

// once returns a function that asks another one for each number the first time alone.
func once(ask func(n int) int) func(n int) int {
	known := map[int]int{}
	return func(n int) int {
		if a, ok := known[n]; ok {
			return a
		}
		a := ask(n)
		known[n] = a
		return a
	}
}
