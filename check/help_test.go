package check_test

import (
	"slices"
	"strconv"
	"testing"

	"riposte/api"
	"riposte/parse"
)

// parsed returns the tree of a text that must have one.
func parsed(t *testing.T, s string) api.Tree {
	t.Helper()
	x, at, e := parse.Parse(s)
	if e != api.OK {
		t.Fatalf("Parse of %q: %d, %v", s, at, e)
	}
	return x
}

// find returns the node of a kind with a text; of several ones the first.
func find(t *testing.T, x api.Tree, kind uint8, text string) int {
	t.Helper()
	n := slices.IndexFunc(x.Nodes, func(y api.TreeNode) bool { return y.Kind == kind && y.Text == text })
	if n < 0 {
		t.Fatalf("no node %d %q in %v", kind, text, x.Nodes)
	}
	return n
}

// base returns a base type.
func base(cell bool, n int) api.Base { return api.Base{Cell: cell, N: n} }

// arrow returns a type with params.
func arrow(result api.Base, params ...api.Base) api.Type {
	return api.Type{Params: params, Result: result}
}

// plain returns a type without params.
func plain(b api.Base) api.Type { return api.Type{Result: b} }

// same tells whether two types are the same.
func same(a, b api.Type) bool { return slices.Equal(a.Params, b.Params) && a.Result == b.Result }

// sameDeclared tells whether two rows of identifiers are the same.
func sameDeclared(a, b []api.Declared) bool {
	return slices.EqualFunc(a, b, func(x, y api.Declared) bool { return x.Name == y.Name && same(x.Type, y.Type) })
}

// sameArena tells whether two arenas are the same.
func sameArena(a, b api.Arena) bool {
	return slices.EqualFunc(a.Ids, b.Ids, same) && a.Root == b.Root && a.Jumps == b.Jumps
}

func itoa(n int) string { return strconv.Itoa(n) }

// dice are numbers that look random and are the same in each run.
type dice uint64

func (d *dice) below(n int) int {
	*d = *d*6364136223846793005 + 1442695040888963407
	return int(uint64(*d)>>33) % n
}

// pick returns one of some values.
func pick[T any](d *dice, l ...T) T { return l[d.below(len(l))] }

// branch is a node with all its kids.
type branch struct {
	api.TreeNode
	kids []branch
}

func b(kind uint8, kids ...branch) branch { return branch{api.TreeNode{Kind: kind}, kids} }

func (x branch) text(s string) branch {
	x.Text = s
	return x
}

func (x branch) numbers(n, m int) branch {
	x.N, x.M = n, m
	return x
}

// nodes returns the nodes of a branch.
func (x branch) nodes() []api.TreeNode {
	l := []api.TreeNode{x.TreeNode}
	for _, k := range x.kids {
		l = append(l, k.nodes()...)
	}
	l[0].Size = len(l)
	return l
}

func (x branch) tree() api.Tree { return api.Tree{Nodes: x.nodes()} }

// entity is what a maker has in sight: its kind, its name, and its type. What is called may have params of any types.
type entity struct {
	kind   uint8
	name   string
	params []api.Type
	result api.Base
}

// maker makes right programs without errors at random: whatever it puts down fits where it stands.
type maker struct {
	*dice
	room  int // how many nodes may still come in the item
	fresh int // how many names there are in the item
}

// makeProgram makes a program without an error.
func makeProgram(d *dice) api.Tree {
	for {
		m := &maker{dice: d}
		var items []branch
		var seen []entity
		for i := range 1 + d.below(5) {
			x, it := m.item(i, seen)
			items = append(items, it)
			if x.kind != api.ExportItem {
				seen = append(seen, x)
			}
		}
		t := b(api.ProgramNode, items...).tree()
		if parse.Check(t) == api.OK {
			return t
		}
	}
}

func (m *maker) size() int { return pick(m.dice, 1, 1, 2, 2, 3, 5, api.MaxSize) }

func (m *maker) base() api.Base { return base(m.below(3) == 0, m.size()) }

// anyType makes a type; what is called tells an integer.
func (m *maker) anyType() api.Type {
	x := plain(m.base())
	if m.below(2) == 0 {
		for range 1 + m.below(3) {
			x.Params = append(x.Params, m.base())
		}
		x.Result.Cell = false
	}
	return x
}

// baseBranch returns the node that says a base.
func baseBranch(x api.Base) branch {
	kind := api.IntType
	if x.Cell {
		kind = api.CellType
	}
	return b(kind).numbers(x.N, 0)
}

// typeBranch returns the nodes that say a type.
func typeBranch(x api.Type) branch {
	if len(x.Params) == 0 {
		return baseBranch(x.Result)
	}
	k := b(api.ArrowType)
	for _, p := range x.Params {
		k.kids = append(k.kids, baseBranch(p))
	}
	k.kids = append(k.kids, baseBranch(x.Result))
	return k
}

// name makes a name that is new in the item; other items may have it.
func (m *maker) name() string {
	m.fresh++
	return "v" + itoa(m.fresh)
}

func (m *maker) item(i int, seen []entity) (entity, branch) {
	m.room, m.fresh = 18, 0
	x := entity{kind: pick(m.dice, api.ImportItem, api.DefItem, api.DefItem, api.ExportItem), name: "i" + itoa(i)}
	if x.kind == api.ImportItem {
		y := m.anyType()
		for _, p := range y.Params {
			x.params = append(x.params, plain(p))
		}
		x.result = y.Result
		return x, b(api.ImportItem, typeBranch(y)).text(x.name)
	}
	x.result = base(false, m.size())
	k := b(x.kind).text(x.name)
	seen = slices.Clone(seen)
	for range m.below(4) {
		p := m.anyType()
		y := entity{kind: api.ParamNode, name: m.name(), result: p.Result}
		for _, q := range p.Params {
			y.params = append(y.params, plain(q))
		}
		x.params = append(x.params, p)
		k.kids = append(k.kids, b(api.ParamNode, typeBranch(p)).text(y.name))
		seen = append(seen, y)
	}
	term, _ := m.term(x.result.N, seen)
	k.kids = append(k.kids, baseBranch(x.result), term)
	return x, k
}

// among returns the entities of which something is so.
func among(seen []entity, is func(x entity) bool) []entity {
	var l []entity
	for _, x := range seen {
		if is(x) {
			l = append(l, x)
		}
	}
	return l
}

// leaf makes a term of a size that has no kids.
func (m *maker) leaf(s int, seen []entity) (branch, int) {
	var l []branch
	own := []int{}
	add := func(x branch, size int) {
		l, own = append(l, x), append(own, size)
	}
	add(b(api.NumNode).numbers(m.below(s), 0), 0)
	if s == 2 {
		add(b(pick(m.dice, api.TrueNode, api.FalseNode)), 2)
	}
	if s == 1 {
		add(b(pick(m.dice, api.SkipNode, api.HangNode)), 1)
	}
	for _, x := range seen {
		switch {
		case x.kind == api.LabelNode && s == 1:
			add(b(api.JumpNode).text(x.name), 1)
		case x.kind == api.LabelNode || len(x.params) > 0 || x.result.N != s:
		case x.result.Cell:
			add(b(api.GetNode).text(x.name), s)
		default:
			add(b(api.NameNode).text(x.name), s)
		}
	}
	i := m.below(len(l))
	return l[i], own[i]
}

// first returns the first one of two sizes that is one.
func first(a, b int) int {
	if a != 0 {
		return a
	}
	return b
}

// term makes a term of a size, and tells its own size.
func (m *maker) term(s int, seen []entity) (branch, int) {
	if m.room--; m.room < 0 {
		return m.leaf(s, seen)
	}
	switch m.below(12) {
	case 0, 1:
		return m.leaf(s, seen)
	case 2:
		k := b(api.SeqNode)
		for range 1 + m.below(2) {
			x, _ := m.term(1, seen)
			k.kids = append(k.kids, x)
		}
		x, own := m.term(s, seen)
		k.kids = append(k.kids, x)
		return k, own
	case 3:
		x, _ := m.sized(seen)
		y, own := m.term(s, seen)
		z, other := m.term(s, seen)
		return b(api.IfNode, x, y, z), first(own, other)
	case 4:
		size := m.size()
		cell := entity{kind: api.NewNode, name: m.name(), result: base(true, size)}
		x, own := m.term(s, append(slices.Clone(seen), cell))
		return b(api.NewNode, x).text(cell.name).numbers(size, m.below(size)), own
	case 5:
		label := entity{kind: api.LabelNode, name: m.name()}
		x, own := m.term(s, append(slices.Clone(seen), label))
		y, other := m.term(s, seen)
		return b(api.LabelNode, x, y).text(label.name), first(own, other)
	case 6:
		return m.call(s, seen)
	case 7:
		return m.notice(s, seen)
	case 8:
		x, own := m.term(s, seen)
		y, other := m.term(s, seen)
		return b(pick(m.dice, api.ChooseNode, api.AddNode, api.SubNode, api.MulNode), x, y), first(own, other)
	case 9:
		x := b(api.NumNode).numbers(pick(m.dice, 0, s, api.MaxNumber), 0)
		if m.below(2) == 0 {
			x, _ = m.sized(seen)
		}
		return b(api.AsNode, x).numbers(s, 0), s
	}
	return m.special(s, seen)
}

// special makes a term that there is of one size alone.
func (m *maker) special(s int, seen []entity) (branch, int) {
	switch s {
	case 1:
		if cells := among(seen, isCell); len(cells) > 0 && m.below(3) > 0 {
			c := pick(m.dice, cells...)
			x, _ := m.term(c.result.N, seen)
			return b(api.PutNode, x).text(c.name), 1
		}
		x, _ := m.sized(seen)
		y, _ := m.term(1, seen)
		return b(api.WhileNode, x, y), 1
	case 2:
		if m.below(2) == 0 {
			x, own := m.sized(seen)
			y, _ := m.term(own, seen)
			if m.below(2) == 0 {
				x, y = y, x
			}
			return b(pick(m.dice, api.EqNode, api.LessNode), x, y), 2
		}
		x, _ := m.term(2, seen)
		if m.below(3) == 0 {
			return b(api.NotNode, x), 2
		}
		y, _ := m.term(2, seen)
		return b(pick(m.dice, api.AndNode, api.OrNode), x, y), 2
	}
	return m.leaf(s, seen)
}

func isCell(x entity) bool { return x.kind != api.LabelNode && len(x.params) == 0 && x.result.Cell }

// sized makes a term that has an own size.
func (m *maker) sized(seen []entity) (branch, int) {
	s := m.size()
	if x, own := m.term(s, seen); own != 0 {
		return x, own
	}
	return b(api.AsNode, b(api.NumNode).numbers(m.below(100), 0)).numbers(s, 0), s
}

// notice makes a notice of one of the cells that are made here.
func (m *maker) notice(s int, seen []entity) (branch, int) {
	cells := among(seen, func(x entity) bool { return x.kind == api.NewNode })
	if len(cells) == 0 {
		return m.leaf(s, seen)
	}
	c := pick(m.dice, cells...)
	x, own := m.term(s, seen)
	return b(api.NoticeNode, x).text(c.name).numbers(m.below(c.result.N), 0), own
}

// call makes a call of something that tells an integer of a size.
func (m *maker) call(s int, seen []entity) (branch, int) {
	l := among(seen, func(x entity) bool { return len(x.params) > 0 && x.result == base(false, s) })
	if len(l) == 0 {
		return m.leaf(s, seen)
	}
	x := pick(m.dice, l...)
	k := b(api.CallNode).text(x.name)
	for _, p := range x.params {
		k.kids = append(k.kids, m.arg(p, seen))
	}
	return k, s
}

// arg makes an argument for a param of a type.
func (m *maker) arg(p api.Type, seen []entity) branch {
	if len(p.Params) == 0 && !p.Result.Cell {
		x, _ := m.term(p.Result.N, seen)
		return x
	}
	l := among(seen, func(x entity) bool { return x.kind != api.LabelNode && isOf(x, p) })
	if len(l) > 0 && m.below(2) == 0 {
		return b(api.NameNode).text(pick(m.dice, l...).name)
	}
	if len(p.Params) == 0 {
		get, _ := m.term(p.Result.N, seen)
		v := entity{kind: api.BindNode, name: m.name(), result: base(false, p.Result.N)}
		put, _ := m.term(1, append(slices.Clone(seen), v))
		return b(api.ObjectNode, get, b(api.BindNode).text(v.name), put)
	}
	k := b(api.FnNode)
	seen = slices.Clone(seen)
	for _, q := range p.Params {
		x := entity{kind: api.BindNode, name: m.name(), result: q}
		k.kids = append(k.kids, b(api.BindNode).text(x.name))
		seen = append(seen, x)
	}
	x, _ := m.term(p.Result.N, seen)
	k.kids = append(k.kids, x)
	return k
}

// isOf tells whether an entity is of a type.
func isOf(x entity, p api.Type) bool {
	return x.result == p.Result && slices.EqualFunc(x.params, p.Params, func(a api.Type, b api.Base) bool { return same(a, plain(b)) })
}

// spoilt returns a right tree that differs from another one in some things, so that it has errors more often than not.
func spoilt(d *dice, t api.Tree) api.Tree {
	for {
		u := api.Tree{Nodes: slices.Clone(t.Nodes)}
		for range 1 + d.below(3) {
			u = spoil(d, u)
		}
		if parse.Check(u) == api.OK && len(u.Nodes) > 1 {
			return u
		}
	}
}

// spoil changes one thing in nodes; what comes of it may be no tree.
func spoil(d *dice, t api.Tree) api.Tree {
	n := 1 + d.below(len(t.Nodes)-1)
	x := &t.Nodes[n]
	switch d.below(5) {
	case 0:
		if x.Text != "" {
			x.Text = pick(d, t.Nodes[1+d.below(len(t.Nodes)-1)].Text, "other")
		}
	case 1:
		x.N = pick(d, 0, 1, 2, 3, 4, 5, api.MaxSize, api.MaxSize+1)
	case 2:
		x.M = pick(d, 0, 1, 2, 3, 5)
	case 3:
		kinds := [][]uint8{{api.IntType, api.CellType}, {api.TrueNode, api.FalseNode, api.SkipNode, api.HangNode}, {api.NameNode, api.GetNode, api.JumpNode}, {api.OrNode, api.AndNode, api.EqNode, api.LessNode, api.AddNode, api.ChooseNode, api.WhileNode}, {api.DefItem, api.ExportItem}}
		for _, l := range kinds {
			if slices.Contains(l, x.Kind) {
				x.Kind = pick(d, l...)
			}
		}
	case 4:
		k := 1 + d.below(len(t.Nodes)-1)
		if part, e := parse.Sub(t, k); e == api.OK {
			if u, e := parse.Graft(t, n, part); e == api.OK {
				return u
			}
		}
	}
	return t
}
