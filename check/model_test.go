package check_test

import (
	"slices"
	"testing"

	"riposte/api"
	"riposte/check"
	"riposte/parse"
)

// The model follows the chapter in another way than check does: by nodes that point to each other, and for each question anew.

// node is a node of a tree that knows its number, its kids and what is above it.
type node struct {
	api.TreeNode
	n    int
	up   *node
	kids []*node
}

// model is a tree of nodes.
type model struct {
	all   []*node
	wrong map[int]bool // filled by errorOf: which nodes have ErrType
	sizes map[int]int  // filled by errorOf: which sizes terms are given
}

// modelOf returns the model of a right tree.
func modelOf(t api.Tree) *model {
	m := &model{}
	var add func(up *node) *node
	add = func(up *node) *node {
		n := len(m.all)
		x := &node{TreeNode: t.Nodes[n], n: n, up: up}
		m.all = append(m.all, x)
		for len(m.all) < n+x.Size {
			x.kids = append(x.kids, add(x))
		}
		return x
	}
	add(nil)
	return m
}

func (x *node) is(kinds ...uint8) bool { return slices.Contains(kinds, x.Kind) }

func (x *node) last() *node { return x.kids[len(x.kids)-1] }

func (x *node) isItem() bool { return x.is(api.ImportItem, api.DefItem, api.ExportItem) }

func (x *node) isDeclaration() bool {
	return x.isItem() || x.is(api.ParamNode, api.NewNode, api.LabelNode, api.BindNode)
}

func (x *node) isName() bool {
	return x.is(api.NameNode, api.CallNode, api.GetNode, api.PutNode, api.NoticeNode, api.JumpNode)
}

func (x *node) isTerm() bool { return x.Kind >= api.SeqNode && x.Kind <= api.CallNode }

// item returns the item in which a node is, nil for the program.
func (x *node) item() *node {
	for ; x != nil; x = x.up {
		if x.isItem() {
			return x
		}
	}
	return nil
}

// isBelow tells whether a node is another one or below it.
func (x *node) isBelow(y *node) bool {
	for ; x != nil; x = x.up {
		if x == y {
			return true
		}
	}
	return false
}

// sees tells whether a declaration is in sight at a node, as the chapter's table says.
func (x *node) sees(d *node) bool {
	switch d.Kind {
	case api.ImportItem, api.DefItem:
		return x.item() != nil && x.item().n > d.n
	case api.ParamNode:
		return x.isBelow(d.up.last())
	case api.NewNode, api.LabelNode:
		return x.isBelow(d.kids[0])
	case api.BindNode:
		return x.isBelow(d.up.last())
	}
	return false
}

// sight returns the declarations in sight.
func (m *model) sight(x *node) []int {
	var l []int
	for _, d := range m.all {
		if d.isDeclaration() && x.sees(d) {
			l = append(l, d.n)
		}
	}
	return l
}

// means returns what a node means, or nil.
func (m *model) means(x *node) *node {
	var found *node
	for _, n := range m.sight(x) {
		d := m.all[n]
		if d.Text == x.Text && d.is(api.LabelNode) == x.is(api.JumpNode) {
			found = d
		}
	}
	return found
}

// written returns the type that nodes say.
func written(x *node) api.Type {
	if x.is(api.ArrowType) {
		y := api.Type{}
		for _, k := range x.kids {
			y.Params = append(y.Params, written(k).Result)
		}
		last := len(y.Params) - 1
		y.Result, y.Params = y.Params[last], y.Params[:last]
		return y
	}
	return plain(base(x.is(api.CellType), x.N))
}

// params returns the types of the params of a declaration.
func (m *model) params(d *node) []api.Type {
	if d == nil {
		return nil
	}
	var l []api.Type
	if d.is(api.DefItem) {
		for _, k := range d.kids[:len(d.kids)-2] {
			l = append(l, written(k.kids[0]))
		}
		return l
	}
	x, ok := m.typeOf(d)
	if !ok {
		return nil
	}
	for _, p := range x.Params {
		l = append(l, plain(p))
	}
	return l
}

// typeOf returns the type of a declaration, if it has one.
func (m *model) typeOf(d *node) (api.Type, bool) {
	if d == nil {
		return api.Type{}, false
	}
	switch d.Kind {
	case api.ImportItem, api.ParamNode:
		return written(d.kids[0]), true
	case api.NewNode:
		return plain(base(true, d.N)), true
	case api.DefItem, api.ExportItem:
		x := written(d.kids[len(d.kids)-2])
		for _, k := range d.kids[:len(d.kids)-2] {
			if k.kids[0].is(api.ArrowType) {
				return api.Type{}, false
			}
			x.Params = append(x.Params, written(k.kids[0]).Result)
		}
		return x, true
	case api.BindNode:
		params := m.params(m.means(d.up.up))
		k := slices.Index(d.up.up.kids, d.up)
		if k >= len(params) {
			return api.Type{}, false
		}
		p := params[k]
		if d.up.is(api.ObjectNode) {
			if len(p.Params) == 0 && p.Result.Cell {
				return plain(base(false, p.Result.N)), true
			}
			return api.Type{}, false
		}
		if len(p.Params) != len(d.up.kids)-1 {
			return api.Type{}, false
		}
		return plain(p.Params[slices.Index(d.up.kids, d)]), true
	}
	return api.Type{}, false
}

// result returns the base that a call of a declaration tells.
func (m *model) result(d *node) api.Base {
	if d != nil && d.is(api.DefItem) {
		return written(d.kids[len(d.kids)-2]).Result
	}
	x, ok := m.typeOf(d)
	if !ok {
		return api.Base{}
	}
	return x.Result
}

// isPlain tells whether a declaration has a type that is a base, and which one.
func (m *model) isPlain(d *node) (api.Base, bool) {
	x, ok := m.typeOf(d)
	return x.Result, ok && len(x.Params) == 0
}

// own returns the own size of a term.
func (m *model) own(x *node) int {
	switch x.Kind {
	case api.TrueNode, api.FalseNode, api.OrNode, api.AndNode, api.NotNode, api.EqNode, api.LessNode:
		return 2
	case api.SkipNode, api.HangNode, api.JumpNode, api.WhileNode, api.PutNode:
		return 1
	case api.AsNode:
		return x.N
	case api.GetNode, api.NameNode:
		if p, ok := m.isPlain(m.means(x)); ok && p.Cell == x.is(api.GetNode) {
			return p.N
		}
	case api.CallNode:
		return m.result(m.means(x)).N
	case api.NewNode, api.NoticeNode, api.SeqNode:
		return m.own(x.last())
	case api.LabelNode, api.ChooseNode, api.AddNode, api.SubNode, api.MulNode:
		return first(m.own(x.kids[0]), m.own(x.kids[1]))
	case api.IfNode:
		return first(m.own(x.kids[1]), m.own(x.kids[2]))
	}
	return 0
}

// give gives a term a size.
func (m *model) give(x *node, s int) {
	if !m.fits(x, s) {
		m.wrong[x.n] = true
		return
	}
	m.sizes[x.n] = s
	switch x.Kind {
	case api.PutNode:
		p, _ := m.isPlain(m.means(x))
		m.give(x.kids[0], p.N)
	case api.SeqNode:
		for _, k := range x.kids[:len(x.kids)-1] {
			m.give(k, 1)
		}
		m.give(x.last(), s)
	case api.IfNode:
		m.giveOwn(x.kids[0])
		m.give(x.kids[1], s)
		m.give(x.kids[2], s)
	case api.WhileNode:
		m.giveOwn(x.kids[0])
		m.give(x.kids[1], 1)
	case api.NewNode, api.NoticeNode, api.LabelNode, api.ChooseNode, api.AddNode, api.SubNode, api.MulNode, api.OrNode, api.AndNode, api.NotNode:
		for _, k := range x.kids {
			m.give(k, s)
		}
	case api.EqNode, api.LessNode:
		for _, k := range x.kids {
			m.give(k, first(m.own(x.kids[0]), m.own(x.kids[1])))
		}
	case api.AsNode:
		if x.kids[0].is(api.NumNode) {
			m.sizes[x.kids[0].n] = x.N
		} else {
			m.giveOwn(x.kids[0])
		}
	case api.CallNode:
		for i, p := range m.params(m.means(x)) {
			m.arg(x.kids[i], p)
		}
	}
}

func (m *model) giveOwn(x *node) {
	if s := m.own(x); s == 0 {
		m.wrong[x.n] = true
	} else {
		m.give(x, s)
	}
}

// fits tells whether a term fits a size.
func (m *model) fits(x *node, s int) bool {
	d := m.means(x)
	p, isPlain := m.isPlain(d)
	switch x.Kind {
	case api.NumNode:
		return x.N < s
	case api.TrueNode, api.FalseNode, api.OrNode, api.AndNode, api.NotNode:
		return s == 2
	case api.SkipNode, api.HangNode, api.JumpNode, api.WhileNode:
		return s == 1
	case api.NameNode:
		return isPlain && p == base(false, s)
	case api.GetNode:
		return isPlain && p == base(true, s)
	case api.PutNode:
		return isPlain && p.Cell && s == 1
	case api.NoticeNode:
		return d != nil && d.is(api.NewNode) && d.N > x.N
	case api.EqNode, api.LessNode:
		return s == 2 && (m.own(x.kids[0]) != 0 || m.own(x.kids[1]) != 0)
	case api.AsNode:
		return s == x.N
	case api.CallNode:
		return len(m.params(d)) == len(x.kids) && m.result(d).N == s
	}
	return true
}

// arg looks at an argument.
func (m *model) arg(x *node, p api.Type) {
	y, ok := m.typeOf(m.means(x))
	switch {
	case len(p.Params) == 0 && !p.Result.Cell:
		if x.isTerm() {
			m.give(x, p.Result.N)
			return
		}
	case x.is(api.NameNode):
		if ok && same(y, p) {
			return
		}
	case x.is(api.ObjectNode) && len(p.Params) == 0:
		m.give(x.kids[0], p.Result.N)
		m.give(x.kids[2], 1)
		return
	case x.is(api.FnNode) && len(p.Params) == len(x.kids)-1:
		m.give(x.last(), p.Result.N)
		return
	}
	m.wrong[x.n] = true
}

// errorOf returns the error of an item, and its node.
func (m *model) errorOf(item *node) (int, api.Errno) {
	m.wrong, m.sizes = map[int]bool{}, map[int]int{}
	if !item.is(api.ImportItem) {
		p := item.kids[len(item.kids)-2]
		m.wrong[p.n] = p.is(api.CellType)
		m.give(item.last(), p.N)
	}
	for _, x := range []struct {
		e  api.Errno
		is func(x *node) bool
	}{
		{api.ErrTwice, func(x *node) bool { return m.isTwice(x, item) }},
		{api.ErrRange, func(x *node) bool {
			return x.is(api.IntType, api.CellType, api.AsNode, api.NewNode) && (x.N < 1 || x.N > 64) || x.is(api.NewNode) && x.M >= x.N
		}},
		{api.ErrName, func(x *node) bool { return x.isName() && m.means(x) == nil }},
		{api.ErrType, func(x *node) bool { return m.wrong[x.n] }},
	} {
		for _, y := range m.all {
			if y.isBelow(item) && x.is(y) {
				return y.n, x.e
			}
		}
	}
	return 0, api.OK
}

// isTwice tells whether a node of an item has a name that is there already.
func (m *model) isTwice(x, item *node) bool {
	if !x.isDeclaration() {
		return false
	}
	for _, d := range m.all {
		if !d.isDeclaration() || d == x || d.Text != x.Text {
			continue
		}
		if d.isItem() && (d.n < x.n || x != item) || d.isBelow(item) && d.n < x.n {
			return true
		}
	}
	return false
}

// reach returns the definitions that an item uses.
func (m *model) reach(item *node) []int {
	var l []int
	for _, x := range m.all {
		if d := m.means(x); x.isBelow(item) && x.isName() && d != nil && d.is(api.DefItem) {
			l = append(l, d.n)
			l = append(l, m.reach(d)...)
		}
	}
	slices.Sort(l)
	return slices.Compact(l)
}

// effects returns the effects of items.
func (m *model) effects(items ...int) int {
	all := 0
	for _, x := range m.all {
		if x.item() == nil || !slices.Contains(items, x.item().n) {
			continue
		}
		switch x.Kind {
		case api.NewNode, api.GetNode, api.PutNode, api.NoticeNode:
			all |= api.EffCells
		case api.JumpNode:
			all |= api.EffJumps
		case api.ChooseNode:
			all |= api.EffChoices
		case api.WhileNode:
			all |= api.EffLoops
		case api.HangNode:
			all |= api.EffHangs
		}
	}
	return all
}

// program returns the error of the first item that has one, and its node.
func (m *model) program() (int, api.Errno) {
	for _, x := range m.all[0].kids {
		if n, e := m.errorOf(x); e != api.OK {
			return n, e
		}
	}
	return 0, api.OK
}

// arena returns the arena of an export, and its identifiers.
func (m *model) arena(name string, jumps bool) (api.Arena, []api.Declared, api.Errno) {
	if _, e := m.program(); e != api.OK {
		return api.Arena{}, nil, e
	}
	for _, x := range m.all[0].kids {
		if !x.is(api.ExportItem) || x.Text != name {
			continue
		}
		var l []api.Declared
		for _, y := range append(slices.Clone(m.all[0].kids), x.kids...) {
			if y.is(api.ImportItem, api.ParamNode) {
				l = append(l, api.Declared{Name: y.Text, Type: written(y.kids[0])})
			}
		}
		a := api.Arena{Root: written(x.kids[len(x.kids)-2]).Result, Jumps: jumps}
		for _, d := range l {
			if a.Ids = append(a.Ids, d.Type); len(a.Ids) > 8 || len(d.Type.Params) > 5 {
				return api.Arena{}, nil, api.ErrLimit
			}
		}
		return a, l, api.OK
	}
	return api.Arena{}, nil, api.ErrNone
}

// hold holds all that check says of a tree against the model.
func hold(t *testing.T, u api.Tree) {
	t.Helper()
	m := modelOf(u)
	differ := func(what string, n int, got, want any) {
		s, _ := parse.Print(u)
		t.Fatalf("%s of %d: %v instead of %v: %s\n%v", what, n, got, want, s, u.Nodes)
	}
	n, e := check.Program(u)
	if k, f := m.program(); n != k || e != f {
		differ("Program", 0, []any{n, e}, []any{k, f})
	}
	for _, x := range m.all {
		l, e := check.Sight(u, x.n)
		if want := m.sight(x); !slices.Equal(l, want) || e != api.OK {
			differ("Sight", x.n, []any{l, e}, want)
		}
		holdItem(m, u, x, differ)
		holdNames(m, u, x, differ)
		holdSize(m, u, x, differ)
	}
	for _, x := range m.all {
		if !x.isItem() && x.n%7 > 0 {
			continue
		}
		a, l, e := check.Arena(u, x.Text, x.n%2 == 0)
		b, k, f := m.arena(x.Text, x.n%2 == 0)
		if !sameArena(a, b) || !sameDeclared(l, k) || e != f {
			differ("Arena", x.n, []any{a, l, e}, []any{b, k, f})
		}
	}
}

func holdItem(m *model, u api.Tree, x *node, differ func(string, int, any, any)) {
	n, e := check.Item(u, x.n)
	l, f := check.Reach(u, x.n)
	effects, g := check.Effects(u, x.n)
	if !x.isItem() {
		if n != 0 || len(l) != 0 || effects != 0 || e != api.ErrNone || f != e || g != e {
			differ("Item, Reach, Effects", x.n, []any{n, l, effects, e, f, g}, "ErrNone")
		}
		return
	}
	if k, want := m.errorOf(x); n != k || e != want {
		differ("Item", x.n, []any{n, e}, []any{k, want})
	}
	reach := m.reach(x)
	if !slices.Equal(l, reach) || f != api.OK {
		differ("Reach", x.n, []any{l, f}, reach)
	}
	if want := m.effects(append(reach, x.n)...); effects != want || g != api.OK {
		differ("Effects", x.n, []any{effects, g}, want)
	}
}

func holdNames(m *model, u api.Tree, x *node, differ func(string, int, any, any)) {
	means, wantE := 0, api.ErrNone
	if x.isName() {
		wantE = api.ErrName
		if d := m.means(x); d != nil {
			means, wantE = d.n, api.OK
		}
	}
	if d, e := check.Means(u, x.n); d != means || e != wantE {
		differ("Means", x.n, []any{d, e}, []any{means, wantE})
	}
	var uses []int
	usesE, typeE := api.ErrNone, api.ErrNone
	var want api.Type
	if x.isDeclaration() {
		usesE = api.OK
		for _, y := range m.all {
			if y.isName() && m.means(y) == x {
				uses = append(uses, y.n)
			}
		}
		if !x.is(api.LabelNode) {
			typeE = api.ErrType
			if y, ok := m.typeOf(x); ok {
				want, typeE = y, api.OK
			}
		}
	}
	if l, e := check.Uses(u, x.n); !slices.Equal(l, uses) || e != usesE {
		differ("Uses", x.n, []any{l, e}, []any{uses, usesE})
	}
	if y, e := check.Type(u, x.n); !same(y, want) || e != typeE {
		differ("Type", x.n, []any{y, e}, []any{want, typeE})
	}
}

func holdSize(m *model, u api.Tree, x *node, differ func(string, int, any, any)) {
	want, wantE := 0, api.ErrNone
	if x.isTerm() {
		_, wantE = m.errorOf(x.item())
		if s, ok := m.sizes[x.n]; ok && wantE == api.OK {
			want = s
		} else if wantE == api.OK {
			wantE = api.ErrNone
		}
	}
	if s, e := check.Size(u, x.n); s != want || e != wantE {
		differ("Size", x.n, []any{s, e}, []any{want, wantE})
	}
}

// P3.1 to P3.6: what check says of programs without errors is what the model says, and that they have none.
func TestModelOfRightPrograms(t *testing.T) {
	d := dice(3)
	nodes := 0
	for range 60 {
		u := makeProgram(&d)
		if n, e := check.Program(u); e != api.OK {
			s, _ := parse.Print(u)
			t.Fatalf("Program: %d, %v: %s\n%v", n, e, s, u.Nodes)
		}
		hold(t, u)
		nodes += len(u.Nodes)
	}
	if nodes < 60*20 {
		t.Errorf("%d nodes in all", nodes)
	}
}

// P3.1 to P3.6: so is what it says of programs with errors; all errors come, each more than a few times.
func TestModelOfSpoiltPrograms(t *testing.T) {
	d := dice(33)
	many := map[api.Errno]int{}
	for range 200 {
		u := spoilt(&d, makeProgram(&d))
		hold(t, u)
		_, e := check.Program(u)
		many[e]++
	}
	for _, e := range []api.Errno{api.OK, api.ErrTwice, api.ErrRange, api.ErrName, api.ErrType} {
		if many[e] < 5 {
			t.Errorf("%v came %d times", e, many[e])
		}
	}
}
