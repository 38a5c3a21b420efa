package check_test

import (
	"reflect"
	"slices"
	"strings"
	"testing"

	"riposte/api"
	"riposte/check"
)

// results calls all functions with a tree and a node, and returns what they return, and their errors.
func results(u api.Tree, n int, name string) ([][]any, []api.Errno) {
	var l [][]any
	var errors []api.Errno
	add := func(e api.Errno, x ...any) {
		l, errors = append(l, x), append(errors, e)
	}
	item, e := check.Item(u, n)
	add(e, item)
	means, e := check.Means(u, n)
	add(e, means)
	uses, e := check.Uses(u, n)
	add(e, uses)
	typ, e := check.Type(u, n)
	add(e, typ)
	size, e := check.Size(u, n)
	add(e, size)
	sight, e := check.Sight(u, n)
	add(e, sight)
	effects, e := check.Effects(u, n)
	add(e, effects)
	reach, e := check.Reach(u, n)
	add(e, reach)
	renamed, e := check.Rename(u, n, name)
	add(e, renamed)
	program, e := check.Program(u)
	add(e, program)
	arena, declared, e := check.Arena(u, name, true)
	add(e, arena, declared)
	return l, errors
}

// isZero tells whether results are zero values or lists without elements.
func isZero(l []any) bool {
	return !slices.ContainsFunc(l, func(x any) bool {
		v := reflect.ValueOf(x)
		return !v.IsZero() && (v.Kind() != reflect.Slice || v.Len() > 0)
	})
}

// wrongTrees returns trees that are not right, with their errors.
func wrongTrees() map[string]struct {
	nodes []api.TreeNode
	e     api.Errno
} {
	type tree = struct {
		nodes []api.TreeNode
		e     api.Errno
	}
	def := func(term branch) branch { return b(api.DefItem, baseBranch(base(false, 1)), term).text("f") }
	of := func(items ...branch) []api.TreeNode { return b(api.ProgramNode, items...).nodes() }
	nots := b(api.SkipNode)
	for range 59 {
		nots = b(api.NotNode, nots)
	}
	seq := b(api.SeqNode, slices.Repeat([]branch{b(api.SkipNode)}, 897)...)
	importOf := b(api.ImportItem, baseBranch(base(false, 1))).text("i")
	size := of(def(b(api.SkipNode)))
	size[1].Size = 1 << 62
	return map[string]tree{
		"no nodes":       {nil, api.ErrForm},
		"no program":     {def(b(api.SkipNode)).nodes(), api.ErrForm},
		"no such kind":   {of(b(99)), api.ErrForm},
		"no name":        {of(b(api.ImportItem, baseBranch(base(false, 1)))), api.ErrForm},
		"no term":        {of(b(api.DefItem, baseBranch(base(false, 1))).text("f")), api.ErrForm},
		"a wrong size":   {size, api.ErrForm},
		"a wrong number": {of(def(b(api.NumNode).numbers(-1, 0))), api.ErrForm},
		"too deep":       {of(def(nots)), api.ErrLimit},
		"too many items": {of(slices.Repeat([]branch{importOf}, 25)...), api.ErrLimit},
		"too many nodes": {of(def(seq)), api.ErrLimit},
	}
}

// P1, R1, R2, R8: the errors of a tree come in front of all others, in all functions, with zero values.
func TestWrongTrees(t *testing.T) {
	for what, x := range wrongTrees() {
		for _, n := range []int{-1, 0, 1, 3, 1000, -1 << 63, 1<<63 - 1} {
			for _, name := range []string{"f", "z", "new", ""} {
				l, errors := results(api.Tree{Nodes: x.nodes}, n, name)
				for i := range l {
					if errors[i] != x.e || !isZero(l[i]) {
						t.Errorf("%s: function %d of %d: %v, %v", what, i, n, l[i], errors[i])
					}
				}
			}
		}
	}
}

// P1, R1, R2: a node that there is not is told of in front of all errors behind those of the tree.
func TestNoSuchNode(t *testing.T) {
	for _, s := range []string{"", everything, "export m():com=true;", "import a:com; import a:com;"} {
		u := parsed(t, s)
		for _, n := range []int{-1, len(u.Nodes), len(u.Nodes) + 1, -1 << 63, 1<<63 - 1} {
			l, errors := results(u, n, "new")
			for i := range l[:9] {
				if errors[i] != api.ErrRange || !isZero(l[i]) {
					t.Errorf("%s: function %d of %d: %v, %v", s, i, n, l[i], errors[i])
				}
			}
		}
	}
}

// R2: with an error all results are zero values, but the node that Item and Program tell.
func TestZeroWithErrors(t *testing.T) {
	programs(15, func(u api.Tree) {
		for n := range u.Nodes {
			l, errors := results(u, n, "v1")
			for i := range l {
				if isNode := i == 0 || i == 9; errors[i] != api.OK && !isZero(l[i]) && !isNode {
					t.Fatalf("%v: function %d of %d: %v, %v", u, i, n, l[i], errors[i])
				}
			}
			if errors[0] == api.ErrNone && l[0][0] != 0 {
				t.Fatalf("%v: Item of %d: %v", u, n, l[0])
			}
		}
	})
}

// R7: trees that reach their limits.
func TestGreatTrees(t *testing.T) {
	skips := slices.Repeat([]branch{b(api.SkipNode)}, api.MaxNodes-4)
	u := b(api.ProgramNode, b(api.DefItem, baseBranch(base(false, 1)), b(api.SeqNode, skips...)).text("f")).tree()
	deep := b(api.TrueNode)
	for range api.MaxDepth - 2 {
		deep = b(api.NotNode, deep)
	}
	v := b(api.ProgramNode, b(api.DefItem, baseBranch(base(false, 2)), deep).text("f")).tree()
	items := ""
	for i := range api.MaxItems {
		items += "def f" + itoa(i) + "():com=" + strings.Repeat("f"+itoa(max(0, i-1))+";", min(i, 1)) + "skip;"
	}
	w := parsed(t, items)
	for i, x := range []api.Tree{u, v, w} {
		n, e := check.Program(x)
		last := len(x.Nodes) - 1
		s, f := check.Size(x, last)
		if n != 0 || e != api.OK || s != []int{1, 2, 1}[i] || f != api.OK {
			t.Errorf("%d: %d, %v; %d, %v", i, n, e, s, f)
		}
	}
	if len(u.Nodes) != api.MaxNodes {
		t.Errorf("%d nodes", len(u.Nodes))
	}
	if l, e := check.Reach(w, find(t, w, api.DefItem, "f23")); len(l) != api.MaxItems-1 || e != api.OK {
		t.Errorf("Reach: %v, %v", l, e)
	}
}

// P2, R4: results are equal for equal arguments, which stay as they are, with what lies behind their ends; what is written into results changes nothing.
func TestNothingIsShared(t *testing.T) {
	u := parsed(t, everything)
	all := append(slices.Clone(u.Nodes), api.TreeNode{Kind: 77, Text: "spare"}, api.TreeNode{Kind: 78, Text: "room"})
	was := slices.Clone(all)
	v := api.Tree{Nodes: all[:len(u.Nodes)]}
	for n := range u.Nodes {
		want, wantE := results(u, n, "e")
		got, e := results(v, n, "e")
		if !reflect.DeepEqual(got, want) || !slices.Equal(e, wantE) {
			t.Fatalf("%d: %v, %v instead of %v, %v", n, got, e, want, wantE)
		}
		for _, l := range got {
			spoilAll(l)
		}
		if !slices.Equal(all, was) {
			t.Fatalf("%d: the argument was changed: %v", n, all)
		}
		if again, e := results(v, n, "e"); !reflect.DeepEqual(again, want) || !slices.Equal(e, wantE) {
			t.Fatalf("%d: %v, %v instead of %v, %v", n, again, e, want, wantE)
		}
	}
}

// spoilAll writes into all lists of results, and into their spare room.
func spoilAll(l []any) {
	bases := func(x []api.Base) {
		x = x[:cap(x)]
		for i := range x {
			x[i] = base(true, -1)
		}
	}
	for _, x := range l {
		switch x := x.(type) {
		case []int:
			x = x[:cap(x)]
			for i := range x {
				x[i] = -1
			}
		case api.Type:
			bases(x.Params)
		case api.Tree:
			x.Nodes = x.Nodes[:cap(x.Nodes)]
			for i := range x.Nodes {
				x.Nodes[i] = api.TreeNode{Kind: 99, Text: "spoilt"}
			}
		case []api.Declared:
			for i := range x {
				bases(x[i].Type.Params)
			}
		case api.Arena:
			for i := range x.Ids {
				bases(x.Ids[i].Params)
			}
		}
	}
}

// R4: the types of an arena and those of its identifiers share no memory, nor do two types of one of them.
func TestArenaIsApart(t *testing.T) {
	u := parsed(t, "import a:(int 3,cell 4)->com; import b:(int 3,cell 4)->com; export f(k:(int 3,cell 4)->com):com=skip;")
	want := arrow(base(false, 1), base(false, 3), base(true, 4))
	for i := range 6 {
		a, l, e := check.Arena(u, "f", false)
		types := append(slices.Clone(a.Ids), l[0].Type, l[1].Type, l[2].Type)
		// What lies behind the end of a list is memory as well.
		spoilAll([]any{types[i]})
		for k, x := range types {
			if k != i && !same(x, want) || e != api.OK {
				t.Errorf("%d changed %d: %v, %v", i, k, x, e)
			}
		}
	}
}

// R3: a nil list of nodes is an empty one.
func TestNilNodes(t *testing.T) {
	a, e := results(api.Tree{}, 0, "f")
	b, f := results(api.Tree{Nodes: []api.TreeNode{}}, 0, "f")
	if !reflect.DeepEqual(a, b) || !slices.Equal(e, f) {
		t.Errorf("%v, %v; %v, %v", a, e, b, f)
	}
}

// The places of nodes do not matter, whatever they are.
func TestPlacesDoNotMatter(t *testing.T) {
	u := parsed(t, everything)
	v := api.Tree{Nodes: slices.Clone(u.Nodes)}
	for n := range v.Nodes {
		v.Nodes[n].At = -n * 1000000007
	}
	for n := range u.Nodes {
		want, wantE := results(u, n, "e")
		got, e := results(v, n, "e")
		if !reflect.DeepEqual(got[:8], want[:8]) || !reflect.DeepEqual(got[9:], want[9:]) || !slices.Equal(e, wantE) {
			t.Fatalf("%d: %v, %v instead of %v, %v", n, got, e, want, wantE)
		}
		x, e1 := check.Rename(v, n, "other")
		y, e2 := check.Rename(u, n, "other")
		for k := range x.Nodes {
			if x.Nodes[k].At != v.Nodes[k].At || x.Nodes[k].Text != y.Nodes[k].Text {
				t.Fatalf("Rename of %d: %v", n, x.Nodes[k])
			}
		}
		if e1 != e2 {
			t.Fatalf("Rename of %d: %v, %v", n, e1, e2)
		}
	}
}
