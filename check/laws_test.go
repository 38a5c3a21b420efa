package check_test

import (
	"slices"
	"testing"

	"riposte/api"
	"riposte/check"
	"riposte/parse"
)

// programs calls something with programs without errors, and with others.
func programs(many int, with func(u api.Tree)) {
	d := dice(2026)
	for range many {
		u := makeProgram(&d)
		with(u)
		with(spoilt(&d, u))
	}
}

// kids returns the kids of a node.
func kids(t *testing.T, u api.Tree, n int) []int {
	t.Helper()
	l, e := parse.Kids(u, n)
	if e != api.OK {
		t.Fatalf("Kids: %v", e)
	}
	return l
}

// P3.8: a program has no error just if no item has one; its error is that of its first item that has one. Then all names mean something, and each is used by just one declaration.
func TestWhole(t *testing.T) {
	programs(60, func(u api.Tree) {
		n, e := check.Program(u)
		first, want := 0, api.OK
		for _, item := range kids(t, u, 0) {
			if first, want = check.Item(u, item); want != api.OK {
				break
			}
		}
		if n != first || e != want {
			t.Fatalf("%v: Program %d, %v; of its items %d, %v", u, n, e, first, want)
		}
		users := map[int]int{}
		for k := range u.Nodes {
			l, _ := check.Uses(u, k)
			for _, x := range l {
				if users[x] != 0 {
					t.Fatalf("%v: %d is used by %d and %d", u, x, users[x], k)
				}
				users[x] = k
			}
		}
		for k := range u.Nodes {
			d, f := check.Means(u, k)
			if users[k] != d || e == api.OK && f == api.ErrName {
				t.Fatalf("%v: %d means %d, %v; it is used by %d", u, k, d, f, users[k])
			}
		}
	})
}

// cut returns a program without what stands behind an item.
func cut(u api.Tree, item int) api.Tree {
	v := api.Tree{Nodes: slices.Clone(u.Nodes[:item+u.Nodes[item].Size])}
	v.Nodes[0].Size = len(v.Nodes)
	return v
}

// P3.9: an item hangs on those before it, but for ErrTwice.
func TestOnlyBefore(t *testing.T) {
	programs(50, func(u api.Tree) {
		for _, item := range kids(t, u, 0) {
			v := cut(u, item)
			n, e := check.Item(u, item)
			if k, f := check.Item(v, item); e != api.ErrTwice && (k != n || f != e) {
				t.Fatalf("%v: Item %d: %d, %v and %d, %v", u, item, n, e, k, f)
			}
			x, e := check.Type(u, item)
			if y, f := check.Type(v, item); !same(x, y) || e != f {
				t.Fatalf("%v: Type %d: %v, %v and %v, %v", u, item, x, e, y, f)
			}
			effects, e := check.Effects(u, item)
			if y, f := check.Effects(v, item); y != effects || e != api.OK || f != api.OK {
				t.Fatalf("%v: Effects %d: %d and %d", u, item, effects, y)
			}
			l, e := check.Reach(u, item)
			if m, f := check.Reach(v, item); !slices.Equal(l, m) || e != api.OK || f != api.OK {
				t.Fatalf("%v: Reach %d: %v and %v", u, item, l, m)
			}
		}
	})
	// The exception: a name that comes behind.
	u := parsed(t, "def f(a:com):com=skip; import a:com;")
	n, e := check.Item(u, 1)
	k, f := check.Item(cut(u, 1), 1)
	if n != 2 || e != api.ErrTwice || k != 0 || f != api.OK {
		t.Errorf("%d, %v; %d, %v", n, e, k, f)
	}
}

// P3.10: in an item without an error each term that has an own size is given this, and both kids of an operation have one size.
func TestSizes(t *testing.T) {
	operations := []uint8{api.OrNode, api.AndNode, api.EqNode, api.LessNode, api.AddNode, api.SubNode, api.MulNode}
	terms, pairs := 0, 0
	programs(50, func(u api.Tree) {
		m := modelOf(u)
		for n, x := range m.all {
			if !x.isTerm() {
				continue
			}
			if _, e := check.Item(u, x.item().n); e != api.OK {
				continue
			}
			s, e := check.Size(u, n)
			if own := m.own(x); own != 0 {
				terms++
				if s != own || e != api.OK {
					t.Fatalf("%v: %d has the own size %d, but %d, %v", u, n, own, s, e)
				}
			}
			if !slices.Contains(operations, x.Kind) {
				continue
			}
			pairs++
			a, e := check.Size(u, x.kids[0].n)
			b, f := check.Size(u, x.kids[1].n)
			if a != b || e != api.OK || f != api.OK {
				t.Fatalf("%v: %d has kids of %d and %d", u, n, a, b)
			}
		}
	})
	if terms < 500 || pairs < 50 {
		t.Errorf("%d terms, %d pairs", terms, pairs)
	}
}

// said is all that is told of a node, but for names.
type said struct {
	means, size, effects int
	typ                  api.Type
	errors               [4]api.Errno
}

func saidOf(u api.Tree, n int) said {
	var x said
	x.means, x.errors[0] = check.Means(u, n)
	x.size, x.errors[1] = check.Size(u, n)
	x.effects, x.errors[2] = check.Effects(u, n)
	x.typ, x.errors[3] = check.Type(u, n)
	return x
}

func (x said) is(y said) bool {
	return x.means == y.means && x.size == y.size && x.effects == y.effects && x.errors == y.errors && same(x.typ, y.typ)
}

// P3.11: a program in which a declaration has another name says the same, but for names; renamed back it is what it was.
func TestRenamed(t *testing.T) {
	d := dice(11)
	for range 40 {
		u := makeProgram(&d)
		for n, x := range u.Nodes {
			v, e := check.Rename(u, n, "other")
			if e == api.ErrNone {
				continue
			}
			if k, f := check.Program(v); e != api.OK || k != 0 || f != api.OK {
				t.Fatalf("%v: %d renamed: %v; %d, %v", u, n, e, k, f)
			}
			if d.below(4) == 0 {
				for k := range u.Nodes {
					if a, b := saidOf(u, k), saidOf(v, k); !a.is(b) {
						t.Fatalf("%v: %d renamed: %v instead of %v of %d", u, n, b, a, k)
					}
				}
			}
			holdRenamedArenas(t, u, v)
			if w, e := check.Rename(v, n, x.Text); !slices.Equal(w.Nodes, u.Nodes) || e != api.OK {
				t.Fatalf("%v: %d renamed there and back: %v, %v", u, n, w, e)
			}
		}
	}
}

// holdRenamedArenas holds the arenas of a program against those of one in which names differ.
func holdRenamedArenas(t *testing.T, u, v api.Tree) {
	t.Helper()
	for n, x := range u.Nodes {
		if x.Kind != api.ExportItem {
			continue
		}
		a, l, e := check.Arena(u, x.Text, true)
		b, m, f := check.Arena(v, v.Nodes[n].Text, true)
		for i := range min(len(l), len(m)) {
			l[i].Name, m[i].Name = "", ""
		}
		if !sameArena(a, b) || !sameDeclared(l, m) || e != f {
			t.Fatalf("%v, %v: arenas %v, %v, %v and %v, %v, %v", u, v, a, l, e, b, m, f)
		}
	}
}

// P3.12: effects come from nodes, of the item and of what it reaches, and from nothing else.
func TestEffects(t *testing.T) {
	ofKind := map[uint8]int{api.NewNode: api.EffCells, api.GetNode: api.EffCells, api.PutNode: api.EffCells, api.NoticeNode: api.EffCells, api.JumpNode: api.EffJumps, api.ChooseNode: api.EffChoices, api.WhileNode: api.EffLoops, api.HangNode: api.EffHangs}
	programs(50, func(u api.Tree) {
		for _, item := range kids(t, u, 0) {
			want := 0
			for _, x := range u.Nodes[item : item+u.Nodes[item].Size] {
				want |= ofKind[x.Kind]
			}
			l, _ := check.Reach(u, item)
			for _, d := range l {
				effects, e := check.Effects(u, d)
				want |= effects
				if e != api.OK || u.Nodes[d].Kind != api.DefItem || d >= item {
					t.Fatalf("%v: %d reaches %d: %v", u, item, d, e)
				}
			}
			if got, e := check.Effects(u, item); got != want || e != api.OK {
				t.Fatalf("%v: effects of %d: %d, %v instead of %d", u, item, got, e, want)
			}
		}
	})
}

// P3.13: what a node means is in sight there; what is in sight at a node is so at its kids.
func TestInSight(t *testing.T) {
	programs(40, func(u api.Tree) {
		for n := range u.Nodes {
			l, e := check.Sight(u, n)
			if e != api.OK {
				t.Fatalf("%v: Sight of %d: %v", u, n, e)
			}
			if d, e := check.Means(u, n); e == api.OK && !slices.Contains(l, d) {
				t.Fatalf("%v: %d means %d, which is not among %v", u, n, d, l)
			}
			for _, k := range kids(t, u, n) {
				m, _ := check.Sight(u, k)
				for _, d := range l {
					if !slices.Contains(m, d) {
						t.Fatalf("%v: %d is in sight at %d, but not at %d", u, d, n, k)
					}
				}
			}
		}
	})
}
