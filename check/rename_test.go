package check_test

import (
	"slices"
	"strings"
	"testing"

	"riposte/api"
	"riposte/check"
	"riposte/parse"
)

// P3.7: each kind of declarations is renamed, with all that means it, and nothing else.
func TestRename(t *testing.T) {
	for _, x := range []struct{ s, want string }{
		{"^import a:com; def f(a2:com):com=a;a2; export g():com=a;", "import z:com;def f(a2:com):com=z;a2;export g():com=z;"},
		{"^def d(x:com):com=x; export f(x:com):com=d(x);d(d(x));", "def z(x:com):com=x;export f(x:com):com=z(x);z(z(x));"},
		{"^export f():com=skip; def g():com=skip;", "export z():com=skip;def g():com=skip;"},
		{"def d(^x:cell 3):com=x:=!x+1; def e(x:com):com=x;", "def d(z:cell 3):com=z:=!z+1;def e(x:com):com=x;"},
		{"export f():com=^new c:2:=0 in(c:=1;notice c:=1 in if !c then skip else hang);", "export f():com=new z:2:=0 in(z:=1;notice z:=1 in if!z then skip else hang);"},
		{"export f():com=^label l in(jump l;jump l)else skip;", "export f():com=label z in(jump z;jump z)else skip;"},
		{"def g(k:(com,com)->com):com=skip; export f():com=g(fn(^x,y)(x;y));", "def g(k:(com,com)->com):com=skip;export f():com=g(fn(z,y)(z;y));"},
		{"def g(c:cell 2):com=skip; export f():com=g({get 1;put ^v.if v then skip else hang});", "def g(c:cell 2):com=skip;export f():com=g({get 1;put z.if z then skip else hang});"},
		{"export f():com=(^new c:1:=0 in c:=0);new d:1:=0 in d:=0;", "export f():com=new z:1:=0 in z:=0;new d:1:=0 in d:=0;"},
	} {
		u, l := marked(t, x.s)
		v, e := check.Rename(u, l[0], "z")
		s, f := parse.Print(v)
		if strings.ReplaceAll(s, "\n", "") != x.want || e != api.OK || f != api.OK {
			t.Errorf("%s: %s, %v, %v", x.s, s, e, f)
		}
		// Nothing but names has changed.
		for n := range v.Nodes {
			v.Nodes[n].Text = u.Nodes[n].Text
		}
		if !slices.Equal(u.Nodes, v.Nodes) {
			t.Errorf("%s: %v, %v", x.s, u.Nodes, v.Nodes)
		}
	}
}

// P3.7: the names that it must not get, and those that it may.
func TestRenameErrors(t *testing.T) {
	const s = "import i:com; def d(x:com):com=label l in x else skip; export e(y:com):com=new c:1:=0 in(c:=0;d(y));"
	u := parsed(t, s)
	i, d, e := find(t, u, api.ImportItem, "i"), find(t, u, api.DefItem, "d"), find(t, u, api.ExportItem, "e")
	x, y, c, l := find(t, u, api.ParamNode, "x"), find(t, u, api.ParamNode, "y"), find(t, u, api.NewNode, "c"), find(t, u, api.LabelNode, "l")
	for _, z := range []struct {
		n    int
		name string
		e    api.Errno
	}{
		{c, "abcdefghijkl", api.OK},
		{c, "aZ09", api.OK},
		{c, "a", api.OK},
		{c, "abcdefghijklm", api.ErrArg},
		{c, "", api.ErrArg},
		{c, "A", api.ErrArg},
		{c, "1a", api.ErrArg},
		{c, "a b", api.ErrArg},
		{c, " a", api.ErrArg},
		{c, "a_", api.ErrArg},
		{c, "a\n", api.ErrArg},
		{c, "\xff", api.ErrArg},
		{c, "new", api.ErrArg},
		{c, "com", api.ErrArg},
		{c, ":=", api.ErrArg},
		{c, "7", api.ErrArg},
		// Its own name is no other one's.
		{i, "i", api.OK},
		{d, "d", api.OK},
		{c, "c", api.OK},
		{l, "l", api.OK},
		// An item must have no name that is there at all, all others none of their item, nor of any item.
		{i, "d", api.ErrTwice},
		{i, "e", api.ErrTwice},
		{i, "x", api.ErrTwice},
		{i, "c", api.ErrTwice},
		{i, "l", api.ErrTwice},
		{d, "i", api.ErrTwice},
		{d, "l", api.ErrTwice},
		{d, "y", api.ErrTwice},
		{e, "x", api.ErrTwice},
		{e, "d", api.ErrTwice},
		{x, "i", api.ErrTwice},
		{x, "d", api.ErrTwice},
		{x, "e", api.ErrTwice},
		{x, "l", api.ErrTwice},
		{x, "y", api.OK},
		{x, "c", api.OK},
		{l, "x", api.ErrTwice},
		{l, "e", api.ErrTwice},
		{l, "c", api.OK},
		{y, "c", api.ErrTwice},
		{c, "y", api.ErrTwice},
		{c, "x", api.OK},
		{c, "l", api.OK},
		{0, "z", api.ErrNone},
		{i + 1, "z", api.ErrNone},
		{c + 1, "new", api.ErrNone},
		{-1, "z", api.ErrRange},
		{len(u.Nodes), "new", api.ErrRange},
		{len(u.Nodes) - 1, "z", api.ErrNone},
	} {
		v, e := check.Rename(u, z.n, z.name)
		if e != z.e || (e != api.OK) != (len(v.Nodes) == 0) {
			t.Errorf("%d, %q: %v, %v instead of %v", z.n, z.name, v, e, z.e)
		}
		if e == api.OK && v.Nodes[z.n].Text != z.name {
			t.Errorf("%d, %q: %v", z.n, z.name, v)
		}
	}
}

// P3.7, R1: the errors of the program come in front of those of the node and the name, but behind ErrRange.
func TestRenameOrder(t *testing.T) {
	for _, x := range []struct {
		s    string
		n    int
		name string
		e    api.Errno
	}{
		{"export m():com=true;", 1, "z", api.ErrType},
		{"export m():com=true;", 3, "new", api.ErrType},
		{"export m():com=true;", 4, "new", api.ErrRange},
		{"export m():com=x;", 2, "z", api.ErrName},
		{"export m():int 65=0;", 1, "new", api.ErrRange},
		{"import a:com; import a:com;", 1, "z", api.ErrTwice},
		{"import a:com; import a:com;", 2, "", api.ErrTwice},
		{"import a:com; import b:com;", 2, "", api.ErrNone},
		{"import a:com; import b:com;", 1, "", api.ErrArg},
	} {
		if v, e := check.Rename(parsed(t, x.s), x.n, x.name); e != x.e || len(v.Nodes) != 0 {
			t.Errorf("%s: %v, %v", x.s, v, e)
		}
	}
}

// P3.7: any declaration of any program with any name of it: an error just if the model has one.
func TestRenameModel(t *testing.T) {
	d := dice(7)
	many := map[api.Errno]int{}
	for range 60 {
		u := makeProgram(&d)
		m := modelOf(u)
		for n, x := range u.Nodes {
			if !m.all[n].isDeclaration() {
				continue
			}
			name := pick(&d, "other", x.Text, u.Nodes[1+d.below(len(u.Nodes)-1)].Text)
			if name == "" {
				continue
			}
			want := api.Tree{Nodes: slices.Clone(u.Nodes)}
			for k, y := range m.all {
				if k == n || y.isName() && m.means(y) == m.all[n] {
					want.Nodes[k].Text = name
				}
			}
			_, wantE := modelOf(want).program()
			if wantE != api.OK {
				want = api.Tree{}
			}
			many[wantE]++
			if v, e := check.Rename(u, n, name); !slices.Equal(v.Nodes, want.Nodes) || e != wantE {
				t.Fatalf("%v: %d becomes %q: %v, %v", u.Nodes, n, name, v, e)
			}
		}
	}
	if many[api.OK] < 100 || many[api.ErrTwice] < 20 {
		t.Errorf("%v", many)
	}
}
