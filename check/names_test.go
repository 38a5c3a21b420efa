package check_test

import (
	"slices"
	"strings"
	"testing"

	"riposte/api"
	"riposte/check"
)

// marked returns the tree of a text, and the nodes in front of whose tokens it has a ^.
func marked(t *testing.T, s string) (api.Tree, []int) {
	t.Helper()
	parts := strings.Split(s, "^")
	u := parsed(t, strings.Join(parts, ""))
	var l []int
	at := 0
	for _, p := range parts[:len(parts)-1] {
		at += len(p)
		l = append(l, 1+slices.IndexFunc(u.Nodes[1:], func(x api.TreeNode) bool { return x.At == at }))
	}
	return u, l
}

// P3.2, P3.3: the first marked node is a declaration, and the second one means it; or there is just one, which means nothing.
func TestMeans(t *testing.T) {
	for _, s := range []string{
		"^import i:com; def f():com=^i;",
		"^import i:cell 2; def f():com=^i:=1;",
		"^def g():com=skip; def f():com=skip;^g;",
		"^def g(x:com):com=skip; export f():com=^g(skip);",
		"def f(^x:com):com=^x;",
		"def f(^x:cell 2):bool=^!x;",
		"def f(^k:(com)->com):com=^k(skip);",
		"def f():com=^new c:3:=0 in(skip;^c:=1);",
		"def f():com=^new c:3:=0 in ^notice c:=1 in skip;",
		"def f():com=^label l in(skip;^jump l)else skip;",
		"import i:com; def f():com=new c:1:=0 in ^label l in new d:1:=0 in ^jump l else skip;",
		"def g(k:(com,com)->com):com=skip; def f():com=g(fn(x,^y)^y);",
		"def g(c:cell 2):com=skip; def f():com=g({get 0;put ^v.if ^v then skip else skip});",
		// Of several the last one; labels and other names do not mind each other.
		"import a:com; ^import a:com; def f():com=^a;",
		"import a:com; def f(^a:com):com=^a;",
		"import a:com; def f(^a:com):com=(new a:1:=0 in skip);^a;",
		"def f(a:com):com=^new a:1:=0 in ^a;",
		"def f():com=new a:1:=0 in ^new a:2:=0 in ^a:=0;",
		"def f():com=label l in ^label l in ^jump l else skip else skip;",
		"def f():com=^label l in label l in skip else ^jump l else skip;",
		"def f(^l:com):com=label l in ^l else skip;",
		"def f():com=^label l in new l:1:=0 in ^jump l else skip;",
		"def f():com=^new l:1:=0 in label l in ^l else skip;",
		// Also where a size does not fit, or a name is there twice.
		"def f(^x:com):bool=true;^x(9);",
	} {
		u, l := marked(t, s)
		if n, e := check.Means(u, l[1]); n != l[0] || e != api.OK {
			t.Errorf("%s: Means: %d, %v", s, n, e)
		}
		if m, e := check.Uses(u, l[0]); !slices.Contains(m, l[1]) || e != api.OK {
			t.Errorf("%s: Uses: %v, %v", s, m, e)
		}
		if m, e := check.Sight(u, l[1]); !slices.Contains(m, l[0]) || e != api.OK {
			t.Errorf("%s: Sight: %v, %v", s, m, e)
		}
	}
	for _, s := range []string{
		"def f():com=^x;",
		"def f():com=^f;",
		"def f():com=^g; import g:com;",
		"export g():com=skip; def f():com=^g;",
		"def f():com=label l in skip else ^jump l;",
		"def f():com=label l in ^l else skip;",
		"def f(x:com):com=^jump x;",
		"def f():com=(new c:1:=0 in skip);^c:=0;",
		"def g(x:com):com=x; def f():com=^x;",
		"def g(c:cell 2):com=skip; def f():com=g({get ^v;put v.skip});",
		"def g(k:(com)->com):com=skip; def f():com=g(fn(x)x);^x;",
	} {
		u, l := marked(t, s)
		if n, e := check.Means(u, l[0]); n != 0 || e != api.ErrName {
			t.Errorf("%s: Means: %d, %v", s, n, e)
		}
	}
}

// P3.2: no other nodes mean anything, whatever their texts.
func TestMeansOfOthers(t *testing.T) {
	u := parsed(t, everything)
	named := []uint8{api.NameNode, api.CallNode, api.GetNode, api.PutNode, api.NoticeNode, api.JumpNode}
	seen := map[uint8]bool{}
	for n, x := range u.Nodes {
		seen[x.Kind] = true
		d, e := check.Means(u, n)
		if slices.Contains(named, x.Kind) != (e == api.OK) || e != api.OK && (e != api.ErrNone || d != 0) {
			t.Errorf("Means of %v: %d, %v", x, d, e)
		}
	}
	if len(seen) != int(api.BindNode) {
		t.Errorf("%d kinds of nodes", len(seen))
	}
}

// everything is a program without an error that has nodes of all kinds.
const everything = "import i:(int 3,cell 2)->com; import j:int 3; def d(k:(bool,cell 2)->int 3,c:cell 3,x:bool):int 3=k(x,{get true or false and not x;put v.if v then skip else hang})*!c+1-2; export e(y:com):com=new a:3:=2 in label l in while !a<d(fn(p,q)(q:=p;2),a,3 as 2=1) do (y;notice a:=1 in a:=choose 1 else j;jump l) else skip;"

// P3.3: the nodes that mean a declaration, ascending; those of an export none.
func TestUses(t *testing.T) {
	for _, s := range []string{
		"^import a:com; def f():com=^a;^a; export g(x:com):com=new c:1:=0 in ^a;c:=^a;",
		"^import a:com; import b:com; def f():com=b;",
		"^export a():com=skip; def f(b:com):com=b;",
		"import a:com; def f(^x:com):com=a; def g(x:com):com=x;",
		"^def d():com=skip; def f():com=^d;^d(skip);^d:=0;(^notice d:=0 in ^!d);jump d;",
		"def f():com=^label l in(^jump l;l;label l in jump l else ^jump l)else jump l;",
		"def g(c:cell 2):com=skip; def f():com=g({get v;put ^v.(^v;^v)});v;",
	} {
		u, l := marked(t, s)
		if m, e := check.Uses(u, l[0]); !slices.Equal(m, l[1:]) || e != api.OK {
			t.Errorf("%s: %v, %v instead of %v", s, m, e, l[1:])
		}
	}
	u := parsed(t, everything)
	declared := []uint8{api.ImportItem, api.DefItem, api.ExportItem, api.ParamNode, api.NewNode, api.LabelNode, api.BindNode}
	for n, x := range u.Nodes {
		m, e := check.Uses(u, n)
		if slices.Contains(declared, x.Kind) != (e == api.OK) || e != api.OK && (e != api.ErrNone || len(m) != 0) {
			t.Errorf("Uses of %v: %v, %v", x, m, e)
		}
	}
}

// P3.2: the names of what is in sight at the marked node, in the order in which they stand.
func TestSight(t *testing.T) {
	for _, x := range []struct{ s, names string }{
		{"^import a:com; import b:com;", ""},
		{"import a:com; ^import b:com;", "a"},
		{"import a:com; import b:^com;", "a"},
		{"import a:com; def b():com=skip; export c():com=skip; ^def d():com=skip;", "a b"},
		{"export a():com=^skip; import b:com;", ""},
		{"def f(^a:com,b:com):com=skip;", ""},
		{"def f(a:com,^b:com):com=skip;", ""},
		{"def f(a:com,b:^com):com=skip;", ""},
		{"def f(a:com,b:com):^com=skip;", ""},
		{"def f(a:com,b:com):com=^skip;", "a b"},
		{"def f(a:(com)->com,b:com):com=skip;^skip;skip;", "a b"},
		{"def f(a:com):com=skip; ^import b:com;", "f"},
		{"export f(a:com):com=^skip;", "a"},
		{"def f():com=^new c:1:=0 in skip;", ""},
		{"def f():com=new c:1:=0 in ^skip;", "c"},
		{"def f():com=new c:1:=0 in new d:1:=0 in ^skip;", "c d"},
		{"def f():com=(new c:1:=0 in skip)^;skip;", ""},
		{"def f():com=(new c:1:=0 in skip);^skip;", ""},
		{"def f():com=^label l in skip else skip;", ""},
		{"def f():com=label l in ^skip else skip;", "l"},
		{"def f():com=label l in skip else ^skip;", ""},
		{"def f():com=label l in label m in skip else ^skip else skip;", "l"},
		{"def g(k:(com,com)->com):com=skip; def f():com=g(^fn(x,y)skip);", "g"},
		{"def g(k:(com,com)->com):com=skip; def f():com=g(fn(^x,y)skip);", "g"},
		{"def g(k:(com,com)->com):com=skip; def f():com=g(fn(x,^y)skip);", "g"},
		{"def g(k:(com,com)->com):com=skip; def f():com=g(fn(x,y)^skip);", "g x y"},
		{"def g(k:(com,com)->com):com=skip; def f():com=g(fn(x,y)skip);^skip;", "g"},
		{"def g(c:cell 1):com=skip; def f():com=g(^{get 0;put v.skip});", "g"},
		{"def g(c:cell 1):com=skip; def f():com=g({get ^0;put v.skip});", "g"},
		{"def g(c:cell 1):com=skip; def f():com=g({get 0;put ^v.skip});", "g"},
		{"def g(c:cell 1):com=skip; def f():com=g({get 0;put v.^skip});", "g v"},
		{"def g(c:cell 1):com=skip; def f():com=g({get 0;put v.skip});^skip;", "g"},
		{"import a:com; import a:com; export a():com=skip; def f(a:com,a:com):com=new a:1:=0 in label a in ^a else skip;", "a a a a a a"},
	} {
		u, l := marked(t, x.s)
		m, e := check.Sight(u, l[0])
		var names []string
		for _, d := range m {
			names = append(names, u.Nodes[d].Text)
		}
		if got := strings.Join(names, " "); got != x.names || !slices.IsSorted(m) || e != api.OK {
			t.Errorf("%s: %v, %v", x.s, m, e)
		}
	}
	for _, s := range []string{"", "import a:com;", everything} {
		if l, e := check.Sight(parsed(t, s), 0); len(l) != 0 || e != api.OK {
			t.Errorf("%s: in sight at the program: %v, %v", s, l, e)
		}
	}
}
