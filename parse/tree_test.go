package parse_test

import (
	"regexp"
	"slices"
	"strings"
	"testing"

	"riposte/api"
	"riposte/lex"
	"riposte/parse"
)

// wrong is a tree that is not right, and its error.
type wrong struct {
	what string
	tree api.Tree
	e    api.Errno
}

// sized returns a tree of nodes just as they are.
func sized(l ...api.TreeNode) api.Tree { return api.Tree{Nodes: l} }

// wrongTrees returns trees with each error, and some with two of which one comes first.
func wrongTrees() []wrong {
	many := row(25, b(api.ImportItem, intOf(1)).text("a"))
	return []wrong{
		{"no nodes", api.Tree{}, api.ErrForm},
		{"too many nodes", defOf(b(api.SeqNode, row(897, name("a"))...)).tree(), api.ErrLimit},
		{"too many nodes of no form", sized(make([]api.TreeNode, 901)...), api.ErrLimit},
		{"as many nodes of no form", sized(make([]api.TreeNode, 900)...), api.ErrForm},
		{"too deep", defOf(nots(59)).tree(), api.ErrLimit},
		{"too deep, and no name", defOf(b(api.SeqNode, nots(58), name(""))).tree(), api.ErrForm},
		{"too many items", b(api.ProgramNode, many...).tree(), api.ErrLimit},
		{"too many items, and no type", b(api.ProgramNode, append(many, b(api.ImportItem).text("a"))...).tree(), api.ErrForm},
		{"no program", name("a").tree(), api.ErrForm},
	}
}

// P2.3: each error of a tree, and that it comes first in all functions.
func TestCheck(t *testing.T) {
	for _, x := range wrongTrees() {
		if e := parse.Check(x.tree); e != x.e {
			t.Errorf("%s: Check: %v", x.what, e)
		}
		for _, n := range []int{-1, 0, 1, 1000} {
			l, e := parse.Kids(x.tree, n)
			up, f := parse.Up(x.tree, n)
			m, g := parse.Sub(x.tree, n)
			u, h := parse.Graft(x.tree, n, []api.TreeNode{{Kind: api.SkipNode, Size: 1}})
			if e != x.e || f != x.e || g != x.e || h != x.e || len(l) > 0 || up != 0 || len(m) > 0 || len(u.Nodes) > 0 {
				t.Errorf("%s, %d: %v, %v, %v, %v", x.what, n, e, f, g, h)
			}
		}
		n, e := parse.Find(x.tree, "f")
		u, f := parse.Bare(x.tree)
		if n != 0 || len(u.Nodes) > 0 || e != x.e || f != x.e {
			t.Errorf("%s: Find: %d, %v; Bare: %v, %v", x.what, n, e, u, f)
		}
	}
}

// P2.3: each limit is reached.
func TestCheckLimits(t *testing.T) {
	for what, x := range map[string]branch{
		"items": b(api.ProgramNode, row(24, b(api.ImportItem, intOf(1)).text("a"))...),
		"nodes": defOf(b(api.SeqNode, row(896, name("a"))...)),
		"depth": defOf(nots(58)),
		"long":  defOf(b(api.SeqNode, row(896, name("abcdefghijkl"))...)),
		"great": b(api.ProgramNode, b(api.ImportItem, intOf(1000000)).text("a"), b(api.ImportItem, cellOf(1000000)).text("a"), def(intOf(1), b(api.NewNode, b(api.NoticeNode, b(api.AsNode, b(api.NumNode).n(1000000)).n(1000000)).n(1000000).text("a")).n(1000000).m(1000000).text("a"))),
		"zero":  b(api.ProgramNode, b(api.ImportItem, intOf(0)).text("a"), b(api.ImportItem, cellOf(0)).text("a"), def(intOf(0), b(api.NewNode, b(api.NoticeNode, b(api.AsNode, b(api.NumNode))).text("a")).text("a"))),
		"none":  b(api.ProgramNode),
	} {
		if e := parse.Check(x.tree()); e != api.OK {
			t.Errorf("%s: %v", what, e)
		}
	}
}

// P2.3: names.
func TestCheckNames(t *testing.T) {
	trees := []func(s string) branch{
		func(s string) branch { return b(api.ProgramNode, b(api.ImportItem, intOf(1)).text(s)) },
		func(s string) branch { return b(api.ProgramNode, def(intOf(1), name("a")).text(s)) },
		func(s string) branch {
			return b(api.ProgramNode, b(api.ExportItem, intOf(1), name("a")).text(s))
		},
		func(s string) branch {
			return b(api.ProgramNode, def(b(api.ParamNode, intOf(1)).text(s), intOf(1), name("a")))
		},
		func(s string) branch { return defOf(b(api.NewNode, name("a")).text(s)) },
		func(s string) branch { return defOf(b(api.LabelNode, name("a"), name("a")).text(s)) },
		func(s string) branch { return defOf(b(api.NoticeNode, name("a")).text(s)) },
		func(s string) branch { return defOf(b(api.PutNode, name("a")).text(s)) },
		func(s string) branch { return defOf(b(api.JumpNode).text(s)) },
		func(s string) branch { return defOf(b(api.GetNode).text(s)) },
		func(s string) branch { return defOf(name(s)) },
		func(s string) branch { return defOf(b(api.CallNode, name("a")).text(s)) },
		func(s string) branch {
			return defOf(b(api.CallNode, b(api.FnNode, bind(s), name("a"))).text("a"))
		},
		func(s string) branch {
			return defOf(b(api.CallNode, b(api.ObjectNode, name("a"), bind(s), name("a"))).text("a"))
		},
	}
	for i, tree := range trees {
		for _, s := range []string{"a", "z", "aZ9", "abcdefghijkl", "iff", "begin"} {
			if e := parse.Check(tree(s).tree()); e != api.OK {
				t.Errorf("%d, %q: %v", i, s, e)
			}
		}
		for _, s := range []string{"", "A", "Ab", "1", "1a", "abcdefghijklm", "if", "true", "int", "a b", " a", "a ", "a-b", "a\n", "~", "(", ":=", "a~", "\x80", "a\xff", strings.Repeat("a", 3000)} {
			if e := parse.Check(tree(s).tree()); e != api.ErrForm {
				t.Errorf("%d, %q: %v", i, s, e)
			}
		}
	}
}

// looksRight is another way to tell whether a tree is right: by the table of the chapter, and from the end to the beginning.
func looksRight(l []api.TreeNode, table map[uint8]string) bool {
	if len(l) == 0 || l[0].Kind != api.ProgramNode || l[0].Size != len(l) {
		return false
	}
	for n, x := range l {
		row, ok := table[x.Kind]
		if !ok || x.Size < 1 || x.Size > len(l)-n {
			return false
		}
		fields, kids, _ := strings.Cut(row, " ")
		if strings.Contains(fields, "T") {
			if m, _, e := lex.Tokens(x.Text); e != api.OK || len(m) != 1 || m[0] != (api.Token{Kind: api.TokName, Text: x.Text}) {
				return false
			}
		} else if x.Text != "" {
			return false
		}
		for field, number := range map[string]int{"N": x.N, "M": x.M} {
			if number != 0 && (number < 0 || number > 1000000 || !strings.Contains(fields, field)) {
				return false
			}
		}
		letters, end := "", n+1
		for end < n+x.Size && l[end].Size > 0 && l[end].Size <= n+x.Size-end {
			letters += letterOf(l[end].Kind)
			end += l[end].Size
		}
		if end != n+x.Size || !regexp.MustCompile("^(?:"+kids+")$").MatchString(letters) {
			return false
		}
	}
	return true
}

// P2.3: random changes of right trees.
func TestCheckChanged(t *testing.T) {
	table := kidsOfKinds()
	d := dice(23)
	right := 0
	for i := range 20000 {
		u := d.make(i % 12).tree
		l := slices.Clone(u.Nodes)
		for range 1 + d.below(2) {
			n := d.below(len(l))
			switch d.below(8) {
			case 0:
				l[n].Kind = uint8(d.below(40))
			case 1:
				l[n].Text = d.one("", "a", "if", "Ab", "abcdefghijklm")
			case 2:
				l[n].N = []int{-1, 0, 1, 1000000, 1000001, 1 << 62, -1 << 63}[d.below(7)]
			case 3:
				l[n].M = []int{-1, 0, 1, 1000000, 1000001, 1 << 62, -1 << 63}[d.below(7)]
			case 4:
				l[n].Size = []int{-1, 0, 1, 2, 3, l[n].Size + 1, l[n].Size - 1, len(l), 1<<63 - 1, -1 << 63}[d.below(10)]
			case 5:
				l[n].At = []int{-5, 0, 1 << 62, -1 << 63}[d.below(4)]
			case 6:
				l = slices.Delete(l, n, n+1)
				if len(l) == 0 {
					l = []api.TreeNode{{}}
				}
			case 7:
				l[n].Kind = api.SeqNode + uint8(d.below(20))
			}
		}
		want := api.ErrForm
		if looksRight(l, table) {
			want = api.OK
			right++
		}
		if e := parse.Check(api.Tree{Nodes: l}); e != want {
			t.Fatalf("%v: %v; wanted %v", l, e, want)
		}
	}
	if right < 1000 {
		t.Errorf("%d trees stayed right only", right)
	}
}

// P2.3: each kind with each row of up to three kids, and a fourth one like the third.
func TestCheckKids(t *testing.T) {
	table := kidsOfKinds()
	samples := []branch{
		b(api.ImportItem, intOf(1)).text("a"), b(api.ParamNode, intOf(1)).text("a"), intOf(3), b(api.ArrowType, intOf(1), intOf(1)), name("a"),
		b(api.FnNode, bind("a"), name("a")), bind("a"), b(api.ObjectNode, name("a"), bind("a"), name("a")), b(api.ProgramNode),
	}
	for kind := range uint8(40) {
		fields, kids, known := strings.Cut(table[kind], " ")
		want := regexp.MustCompile("^(?:" + kids + ")$")
		for code := range 2000 {
			// The digits of a number are a row of samples, with a fourth one from 1000 on.
			var l []branch
			for rest := code % 1000; rest > 0; rest /= 10 {
				if rest%10 > 0 {
					l = append(l, samples[rest%10-1])
				}
			}
			if code >= 1000 && len(l) > 0 {
				l = append(l, l[len(l)-1])
			}
			letters := ""
			for _, x := range l {
				letters += letterOf(x.Kind)
			}
			x := b(kind, l...)
			if strings.Contains(fields, "T") {
				x = x.text("a")
			}
			u := under(x, letterOf(kind))
			if e := parse.Check(u.tree()); (e == api.OK) != (known && want.MatchString(letters)) || e != api.OK && e != api.ErrForm {
				t.Fatalf("%v: %v", u.tree(), e)
			}
		}
	}
}

// under returns a program with a node of a kind that has a letter in kidsOfKinds.
func under(x branch, letter string) branch {
	switch letter {
	case "i":
		return b(api.ProgramNode, x)
	case "p":
		return b(api.ProgramNode, def(x, intOf(1), name("a")))
	case "b", "a":
		return b(api.ProgramNode, b(api.ImportItem, x).text("a"))
	case "t":
		return defOf(x)
	case "f":
		return defOf(b(api.CallNode, x).text("a"))
	case "n":
		return defOf(b(api.CallNode, b(api.FnNode, x, name("a"))).text("a"))
	}
	return x
}

// P2.5, P2.6: kids, what is above, and the nodes of a node.
func TestKids(t *testing.T) {
	u := parsed(t, "import a:com; def f(x:bool,y:(com)->com):com=if x then a else y(skip;hang);")
	for n, x := range []struct {
		kids []int
		up   int
	}{
		{[]int{1, 3}, 0}, {[]int{2}, 0}, {nil, 1}, {[]int{4, 6, 10, 11}, 0}, {[]int{5}, 3}, {nil, 4}, {[]int{7}, 3}, {[]int{8, 9}, 6}, {nil, 7}, {nil, 7}, {nil, 3},
		{[]int{12, 13, 14}, 3}, {nil, 11}, {nil, 11}, {[]int{15}, 11}, {[]int{16, 17}, 14}, {nil, 15}, {nil, 15},
	} {
		l, e := parse.Kids(u, n)
		if !slices.Equal(l, x.kids) || e != api.OK {
			t.Errorf("%d: Kids: %v, %v", n, l, e)
		}
		up, e := parse.Up(u, n)
		if up != x.up || n > 0 && e != api.OK || n == 0 && e != api.ErrNone {
			t.Errorf("%d: Up: %v, %v", n, up, e)
		}
		sub, e := parse.Sub(u, n)
		if !slices.Equal(sub, u.Nodes[n:n+u.Nodes[n].Size]) || e != api.OK {
			t.Errorf("%d: Sub: %v, %v", n, sub, e)
		}
	}
	for _, n := range []int{-1, 18, 19, 1 << 62, -1 << 63} {
		l, e := parse.Kids(u, n)
		up, f := parse.Up(u, n)
		sub, g := parse.Sub(u, n)
		v, h := parse.Graft(u, n, u.Nodes)
		if e != api.ErrRange || f != api.ErrRange || g != api.ErrRange || h != api.ErrRange || len(l) > 0 || up != 0 || len(sub) > 0 || len(v.Nodes) > 0 {
			t.Errorf("%d: %v, %v, %v, %v", n, e, f, g, h)
		}
	}
	if l, e := parse.Kids(parsed(t, ""), 0); len(l) > 0 || e != api.OK {
		t.Errorf("no items: %v, %v", l, e)
	}
}

// P2.10: the family of each node.
func TestFamily(t *testing.T) {
	d := dice(29)
	for i := range 300 {
		u := d.make(i % 40).tree
		seen := []int{0}
		for n := range u.Nodes {
			l, e := parse.Kids(u, n)
			size := 1
			for _, k := range l {
				size += u.Nodes[k].Size
				if up, f := parse.Up(u, k); up != n || f != api.OK {
					t.Fatalf("%v: Up of %d: %d, %v", u, k, up, f)
				}
			}
			if e != api.OK || size != u.Nodes[n].Size || !slices.IsSorted(l) {
				t.Fatalf("%v: Kids of %d: %v, %v", u, n, l, e)
			}
			seen = append(seen, l...)
		}
		slices.Sort(seen)
		for n, x := range seen {
			if n != x || len(seen) != len(u.Nodes) {
				t.Fatalf("%v: %v", u, seen)
			}
		}
	}
}

// P2.6: what Graft makes, and its errors.
func TestGraft(t *testing.T) {
	u := parsed(t, "import a:com; def f(x:bool):com=if x then (a;a;a) else skip;")
	skip, two := b(api.SkipNode).nodes(), append(name("u").nodes(), name("v").nodes()...)
	arrow := b(api.ArrowType, intOf(1), intOf(5)).nodes()
	for i, x := range []struct {
		n    int
		l    []api.TreeNode
		want string
		e    api.Errno
	}{
		{9, skip, "import a:com;\ndef f(x:bool):com=if x then skip else skip;\n", api.OK},
		{10, skip, "import a:com;\ndef f(x:bool):com=if x then(skip;a;a)else skip;\n", api.OK},
		{10, two, "import a:com;\ndef f(x:bool):com=if x then(u;v;a;a)else skip;\n", api.OK},
		{11, nil, "import a:com;\ndef f(x:bool):com=if x then(a;a)else skip;\n", api.OK},
		{1, nil, "def f(x:bool):com=if x then(a;a;a)else skip;\n", api.OK},
		{3, nil, "import a:com;\n", api.OK},
		{3, u.Nodes[1:], "import a:com;\nimport a:com;\ndef f(x:bool):com=if x then(a;a;a)else skip;\n", api.OK},
		{4, nil, "import a:com;\ndef f():com=if x then(a;a;a)else skip;\n", api.OK},
		{5, arrow, "import a:com;\ndef f(x:(com)->int 5):com=if x then(a;a;a)else skip;\n", api.OK},
		{2, arrow, "import a:(com)->int 5;\ndef f(x:bool):com=if x then(a;a;a)else skip;\n", api.OK},
		{0, b(api.ProgramNode).nodes(), "", api.OK},
		{0, parsed(t, "import z:int 9;").Nodes, "import z:int 9;\n", api.OK},
		{0, nil, "", api.ErrForm}, {0, skip, "", api.ErrForm}, {9, nil, "", api.ErrForm}, {9, two, "", api.ErrForm}, {6, arrow, "", api.ErrForm}, {9, arrow, "", api.ErrForm}, {2, skip, "", api.ErrForm}, {1, skip, "", api.ErrForm}, {4, skip, "", api.ErrForm}, {9, u.Nodes, "", api.ErrForm}, {0, append(u.Nodes, u.Nodes...), "", api.ErrForm},
		{9, []api.TreeNode{{Kind: api.SkipNode}}, "", api.ErrForm}, {9, []api.TreeNode{{Kind: api.SkipNode, Size: 2}}, "", api.ErrForm}, {9, []api.TreeNode{{Kind: api.NumNode, N: 1000001, Size: 1}}, "", api.ErrForm}, {9, b(api.FnNode, bind("x"), name("a")).nodes(), "", api.ErrForm},
		{9, slices.Repeat(skip, 900), "", api.ErrLimit}, {10, slices.Repeat(skip, 888), "", api.ErrLimit}, {1, nots(61).nodes(), "", api.ErrForm}, {9, nots(58).nodes(), "", api.ErrLimit}, {3, slices.Repeat(u.Nodes[1:3], 24), "", api.ErrLimit}, {0, defOf(nots(59)).nodes(), "", api.ErrLimit},
	} {
		v, e := parse.Graft(u, x.n, x.l)
		if e != x.e || e != api.OK && len(v.Nodes) > 0 {
			t.Errorf("%d: %d nodes, %v; wanted %v", i, len(v.Nodes), e, x.e)
			continue
		}
		if s, f := parse.Print(v); e == api.OK && (s != x.want || f != api.OK) {
			t.Errorf("%d: %q, %v; wanted %q", i, s, f, x.want)
		}
	}
	if v, e := parse.Graft(u, 10, slices.Repeat(skip, 887)); len(v.Nodes) != 900 || v.Nodes[0].Size != 900 || e != api.OK {
		t.Errorf("as many nodes as can be: %d, %v", len(v.Nodes), e)
	}
	if v, e := parse.Graft(u, 3, slices.Repeat(u.Nodes[1:3], 23)); len(v.Nodes) != 49 || e != api.OK {
		t.Errorf("as many items as can be: %d, %v", len(v.Nodes), e)
	}
	if v, e := parse.Graft(u, 9, nots(57).nodes()); len(v.Nodes) != 68 || e != api.OK {
		t.Errorf("as deep as can be: %d, %v", len(v.Nodes), e)
	}
}

// put puts nodes in the place of one of a branch, counted as nodes are.
func put(x branch, n int, l []branch) []branch {
	if n == 0 {
		return l
	}
	r := branch{TreeNode: x.TreeNode}
	n--
	for _, k := range x.kids {
		size := len(k.nodes())
		if n >= 0 && n < size {
			r.kids = append(r.kids, put(k, n, l)...)
		} else {
			r.kids = append(r.kids, k)
		}
		n -= size
	}
	return []branch{r}
}

// P2.6, P2.11: Graft of Sub changes nothing; what is grafted is Sub then, and all else stays.
func TestGrafted(t *testing.T) {
	d := dice(31)
	fine := 0
	for i := range 150 {
		u, v := d.make(i%30).tree, d.make(i%25).tree
		for n := range u.Nodes {
			l, e := parse.Sub(u, n)
			if w, f := parse.Graft(u, n, l); e != api.OK || f != api.OK || !slices.Equal(w.Nodes, u.Nodes) {
				t.Fatalf("%v: Graft of Sub of %d: %v, %v, %v", u, n, w, e, f)
			}
			m := d.below(len(v.Nodes))
			l, e = parse.Sub(v, m)
			w, f := parse.Graft(u, n, l)
			want := put(branchOf(u, 0), n, []branch{branchOf(v, m)})[0].tree()
			if e != api.OK || f != parse.Check(want) {
				t.Fatalf("%v, %d: Graft of %v: %v, %v", u, n, l, e, f)
			}
			if f != api.OK {
				continue
			}
			fine++
			sub, g := parse.Sub(w, n)
			if !slices.Equal(w.Nodes, want.Nodes) || !slices.Equal(sub, l) || g != api.OK {
				t.Fatalf("%v, %d: Graft of %v: %v; wanted %v", u, n, l, w, want)
			}
		}
	}
	if fine < 1000 {
		t.Errorf("%d grafts only", fine)
	}
}

// P2.7, P2.13: the first item with a name.
func TestFind(t *testing.T) {
	u := parsed(t, "import a:com; def f(x:bool):com=y; export e():com=f(1); import f:com; export a():com=skip;")
	for s, want := range map[string]int{"a": 1, "f": 3, "e": 8} {
		if n, e := parse.Find(u, s); n != want || e != api.OK {
			t.Errorf("%q: %d, %v", s, n, e)
		}
	}
	for _, s := range []string{"", "x", "y", "b", "if", "A", "a ", "f:", "abcdefghijklm"} {
		if n, e := parse.Find(u, s); n != 0 || e != api.ErrNone {
			t.Errorf("%q: %d, %v", s, n, e)
		}
	}
	if n, e := parse.Find(parsed(t, ""), "a"); n != 0 || e != api.ErrNone {
		t.Errorf("no items: %d, %v", n, e)
	}
	d := dice(37)
	for i := range 300 {
		u := d.make(i % 20).tree
		before := map[string]bool{}
		for n := 1; n < len(u.Nodes); n += u.Nodes[n].Size {
			s := u.Nodes[n].Text
			if m, e := parse.Find(u, s); e != api.OK || !before[s] && m != n || before[s] && m >= n {
				t.Fatalf("%v: %q: %d, %v", u, s, m, e)
			}
			before[s] = true
		}
	}
}

// P2.7: the tree without places.
func TestBare(t *testing.T) {
	d := dice(41)
	for i := range 300 {
		u := d.make(i % 20).tree
		u.Nodes[0].At = d.below(3) - 1
		v, e := parse.Bare(u)
		if e != api.OK || !slices.Equal(v.Nodes, bare(u.Nodes)) {
			t.Fatalf("%v: %v, %v", u, v, e)
		}
	}
}
