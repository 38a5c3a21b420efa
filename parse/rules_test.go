package parse_test

import (
	"reflect"
	"slices"
	"strings"
	"testing"

	"riposte/api"
	"riposte/parse"
)

// roomy returns nodes with spare room behind them, and all that memory.
func roomy(l []api.TreeNode) ([]api.TreeNode, []api.TreeNode) {
	all := append(slices.Clone(l), api.TreeNode{Kind: 77, Text: "spare"}, api.TreeNode{Kind: 78, Text: "room"})
	return all[:len(l)], all
}

// spoil writes into all nodes of a list, and into its spare room.
func spoil(l []api.TreeNode) {
	l = l[:cap(l)]
	for i := range l {
		l[i] = api.TreeNode{Kind: 99, Text: "spoilt", N: -1, M: -1, At: -1, Size: -1}
	}
}

// R4: what is handed in stays as it is, whatever is written into the results.
func TestArgumentsStay(t *testing.T) {
	const s = "import a:com; def f(x:bool):com=if x then (a;a;a) else skip;"
	u := parsed(t, s)
	nodes, all := roomy(u.Nodes)
	grafts, allGrafts := roomy(name("u").nodes())
	was, grafted := slices.Clone(all), slices.Clone(allGrafts)
	u.Nodes = nodes
	check := func(what string) {
		t.Helper()
		if !slices.Equal(all, was) || !slices.Equal(allGrafts, grafted) {
			t.Fatalf("%s: an argument was changed: %v, %v", what, all, allGrafts)
		}
	}
	for n := range u.Nodes {
		l, _ := parse.Sub(u, n)
		spoil(l)
		check("Sub")
		v, _ := parse.Graft(u, n, grafts)
		spoil(v.Nodes)
		check("Graft")
		m, _ := parse.Kids(u, n)
		for i := range m {
			m[i] = -1
		}
		parse.Up(u, n)
		parse.Text(u, n)
		check("Kids, Up or Text")
	}
	v, _ := parse.Graft(u, 0, nodes)
	spoil(v.Nodes)
	check("Graft of all")
	v, _ = parse.Graft(u, 1, nil)
	spoil(v.Nodes)
	check("Graft of nothing")
	v, _ = parse.Graft(u, 13, grafts)
	spoil(v.Nodes)
	check("Graft of the last one")
	v, _ = parse.Bare(u)
	spoil(v.Nodes)
	check("Bare")
	parse.Check(u)
	parse.Print(u)
	parse.Find(u, "f")
	check("Check, Print or Find")
}

// R4, P2: what is read stays as it is, whatever is written into what was read before, or into what was handed in.
func TestResultsStay(t *testing.T) {
	const s = "import a:com; def f(x:bool):com=if x then (a;a;a) else skip;"
	want := parsed(t, s).Nodes
	u := parsed(t, s)
	spoil(u.Nodes)
	if v := parsed(t, s); !slices.Equal(v.Nodes, want) {
		t.Errorf("Parse: %v", v)
	}
	wrong := "x " + s + " y"
	u, l, _ := parse.Recover(wrong)
	v, m, _ := parse.Recover(wrong)
	spoil(u.Nodes)
	for i := range l {
		l[i] = api.Fault{At: -1}
	}
	// The f is left out, since y stands behind its ;.
	if len(v.Nodes) != 3 || !slices.Equal(m, []api.Fault{{At: 0, E: api.ErrForm}, {At: len(wrong), E: api.ErrForm}}) {
		t.Errorf("Recover: %v, %v", v, m)
	}
	u = parsed(t, s)
	grafts := name("u").nodes()
	sub, _ := parse.Sub(u, 7)
	graft, _ := parse.Graft(u, 9, grafts)
	none, _ := parse.Graft(u, 9, u.Nodes[8:9])
	whole, _ := parse.Bare(u)
	kids, _ := parse.Kids(u, 7)
	again, _ := parse.Kids(u, 7)
	spoil(u.Nodes)
	spoil(grafts)
	kids[0] = -1
	if !slices.Equal(sub, want[7:14]) || graft.Nodes[9].Text != "u" || none.Nodes[9].Text != "x" || whole.Nodes[3].Text != "f" || !slices.Equal(again, []int{8, 9, 13}) {
		t.Errorf("%v, %v, %v, %v, %v", sub, graft, none, whole, again)
	}
}

// R3: a nil list is an empty one.
func TestNilLists(t *testing.T) {
	u := parsed(t, "import a:com; import b:com;")
	none, e := parse.Graft(u, 1, nil)
	empty, f := parse.Graft(u, 1, []api.TreeNode{})
	if e != api.OK || f != api.OK || len(none.Nodes) != 3 || !slices.Equal(none.Nodes, empty.Nodes) {
		t.Errorf("%v, %v; %v, %v", none, e, empty, f)
	}
	if e, f := parse.Check(api.Tree{}), parse.Check(api.Tree{Nodes: []api.TreeNode{}}); e != api.ErrForm || f != api.ErrForm {
		t.Errorf("%v, %v", e, f)
	}
}

// all calls every function, and returns all results; those with an error must be zero.
func all(t *testing.T, s string, u api.Tree, n int, l []api.TreeNode, find string) []any {
	t.Helper()
	var r []any
	say := func(e api.Errno, x ...any) {
		for _, y := range x {
			if v := reflect.ValueOf(y); e != api.OK && !v.IsZero() && !(v.Kind() == reflect.Slice && v.Len() == 0) {
				t.Fatalf("%v with %v: %q, %v, %d, %v, %q", y, e, s, u, n, l, find)
			}
		}
		r = append(append(r, e), x...)
	}
	v, at, e := parse.Parse(s)
	say(e, v)
	r = append(r, at)
	if at != 0 && e == api.OK || at < 0 || at > len(s) {
		t.Fatalf("%q: at %d, %v", s, at, e)
	}
	v, faults, e := parse.Recover(s)
	say(e, v, faults)
	say(parse.Check(u))
	text, e := parse.Print(u)
	say(e, text)
	text, e = parse.Text(u, n)
	say(e, text)
	kids, e := parse.Kids(u, n)
	say(e, kids)
	up, e := parse.Up(u, n)
	say(e, up)
	sub, e := parse.Sub(u, n)
	say(e, sub)
	v, e = parse.Graft(u, n, l)
	say(e, v)
	up, e = parse.Find(u, find)
	say(e, up)
	v, e = parse.Bare(u)
	say(e, v)
	return r
}

// node returns any node.
func (d *dice) node() api.TreeNode {
	number := func() int {
		return []int{0, 0, 0, 1, 1, 2, 3, -1, 1000001, 1<<63 - 1, -1 << 63}[d.below(11)]
	}
	return api.TreeNode{Kind: uint8(d.below(42)), Text: d.one("", "", "a", "if", "\x00"), N: number(), M: number(), At: number(), Size: number()}
}

// P1, P2: any arguments lead to results, to the same ones twice, and stay as they are.
func TestAnyArguments(t *testing.T) {
	d := dice(43)
	parts := []string{"def f():com=", "def", "import a:com;", "a", ";", "(", ")", "{", "}", "if ", "then ", "else ", "!", ":=", " 1 ", "#", "~", "\n", "\t", "fn(x)", "as 3 "}
	for i := range 3000 {
		s := ""
		for range d.below(20) {
			s += d.one(parts...)
		}
		u := d.make(i % 10).tree
		if d.below(2) == 0 {
			u.Nodes[d.below(len(u.Nodes))] = d.node()
		}
		if d.below(8) == 0 {
			u.Nodes = nil
			for range d.below(5) {
				u.Nodes = append(u.Nodes, d.node())
			}
		}
		var l []api.TreeNode
		for range d.below(4) {
			l = append(l, d.node())
		}
		if d.below(2) == 0 {
			l = name("a").nodes()
		}
		nodes, whole := roomy(u.Nodes)
		grafts, wholeGrafts := roomy(l)
		was, grafted := slices.Clone(whole), slices.Clone(wholeGrafts)
		n := d.below(len(nodes)+4) - 2
		find := d.one("a", "b", "f", "", "if")
		first := all(t, s, api.Tree{Nodes: nodes}, n, grafts, find)
		if second := all(t, s, api.Tree{Nodes: nodes}, n, grafts, find); !reflect.DeepEqual(first, second) {
			t.Fatalf("not the same twice: %q, %v, %d, %v: %v, %v", s, u, n, l, first, second)
		}
		if !slices.Equal(whole, was) || !slices.Equal(wholeGrafts, grafted) {
			t.Fatalf("an argument was changed: %v, %v", whole, wholeGrafts)
		}
	}
}

// P1: texts that go as deep as texts can.
func TestDeepTexts(t *testing.T) {
	for _, s := range []string{"(", "not ", "x:=", "f(", "!", "while 1 do ", "f({get ", "f(fn(x)", "choose ", "if ", "x+("} {
		text := "def f():com="
		for len(text)+len(s) <= api.MaxText && strings.Count(text, s)*6 < 880 {
			text += s
		}
		if u, at, e := parse.Parse(text); len(u.Nodes) > 0 || e != api.ErrForm || at == 0 {
			t.Errorf("%q: %v, %d, %v", text, u, at, e)
		}
		if u, l, e := parse.Recover(text); len(u.Nodes) != 1 || len(l) != 1 || e != api.OK {
			t.Errorf("%q: %v, %v, %v", text, u, l, e)
		}
	}
}
