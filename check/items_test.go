package check_test

import (
	"slices"
	"strings"
	"testing"

	"riposte/api"
	"riposte/check"
	"riposte/parse"
)

// P3.5: which nodes have which effects; all others have none.
func TestEffectsOfNodes(t *testing.T) {
	const front = "import i:cell 2; import k:(cell 2)->com; "
	for s, want := range map[string]int{
		"new c:2:=0 in skip":                             api.EffCells,
		"if !i then skip else skip":                      api.EffCells,
		"i:=1":                                           api.EffCells,
		"new c:2:=0 in notice c:=1 in skip":              api.EffCells,
		"label l in jump l else skip":                    api.EffJumps,
		"choose skip else skip":                          api.EffChoices,
		"while true do skip":                             api.EffLoops,
		"hang":                                           api.EffHangs,
		"choose hang else while !i do skip":              api.EffChoices | api.EffHangs | api.EffLoops | api.EffCells,
		"label l in skip else skip":                      0,
		"k(i)":                                           0,
		"k({get true;put v.skip})":                       0,
		"k({get true;put v.hang})":                       api.EffHangs,
		"if 1+2*3-4 as 5=0 then skip else 0;0":           0,
		"if true and not false or 0 then skip else skip": 0,
	} {
		u := parsed(t, front+"export f():com="+s+";")
		if got, e := check.Effects(u, find(t, u, api.ExportItem, "f")); got != want || e != api.OK {
			t.Errorf("%s: %d, %v instead of %d", s, got, e, want)
		}
	}
	// A NoticeNode has its effect by itself, also if it means nothing.
	u := parsed(t, "def f():com=notice c:=1 in skip;")
	if got, e := check.Effects(u, 1); got != api.EffCells || e != api.OK {
		t.Errorf("a notice: %d, %v", got, e)
	}
	if api.EffCells|api.EffJumps|api.EffChoices|api.EffLoops|api.EffHangs != 31 {
		t.Error("the bits are not five different ones")
	}
}

// P3.5: what items reach, and that they have its effects; what they do not use they have not.
func TestReach(t *testing.T) {
	const s = "import i:com; def a():com=hang; def b():com=a; def c():com=i; def d(k:(com)->com):com=k(b); def e(x:com):com=choose x else x; export f():com=d(e); export g():com=d(fn(y)c); export h(b2:com):com=skip; def j():com=new q:1:=0 in skip;"
	u := parsed(t, s)
	for name, want := range map[string]struct {
		reach   string
		effects int
	}{
		"i": {"", 0}, "a": {"", api.EffHangs}, "b": {"a", api.EffHangs}, "c": {"", 0}, "d": {"a b", api.EffHangs}, "e": {"", api.EffChoices},
		"f": {"a b d e", api.EffHangs | api.EffChoices}, "g": {"a b c d", api.EffHangs}, "h": {"", 0}, "j": {"", api.EffCells},
	} {
		n, _ := parse.Find(u, name)
		l, e := check.Reach(u, n)
		effects, f := check.Effects(u, n)
		var names []string
		for _, d := range l {
			names = append(names, u.Nodes[d].Text)
		}
		if strings.Join(names, " ") != want.reach || !slices.IsSorted(l) || e != api.OK || effects != want.effects || f != api.OK {
			t.Errorf("%s: %v, %v, %d, %v", name, names, e, effects, f)
		}
	}
	for n, x := range u.Nodes {
		_, e := check.Reach(u, n)
		_, f := check.Effects(u, n)
		want := api.ErrNone
		if x.Kind == api.ImportItem || x.Kind == api.DefItem || x.Kind == api.ExportItem {
			want = api.OK
		}
		if e != want || f != want {
			t.Errorf("%d: %v, %v", n, e, f)
		}
	}
}

// P3.5: each node that means a definition uses it, whatever else is wrong; one whose name stands for something else does not.
func TestReachByNodes(t *testing.T) {
	for s, want := range map[string]bool{
		"d": true, "d(skip)": true, "!d": true, "d:=0": true, "notice d:=0 in skip": true, "i(d)": true, "jump d": false,
		"new d:1:=0 in d:=0": false, "(new d:1:=0 in skip);d": true, "label d in d else skip": true, "label d in jump d else skip": false,
	} {
		u := parsed(t, "import i:(com)->com; def d():com=skip; export f():com="+s+";")
		l, e := check.Reach(u, find(t, u, api.ExportItem, "f"))
		if slices.Equal(l, []int{find(t, u, api.DefItem, "d")}) != want || len(l) > 1 || e != api.OK {
			t.Errorf("%s: %v, %v", s, l, e)
		}
	}
}

// P3.6: the arenas of exports, with the names and types of their identifiers.
func TestArena(t *testing.T) {
	const s = "export f(x:com):int 7=6; import a:bool; def d(y:com):com=skip; import b:(int 3,cell 4)->int 5; export g(k:(com)->com,c:cell 6):com=skip; import z:cell 9;"
	u := parsed(t, s)
	imports := []api.Declared{{Name: "a", Type: plain(base(false, 2))}, {Name: "b", Type: arrow(base(false, 5), base(false, 3), base(true, 4))}, {Name: "z", Type: plain(base(true, 9))}}
	x := api.Declared{Name: "x", Type: plain(base(false, 1))}
	k := api.Declared{Name: "k", Type: arrow(base(false, 1), base(false, 1))}
	c := api.Declared{Name: "c", Type: plain(base(true, 6))}
	for _, y := range []struct {
		name string
		root api.Base
		want []api.Declared
	}{{"f", base(false, 7), append(slices.Clone(imports), x)}, {"g", base(false, 1), append(slices.Clone(imports), k, c)}} {
		for _, jumps := range []bool{false, true} {
			want := api.Arena{Root: y.root, Jumps: jumps}
			for _, d := range y.want {
				want.Ids = append(want.Ids, d.Type)
			}
			a, l, e := check.Arena(u, y.name, jumps)
			if !sameArena(a, want) || !sameDeclared(l, y.want) || e != api.OK {
				t.Errorf("%s: %v, %v, %v", y.name, a, l, e)
			}
		}
	}
	for _, name := range []string{"a", "d", "x", "k", "y", "h", "", "F", "f "} {
		if a, l, e := check.Arena(u, name, true); len(a.Ids) != 0 || a.Root != (api.Base{}) || a.Jumps || len(l) != 0 || e != api.ErrNone {
			t.Errorf("%q: %v, %v, %v", name, a, l, e)
		}
	}
	if a, l, e := check.Arena(parsed(t, "export f():com=skip;"), "f", false); len(a.Ids) != 0 || a.Root != base(false, 1) || len(l) != 0 || e != api.OK {
		t.Errorf("no identifiers: %v, %v, %v", a, l, e)
	}
}

// imports returns the texts of as many imports.
func imports(n int) string {
	s := ""
	for i := range n {
		s += "import i" + itoa(i) + ":com;"
	}
	return s
}

// P3.6, R1, R7: identifiers and their params up to their limits, and one more; behind the errors of the program, and that of a name.
func TestArenaLimits(t *testing.T) {
	five, six := "(com,com,com,com,com)->com", "(com,com,com,com,com,com)->com"
	for _, x := range []struct {
		s    string
		many int
		e    api.Errno
	}{
		{imports(8) + "export f():com=skip;", 8, api.OK},
		{imports(9) + "export f():com=skip;", 0, api.ErrLimit},
		{imports(7) + "export f(x:com):com=skip;", 8, api.OK},
		{imports(7) + "export f(x:com,y:com):com=skip;", 0, api.ErrLimit},
		{imports(8) + "export f(x:com):com=skip;", 0, api.ErrLimit},
		{"export f(a:com,b:com,c:com,d:com,e:com,g:com,h:com,i:com):com=skip;", 8, api.OK},
		{"export f(a:com,b:com,c:com,d:com,e:com,g:com,h:com,i:com,j:com):com=skip;", 0, api.ErrLimit},
		{"import a:" + five + "; export f(x:" + five + "):com=skip;", 2, api.OK},
		{"import a:" + six + "; export f():com=skip;", 0, api.ErrLimit},
		{"export f():com=skip; import a:" + six + ";", 0, api.ErrLimit},
		{"export f(x:com,y:" + six + "):com=skip;", 0, api.ErrLimit},
		// What is none of its identifiers may have more.
		{imports(7) + "def d(x:" + six + ",y:com):com=skip; export g(x:" + six + "):com=skip; export f(x:com):com=skip;", 8, api.OK},
		{imports(9) + "export f():com=true;", 0, api.ErrType},
		{imports(9) + "export f():com=x;", 0, api.ErrName},
		{imports(9) + "export f():int 65=skip;", 0, api.ErrRange},
		{imports(9) + "export f():com=skip; export f():com=skip;", 0, api.ErrTwice},
		{imports(9) + "export g():com=skip;", 0, api.ErrNone},
		{"", 0, api.ErrNone},
		{"export g():com=true;", 0, api.ErrType},
		{"export f():com=skip; def d():com=true;", 0, api.ErrType},
	} {
		a, l, e := check.Arena(parsed(t, x.s), "f", true)
		if len(a.Ids) != x.many || len(l) != x.many || e != x.e || e != api.OK && (a.Root != api.Base{} || a.Jumps) {
			t.Errorf("%s: %v, %v, %v", x.s, a, l, e)
		}
	}
}
