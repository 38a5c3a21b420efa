package check_test

import (
	"testing"

	"riposte/api"
	"riposte/check"
)

// The examples of the chapter, and that of DOC.md.
func TestExamples(t *testing.T) {
	const s = "import i:bool; def d(x:cell 3):com=x:=!x+1; export m(k:(int 3)->com):com=new c:3:=0 in(while i do d(c);k(!c));"
	u := parsed(t, s)
	d, m, k, c := find(t, u, api.DefItem, "d"), find(t, u, api.ExportItem, "m"), find(t, u, api.ParamNode, "k"), find(t, u, api.NewNode, "c")
	com := base(false, 1)
	if n, e := check.Program(u); n != 0 || e != api.OK {
		t.Errorf("Program: %d, %v", n, e)
	}
	if n, e := check.Means(u, find(t, u, api.NameNode, "c")); n != c || e != api.OK {
		t.Errorf("Means of c: %d, %v", n, e)
	}
	if n, e := check.Means(u, find(t, u, api.CallNode, "k")); n != k || e != api.OK {
		t.Errorf("Means of k: %d, %v", n, e)
	}
	if x, e := check.Type(u, d); !same(x, arrow(com, base(true, 3))) || e != api.OK {
		t.Errorf("Type of d: %v, %v", x, e)
	}
	if x, e := check.Type(u, k); !same(x, arrow(com, base(false, 3))) || e != api.OK {
		t.Errorf("Type of k: %v, %v", x, e)
	}
	if x, e := check.Type(u, m); !same(x, api.Type{}) || e != api.ErrType {
		t.Errorf("Type of m: %v, %v", x, e)
	}
	if x, e := check.Effects(u, d); x != api.EffCells || e != api.OK {
		t.Errorf("Effects of d: %d, %v", x, e)
	}
	if x, e := check.Effects(u, m); x != api.EffCells|api.EffLoops || e != api.OK {
		t.Errorf("Effects of m: %d, %v", x, e)
	}
	a, l, e := check.Arena(u, "m", false)
	if !sameArena(a, api.Arena{Ids: []api.Type{plain(base(false, 2)), arrow(com, base(false, 3))}, Root: com}) || e != api.OK || len(l) != 2 || l[0].Name != "i" || l[1].Name != "k" {
		t.Errorf("Arena of m: %v, %v, %v", a, l, e)
	}
	holdFaults(t, []fault{{"export m():com=^1;", api.ErrType}, {"export m():com=^x;", api.ErrName}, {"export m():^int 65=0;", api.ErrRange}})
	for s, want := range map[string]int{"export m():com=1;": 3, "export m():com=x;": 3, "export m():int 65=0;": 2} {
		if n, _ := check.Program(parsed(t, s)); n != want {
			t.Errorf("%s: %d", s, n)
		}
	}
}
