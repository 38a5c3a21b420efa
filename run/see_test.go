package run_test

import (
	"slices"
	"testing"

	"riposte/api"
	"riposte/run"
)

// mark is the node of a kind with a text; of several ones that with a number, from 0 on.
type mark struct {
	kind uint8
	text string
	nth  int
}

// at returns the node of a mark; -1 for none.
func (x mark) at(t *testing.T, u api.Tree) int {
	t.Helper()
	if x.kind == 0 {
		return -1
	}
	l := find(u, x.kind, x.text)
	if x.nth >= len(l) {
		t.Fatalf("no node %v", x)
	}
	return l[x.nth]
}

// P6.4: of a question the node that asks, or the argument that is an identifier; of an answer the argument, or the export's term; of the other one's moves none.
func TestFrom(t *testing.T) {
	them := mark{}
	name := func(s string, nth int) mark { return mark{api.NameNode, s, nth} }
	call := func(s string, nth int) mark { return mark{api.CallNode, s, nth} }
	plusTerm := mark{api.AddNode, "", 0}
	for _, x := range []struct {
		s, word string
		want    []mark
	}{
		{plus, "", nil}, {plus, "0?", []mark{them, name("i", 0)}}, {plus, "0? 1?", []mark{them, name("i", 0)}}, {plus, "0? 1? 1!2", []mark{them, name("i", 0), them, plusTerm}}, {plus, "0? 1? 1!2 0!0", []mark{them, name("i", 0), them, plusTerm}},
		{plus, "^0? 1? 1!*", []mark{them, name("i", 0), them, plusTerm}},
		// What is odd, and all behind it, comes from nowhere.
		{plus, "1?", nil}, {plus, "0? 0!0", []mark{them}}, {plus, "0? 1? 1!3 0!0", []mark{them, name("i", 0)}}, {plus, "0? 1? 1!2 0!0 0?", []mark{them, name("i", 0), them, plusTerm}}, {"export m():com=hang;", "0?", []mark{them}},
		{leaps, "0? 1? 1.1? 1.1!* 1!*", []mark{them, call("f", 0), them, {api.JumpNode, "l", 0}, them, {api.LabelNode, "l", 0}}},
		{cells, "0? 1? 1.1=1 1.1!0", []mark{them, call("f", 0), them, name("c", 0)}},
		// Cells that are asked and put, and an identifier that is an argument.
		{"export m(c:cell 3):com=c:=!c;", "0? 1? 1!2", []mark{them, {api.GetNode, "c", 0}, them, {api.PutNode, "c", 0}}},
		{"import f:(cell 3)->com; export m(g:cell 3):com=f(g);", "0? 1? 1.1=1 2=1 2!0", []mark{them, call("f", 0), them, name("g", 0), them, name("g", 0)}},
		{"import f:(cell 3)->com; export m(g:cell 3):com=f(g);", "0? 1? 1.1? 2? 2!2 1.1!2 1!0", []mark{them, call("f", 0), them, name("g", 0), them, name("g", 0), them, call("f", 0)}},
		{"import f:(cell 3)->com; export m(g:cell 3):com=f(g);", "^0? 1? 1.1? 2? 2!*", []mark{them, call("f", 0), them, name("g", 0), them, name("g", 0)}},
		// Through definitions: what is evaluated there, and the argument of the call that asks.
		{"import f:(cell 3)->com; def d(c:cell 3):com=f(c); export m(g:cell 3):com=d(g);", "0? 1? 1.1? 2? 2!1", []mark{them, call("f", 0), them, name("c", 0), them, name("c", 0)}},
		{"def d(c:cell 3):com=c:=1; export m(g:cell 3):com=d(g);", "0?", []mark{them, {api.PutNode, "c", 0}}}, {"def d(x:int 3):int 3=x+1; export m(y:int 3):int 3=d(y);", "0?", []mark{them, name("y", 0)}},
		{"import f:(int 2)->com; def d(k:(int 2)->com):com=k(true); export m():com=d(f);", "0? 1? 1.1?", []mark{them, call("k", 0), them, {api.TrueNode, "", 0}}},
		{"def d(x:com):com=x; import i:com; export m():com=skip;d(i);", "0? 1? 1!0", []mark{them, name("i", 0), them, {api.SeqNode, "", 0}}},
		// An integer as an argument is a term.
		{"import f:(int 3)->com; import i:int 3; export m():com=f(i);", "0? 1? 1.1? 2? 2!1", []mark{them, call("f", 0), them, name("i", 0), them, name("i", 0)}},
		{"import f:(int 3,cell 2)->com; export m():com=f(1+1,{get true;put v.skip});", "0? 1? 1.1? 1.1!2 1.2=1 1.2!0 1.2? 1.2!1", []mark{them, call("f", 0), them, {api.AddNode, "", 0}, them, {api.ObjectNode, "", 0}, them, {api.ObjectNode, "", 0}}},
	} {
		y := said(t, x.s, x.word)
		var want []int
		for _, k := range x.want {
			want = append(want, k.at(t, y.T))
		}
		if l, e := run.From(y); !slices.Equal(l, want) || e != api.OK {
			t.Errorf("%s after %s: %v, %v; not %v", x.s, x.word, l, e, want)
		}
	}
}

// P6.5: the cells of all NewNodes that are being evaluated, in the order in which they began.
func TestStore(t *testing.T) {
	type cell struct {
		name  string
		value int
	}
	const two = "import f:(int 3)->com; export m():int 3=new a:3:=1 in(f(new b:3:=2 in(f(!b);b:=0;!b));new c:3:=0 in(c:=!a;f(!c);!c));"
	const again = "import f:(com)->com; def d(x:com):com=new a:4:=1 in(f((x;a:=!a+1));a:=3); export m():com=d(d(skip));"
	const loop = "import i:bool; export m():com=while i do new a:2:=0 in(a:=1;if i then skip else skip);"
	const jump = "import f:(com)->com; export m():int 3=new a:3:=0 in label l in(notice a:=1 in f(new b:3:=2 in jump l);!a)else(f(skip);!a);"
	const told = "import f:(com)->com; import i:bool; export m():com=new a:2:=0 in label l in f(notice a:=1 in if i then skip else jump l)else skip;"
	for _, x := range []struct {
		s, word string
		want    []cell
	}{
		{two, "", nil}, {two, "0?", []cell{{"a", 1}}}, {two, "0? 1?", []cell{{"a", 1}}}, {two, "0? 1? 1.1?", []cell{{"a", 1}, {"b", 2}}}, {two, "0? 1? 1.1? 1? 1.1?", []cell{{"a", 1}, {"b", 2}}}, {two, "0? 1? 1.1? 1? 1!0", []cell{{"a", 1}}}, {two, "0? 1? 1!0", []cell{{"a", 1}, {"c", 1}}}, {two, "0? 1? 1!0 1? 1!0", nil},
		// Where a word is odd it stands there, too.
		{two, "1?", nil}, {two, "0? 1? 0?", []cell{{"a", 1}}}, {two, "0? 0!0", []cell{{"a", 1}}}, {two, "0? 1? 1.1? 1.1!0", []cell{{"a", 1}, {"b", 2}}}, {two, "0? 1? 1!0 1? 1!0 0!0", nil}, {two, "0? 1? 1!0 1? 1!0 0!1 0?", nil},
		// A NewNode that is evaluated inside of itself has two cells.
		{again, "0?", []cell{{"a", 1}}}, {again, "0? 1? 1.1?", []cell{{"a", 1}, {"a", 1}}}, {again, "0? 1? 1.1? 1? 1.1?", []cell{{"a", 1}, {"a", 2}}}, {again, "0? 1? 1.1? 1? 1.1? 1.1!0 1!0", []cell{{"a", 2}}}, {again, "0? 1? 1.1? 1? 1.1? 1.1!0 1!0 1.1!0 1.1?", []cell{{"a", 2}, {"a", 1}}},
		{loop, "0? 1? 1!1", []cell{{"a", 1}}}, {loop, "0? 1? 1!1 1? 1!1", nil}, {loop, "0? 1? 1!1 1? 1!1 1? 1!1", []cell{{"a", 1}}},
		{jump, "0? 1? 1.1?", []cell{{"a", 0}}}, {jump, "0? 1? 1.1? 1.1!*", []cell{{"a", 0}}}, {jump, "0? 1? 1.1? 1.1!* 1!*", []cell{{"a", 1}}}, {jump, "^0? 1? 1!*", nil},
		// What notices made of cells by jumps, and when all is lost.
		{told, "0? 1? 1.1? 2? 2!0", []cell{{"a", 1}}}, {told, "^0? 1? 1.1? 2? 2!*", []cell{{"a", 1}}}, {told, "0? 1? 1.1? 2? 2!1", []cell{{"a", 0}}}, {told, "^0? 1? 1.1? 2? 2!* 1.1!* 1!*", nil},
		{"export m():com=new a:2:=1 in new b:2:=0 in(b:=!a;hang);", "0?", []cell{{"a", 1}, {"b", 1}}}, {"export m():com=new a:2:=1 in hang;", "0? 0!0", []cell{{"a", 1}}}, {"export m():com=new a:2:=1 in(new b:2:=0 in skip;hang);", "0?", []cell{{"a", 1}}},
		{cells, "0? 1? 1.1=1", []cell{{"c", 1}}}, {cells, "0? 1? 1.1=1 1.1!0 1!0", nil},
	} {
		y := said(t, x.s, x.word)
		var want []api.CellSeen
		for _, c := range x.want {
			want = append(want, api.CellSeen{Node: find(y.T, api.NewNode, c.name)[0], N: c.value})
		}
		if l, e := run.Store(y); !slices.Equal(l, want) || e != api.OK {
			t.Errorf("%s after %s: %v, %v; not %v", x.s, x.word, l, e, want)
		}
	}
}
