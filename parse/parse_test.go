package parse_test

import (
	"slices"
	"strings"
	"testing"

	"riposte/api"
	"riposte/lex"
	"riposte/parse"
)

// P2.1: each kind of node, with its fields, its kids, and the place of its token.
func TestParse(t *testing.T) {
	for s, want := range map[string]branch{
		"":                       b(api.ProgramNode),
		" ~ no item\n":           b(api.ProgramNode),
		"  import k : int 7 ;":   b(api.ProgramNode, b(api.ImportItem, intOf(7).at(13)).text("k").at(2)),
		"import k:com;":          b(api.ProgramNode, b(api.ImportItem, intOf(1).at(9)).text("k")),
		"import k:bool;":         b(api.ProgramNode, b(api.ImportItem, intOf(2).at(9)).text("k")),
		"import k:cell 3;":       b(api.ProgramNode, b(api.ImportItem, cellOf(3).at(9)).text("k")),
		"import k:int 0;":        b(api.ProgramNode, b(api.ImportItem, intOf(0).at(9)).text("k")),
		"import k:cell 1000000;": b(api.ProgramNode, b(api.ImportItem, cellOf(1000000).at(9)).text("k")),
		"import k:(com)->bool;":  b(api.ProgramNode, b(api.ImportItem, b(api.ArrowType, intOf(1).at(10), intOf(2).at(16)).at(9)).text("k")),
		"import k:(int 5,cell 6,com)->cell 4; export x():com=y;": b(api.ProgramNode,
			b(api.ImportItem, b(api.ArrowType, intOf(5).at(10), cellOf(6).at(16), intOf(1).at(23), cellOf(4).at(29)).at(9)).text("k"),
			b(api.ExportItem, intOf(1).at(48), name("y").at(52)).text("x").at(37)),
		"def f(a:int 4,b:(cell 2)->com):cell 9=1;": b(api.ProgramNode, def(
			b(api.ParamNode, intOf(4).at(8)).text("a").at(6),
			b(api.ParamNode, b(api.ArrowType, cellOf(2).at(17), intOf(1).at(26)).at(16)).text("b").at(14),
			cellOf(9).at(31), b(api.NumNode).n(1).at(38))),
		"export f():bool=x<1;": b(api.ProgramNode, b(api.ExportItem, intOf(2).at(11), b(api.LessNode, name("x").at(16), b(api.NumNode).n(1).at(18)).at(17)).text("f")),
	} {
		if x := parsed(t, s); !slices.Equal(x.Nodes, want.nodes()) {
			t.Errorf("%q: %v; wanted %v", s, x.Nodes, want.nodes())
		}
	}
}

// P2.1: each kind of term; the text of the term begins at 0 here.
func TestParseTerms(t *testing.T) {
	num := func(n, at int) branch { return b(api.NumNode).n(n).at(at) }
	for s, want := range map[string]branch{
		"0":                             num(0, 0),
		"1000000":                       num(1000000, 0),
		"true":                          b(api.TrueNode),
		"false":                         b(api.FalseNode),
		"skip":                          b(api.SkipNode),
		"hang":                          b(api.HangNode),
		"jump l":                        b(api.JumpNode).text("l"),
		"!c":                            b(api.GetNode).text("c"),
		"! c":                           b(api.GetNode).text("c"),
		"x":                             name("x"),
		"((x))":                         name("x").at(2),
		"x;y":                           b(api.SeqNode, name("x"), name("y").at(2)).at(1),
		"x;y;z":                         b(api.SeqNode, name("x"), name("y").at(2), name("z").at(4)).at(1),
		"(x;y);z":                       b(api.SeqNode, b(api.SeqNode, name("x").at(1), name("y").at(3)).at(2), name("z").at(6)).at(5),
		"x;(y;z)":                       b(api.SeqNode, name("x"), b(api.SeqNode, name("y").at(3), name("z").at(5)).at(4)).at(1),
		"if x then y else z":            b(api.IfNode, name("x").at(3), name("y").at(10), name("z").at(17)),
		"while x do y":                  b(api.WhileNode, name("x").at(6), name("y").at(11)),
		"new c:3:=2 in x":               b(api.NewNode, name("x").at(14)).text("c").n(3).m(2),
		"label l in x else y":           b(api.LabelNode, name("x").at(11), name("y").at(18)).text("l"),
		"notice c:=2 in x":              b(api.NoticeNode, name("x").at(15)).text("c").n(2),
		"choose x else y":               b(api.ChooseNode, name("x").at(7), name("y").at(14)),
		"c:=x":                          b(api.PutNode, name("x").at(3)).text("c"),
		"c:=d:=x":                       b(api.PutNode, b(api.PutNode, name("x").at(6)).text("d").at(3)).text("c"),
		"c:=x or y":                     b(api.PutNode, b(api.OrNode, name("x").at(3), name("y").at(8)).at(5)).text("c"),
		"x or y or z":                   b(api.OrNode, b(api.OrNode, name("x"), name("y").at(5)).at(2), name("z").at(10)).at(7),
		"x or y and z":                  b(api.OrNode, name("x"), b(api.AndNode, name("y").at(5), name("z").at(11)).at(7)).at(2),
		"x and y and z":                 b(api.AndNode, b(api.AndNode, name("x"), name("y").at(6)).at(2), name("z").at(12)).at(8),
		"not x and y":                   b(api.AndNode, b(api.NotNode, name("x").at(4)), name("y").at(10)).at(6),
		"not not x=y":                   b(api.NotNode, b(api.NotNode, b(api.EqNode, name("x").at(8), name("y").at(10)).at(9)).at(4)),
		"x=y":                           b(api.EqNode, name("x"), name("y").at(2)).at(1),
		"x<y+z":                         b(api.LessNode, name("x"), b(api.AddNode, name("y").at(2), name("z").at(4)).at(3)).at(1),
		"x+y-z+1":                       b(api.AddNode, b(api.SubNode, b(api.AddNode, name("x"), name("y").at(2)).at(1), name("z").at(4)).at(3), num(1, 6)).at(5),
		"x-y-z":                         b(api.SubNode, b(api.SubNode, name("x"), name("y").at(2)).at(1), name("z").at(4)).at(3),
		"x*y*z":                         b(api.MulNode, b(api.MulNode, name("x"), name("y").at(2)).at(1), name("z").at(4)).at(3),
		"x+y*z":                         b(api.AddNode, name("x"), b(api.MulNode, name("y").at(2), name("z").at(4)).at(3)).at(1),
		"x as 3 as 4":                   b(api.AsNode, b(api.AsNode, name("x")).n(3).at(2)).n(4).at(7),
		"x*y as 0":                      b(api.MulNode, name("x"), b(api.AsNode, name("y").at(2)).at(4)).at(1),
		"f(x)":                          b(api.CallNode, name("x").at(2)).text("f"),
		"f(x;y,z)":                      b(api.CallNode, b(api.SeqNode, name("x").at(2), name("y").at(4)).at(3), name("z").at(6)).text("f"),
		"f(g(1),2)":                     b(api.CallNode, b(api.CallNode, num(1, 4)).text("g").at(2), num(2, 7)).text("f"),
		"f(fn(u,v)w)":                   b(api.CallNode, b(api.FnNode, bind("u").at(5), bind("v").at(7), name("w").at(9)).at(2)).text("f"),
		"f(fn(u)if x then y else z,w)":  b(api.CallNode, b(api.FnNode, bind("u").at(5), b(api.IfNode, name("x").at(10), name("y").at(17), name("z").at(24)).at(7)).at(2), name("w").at(26)).text("f"),
		"f({get x;put v.c:=v})":         b(api.CallNode, b(api.ObjectNode, name("x").at(7), bind("v").at(13), b(api.PutNode, name("v").at(18)).text("c").at(15)).at(2)).text("f"),
		"choose choose x else y else z": b(api.ChooseNode, b(api.ChooseNode, name("x").at(14), name("y").at(21)).at(7), name("z").at(28)),
		"while x do y;z":                b(api.SeqNode, b(api.WhileNode, name("x").at(6), name("y").at(11)), name("z").at(13)).at(12),
		"if x then y else z;w":          b(api.SeqNode, b(api.IfNode, name("x").at(3), name("y").at(10), name("z").at(17)), name("w").at(19)).at(18),
	} {
		x := ofTerm(t, s)
		l := slices.Clone(x.Nodes[3:])
		for i := range l {
			l[i].At -= 12
		}
		if !slices.Equal(l, want.nodes()) {
			t.Errorf("%q: %v; wanted %v", s, l, want.nodes())
		}
	}
}

// P2.1: where a text does not go on.
func TestParseErrors(t *testing.T) {
	for s, at := range map[string]int{
		"x": 0, ";": 0, "1": 0, "(": 0, "import": 6, "import ": 7, "import ~ a": 10, "import:": 6, "import f": 8, "import f f": 9, "import f:": 9, "import f:;": 9, "import f:x;": 9,
		"import f:int;": 12, "import f:cell x;": 14, "import f:com": 12, "import f:com=": 12, "import f:com;;": 13, "import f:com;x": 13, "import f:com import": 13, "import f:com 1;": 13, "import f:bool 2;": 14,
		"import f:();": 10, "import f:()->com;": 10, "import f:(com;": 13, "import f:(com,)->com;": 14, "import f:(com);": 14, "import f:(com)-com;": 14, "import f:(com)->;": 16, "import f:((com)->com)->com;": 10, "import f:(com)->(com)->com;": 16, "import f():com;": 8, "import 1:com;": 7, "import if:com;": 7,
		"def": 3, "def(": 3, "def f:com=a;": 5, "def f)": 5, "def f(": 6, "def f(,": 6, "def f(:com=a;": 6, "def f(a)": 7, "def f(a:com": 11, "def f(a:com,)": 12, "def f(a:com;b:com)": 11, "def f(a:com b": 12, "def f()=a;": 7, "def f():=a;": 7, "def f():com;": 11, "def f():com:=a;": 11, "def f():(com)->com=a;": 8, "def f():com=": 12, "def f():com=;": 12, "def f():com=a": 13, "def f():com=a,": 13, "def f():com=a b;": 14, "def f():com=a 1;": 14, "def if():com=a;": 4, "export export": 7, "export f()": 10,
		"def f():com=a;;": 14, "def f():com=a; ;": 15, "def f():com=a; b": 16, "def f():com=a;b;;": 16, "def f():com=a; )": 15, "def f():com=a; if": 17,
	} {
		if x, n, e := parse.Parse(s); len(x.Nodes) > 0 || n != at || e != api.ErrForm {
			t.Errorf("%q: %v, %d, %v; wanted %d", s, x, n, e, at)
		}
	}
}

// P2.1: where a term does not go on; the text of the term begins at 0 here, and a ; is behind it.
func TestParseTermErrors(t *testing.T) {
	for s, at := range map[string]int{
		"()": 1, "(": 1, "(a": 2, "(a b)": 3, "(a;)": 3, "a)": 1, "a;;b": 2, "+a": 0, "a+": 2, "a+;b": 2, "-1": 0, "a as": 4, "a as b": 5, "a as 3 4": 7, "a=b=c": 3, "a<b<c": 3, "a=b<c": 3, "a->b": 1, "a:b": 1, "a.b": 1, "{": 0, "fn(a)b": 0, "get": 0, "put": 0, "of": 0, "then": 0, "else": 0, "in": 0, "do": 0, "as": 0, "int": 0, "com": 0,
		"not": 3, "not not": 7, "not or": 4, "a or": 4, "a and or b": 6, "a not b": 2, "a=not b": 2, "a+not b": 2, "1 or if a then b else c": 5, "not a:=b": 5, "a or b:=c": 6, "(a):=b": 3, "1:=a": 1, "!a:=b": 2, "a:=": 3, "f(a):=b": 4,
		"!": 1, "!1": 1, "!(a)": 1, "!!a": 1, "jump": 4, "jump 1": 5, "jump(l)": 4, "jump if": 5, "true(a)": 4, "1(a)": 1, "a(b)(c)": 4, "!a(b)": 2,
		"if": 2, "if a": 4, "if a else b": 5, "if a then b": 11, "if a then b;c else d": 11, "if a;b then c else d": 4, "if then a else b": 3, "if a then b then c": 12, "while a": 7, "while a then b": 8, "while do a": 6, "while a do": 10, "do a": 0,
		"new": 3, "new 1": 4, "new c": 5, "new c:=0 in a": 5, "new c:3 in a": 8, "new c:3=0 in a": 7, "new c:3: =0 in a": 7, "new c:a:=0 in b": 6, "new c:3:=a in b": 9, "new c:3:=0 do b": 11, "new c:3:=0 in": 13, "new c:-1:=0 in a": 6, "new c:int 3:=0 in a": 6,
		"label": 5, "label 1 in a else b": 6, "label l a": 8, "label l in a": 12, "label l in a;b else c": 12, "label l in else b": 11, "label l in a else": 17, "notice": 6, "notice 1:=2 in a": 7, "notice c=2 in a": 8, "notice c:=d in a": 10, "notice c:=2 a": 12, "notice c:=2 in": 14, "notice c:3:=2 in a": 8, "choose": 6, "choose a": 8, "choose a or else b": 12, "choose a then b": 9, "choose a;b else c": 8,
		"f()": 2, "f(,a)": 2, "f(a,)": 4, "f(a;)": 4, "f(a": 3, "f(a b)": 4, "f((fn(x)a))": 3, "f(fn)": 4, "f(fn()a)": 5, "f(fn(1)a)": 5, "f(fn(x,)a)": 7, "f(fn(x:com)a)": 6, "f(fn(x))": 7, "f(fn(x)a;b)": 8, "f(fn x a)": 5, "f(fn(x)fn(y)a)": 7, "f(fn(x)a+fn(y)b)": 9,
		"f({})": 3, "f({a})": 3, "f({get})": 6, "f({get a})": 8, "f({get a put b.c})": 9, "f({get a;b;put c.d})": 9, "f({get a;put})": 12, "f({get a;put 1.b})": 13, "f({get a;put b})": 14, "f({get a;put b:=c})": 14, "f({get a;put b.})": 15, "f({get a;put b.c;d})": 16, "f({get a;put b.c)": 16, "f({put b.c;get a})": 3, "f({get a;put b.c}+1)": 17, "({get a;put b.c})": 1,
	} {
		if x, n, e := parse.Parse("def f():com=" + s + ";"); len(x.Nodes) > 0 || n != at+12 || e != api.ErrForm {
			t.Errorf("%q: %v, %d, %v; wanted %d", s, x, n-12, e, at)
		}
	}
}

// P2.1: a ; behind which the keyword of an item, or the end, comes belongs to no term.
func TestLastSemicolon(t *testing.T) {
	seq := b(api.SeqNode, name("a"), name("b"))
	for _, x := range []string{"def f():com=a;b;def f():com=a;b;", "def f ( ) : com = ( a ; b ) ; ~ export\n def f() : com = a ~;\n ; b ; ~ end"} {
		l := parsed(t, x)
		if want := b(api.ProgramNode, def(intOf(1), seq), def(intOf(1), seq)); !slices.Equal(bare(l.Nodes), want.nodes()) {
			t.Errorf("%q: %v", x, l)
		}
	}
	for s, at := range map[string]int{
		"def f():com=(a;import g:com;": 14, "def f():com=(a;def g():com=b;": 14, "def f():com=(a;export g():com=b;": 14, "def f():com=(a;": 14, "def f():com=(a; ~ end": 14, "def f():com=if a then b;def": 23, "def f():com=a;defs": 18, "def f():com=a;(import": 15,
	} {
		if _, n, e := parse.Parse(s); n != at || e != api.ErrForm {
			t.Errorf("%q: %d, %v; wanted %d", s, n, e, at)
		}
	}
}

// P2.1, P2.2: which error comes first, and the errors of the tokens with their places.
func TestErrorOrder(t *testing.T) {
	many := strings.Repeat("import a:com;", 25)
	deep := "def f():com=" + strings.Repeat("not ", 59) + "a;"
	long := strings.Repeat("x ", 1251)
	for _, x := range []struct {
		s  string
		at int
		e  api.Errno // of Parse
		f  api.Errno // of Recover
	}{
		{"\t", 0, api.ErrArg, api.ErrArg}, {"x \x7f", 2, api.ErrArg, api.ErrArg}, {"def # \t", 6, api.ErrArg, api.ErrArg},
		{"def f():com=#;", 12, api.ErrForm, api.ErrForm}, {"x #", 2, api.ErrForm, api.ErrForm}, {"x abcdefghijklm", 2, api.ErrForm, api.ErrForm}, {"def def 01", 8, api.ErrForm, api.ErrForm},
		{"x 1000001", 2, api.ErrRange, api.ErrRange}, {"import f:int 1000001;", 13, api.ErrRange, api.ErrRange}, {"1000001 #", 0, api.ErrRange, api.ErrRange},
		{long, 0, api.ErrLimit, api.ErrLimit}, {long + "\t", 0, api.ErrLimit, api.ErrLimit}, {strings.Repeat(";", 901), 900, api.ErrLimit, api.ErrLimit}, {strings.Repeat(";", 900), 0, api.ErrForm, api.OK},
		{many, 0, api.ErrLimit, api.ErrLimit}, {many + "x", 325, api.ErrForm, api.ErrLimit}, {"x " + many, 0, api.ErrForm, api.ErrLimit}, {many + "#", 325, api.ErrForm, api.ErrForm},
		{deep, 0, api.ErrLimit, api.ErrLimit}, {deep + "def", len(deep) + 3, api.ErrForm, api.ErrLimit}, {"import " + deep, 7, api.ErrForm, api.ErrLimit}, {deep[:len(deep)-1], len(deep) - 1, api.ErrForm, api.OK},
	} {
		if u, n, e := parse.Parse(x.s); n != x.at || e != x.e || len(u.Nodes) > 0 {
			t.Errorf("Parse of %q: %v, %d, %v", x.s, u, n, e)
		}
		if u, l, e := parse.Recover(x.s); e != x.f || e != api.OK && (len(u.Nodes) > 0 || len(l) > 0) {
			t.Errorf("Recover of %q: %v, %v, %v", x.s, u, l, e)
		}
	}
}

// P2.1, P2.2: each limit is reached.
func TestParseLimits(t *testing.T) {
	for s, nodes := range map[string]int{
		strings.Repeat("import a:com;", 24):                                              49,
		"def f():com=" + strings.Repeat("not ", 58) + "a;":                               62,
		"def f():com=" + strings.Repeat("(", 445) + "a" + strings.Repeat(")", 445) + ";": 4,
		"def f():com=" + strings.Repeat("a;", 446):                                       450,
		"def f():com=" + strings.Repeat("a;", 445) + "not a;":                            450 + 1,
		"import a:com;" + strings.Repeat(" ", 2487):                                      3,
		"def f():com=" + strings.Repeat("c:=", 58) + "1;":                                62,
		"def f():com=" + strings.Repeat("x+", 58) + "x;":                                 120,
	} {
		u, n, e := parse.Parse(s)
		v, l, f := parse.Recover(s)
		if len(u.Nodes) != nodes || n != 0 || e != api.OK || len(l) > 0 || f != api.OK || !slices.Equal(u.Nodes, v.Nodes) {
			t.Errorf("%q: %d nodes, %d, %v; %v, %v", s, len(u.Nodes), n, e, l, f)
		}
	}
	if u, _, e := parse.Parse("def f():com=" + strings.Repeat("x+", 59) + "x;"); len(u.Nodes) > 0 || e != api.ErrLimit {
		t.Errorf("too deep: %v, %v", u, e)
	}
	// Items that are left out do not count.
	if u, l, e := parse.Recover("def;" + strings.Repeat("import a:com;", 24) + "import b"); len(u.Nodes) != 49 || len(l) != 2 || e != api.OK {
		t.Errorf("24 items and two wrong ones: %d nodes, %v, %v", len(u.Nodes), l, e)
	}
}

// The examples of the chapter, and those of the document that speak of parse.
func TestExamples(t *testing.T) {
	if s, e := parse.Print(parsed(t, "def f ( a : int 2 ) : com = (a ; b) ;")); s != "def f(a:bool):com=a;b;\n" || e != api.OK {
		t.Errorf("Print: %q, %v", s, e)
	}
	for _, s := range [][2]string{{"(a+b)*c", "(a+b)*c"}, {"(a*b)+c", "a*b+c"}, {"a-(b-c)", "a-(b-c)"}, {"if (a;b) then c else (d:=e)", "if(a;b)then c else d:=e"}} {
		if text, e := parse.Text(ofTerm(t, s[0]), 3); text != s[1] || e != api.OK {
			t.Errorf("Text of %q: %q, %v", s[0], text, e)
		}
	}
	u, l, e := parse.Recover("def f(; def g():com=a;")
	if n, f := parse.Find(u, "g"); n != 1 || f != api.OK || len(u.Nodes) != 4 || !slices.Equal(l, []api.Fault{{At: 6, E: api.ErrForm}}) || e != api.OK {
		t.Errorf("Recover: %v, %v, %v", u, l, e)
	}
	if x := parsed(t, "export f():bool=x<1;"); len(x.Nodes) != 6 {
		t.Errorf("six nodes: %v", x)
	}
}

// P2.1: random right texts have the trees of which they were made.
func TestParseMade(t *testing.T) {
	d := dice(1)
	for i := range 4000 {
		x := d.make(i % 40)
		if u := parsed(t, x.text); !slices.Equal(u.Nodes, x.tree.Nodes) {
			t.Fatalf("%q: %v; wanted %v", x.text, u.Nodes, x.tree.Nodes)
		}
		if e := parse.Check(x.tree); e != api.OK {
			t.Fatalf("Check of the tree of %q: %v", x.text, e)
		}
	}
}

// changed returns tokens with some changes that are likely to make them wrong.
func changed(l []string, d *dice) []string {
	l = slices.Clone(l)
	for range d.below(3) {
		at := d.below(len(l) + 1)
		s := d.one("x", "1", ";", ";", ";", "(", ")", "{", "}", ",", ":", ":=", "=", "+", "->", "!", ".", "def", "import", "export", "if", "then", "else", "as", "fn", "not", "or", "get", "put", "in", "int", "com", "skip")
		switch d.below(4) {
		case 0:
			l = slices.Insert(l, at, s)
		case 1:
			if at < len(l) {
				l = slices.Delete(l, at, at+1)
			}
		case 2:
			if at < len(l) {
				l[at] = s
			}
		case 3:
			if d.below(3) == 0 {
				l = l[:at]
			}
		}
	}
	return l
}

// doubtful tells whether tokens have a ; between a get and a put behind which the keyword of an item, or the end, comes: the chapter can be read in two ways there.
func doubtful(l []string, lenient, strict map[string][]production) bool {
	a, x := recovered(lenient, l)
	c, y := recovered(strict, l)
	return !slices.Equal(a, c) || !slices.Equal(x, y)
}

// P2.1, P2.2: random texts, most of them wrong, go on just as the grammar says.
func TestByGrammar(t *testing.T) {
	strict := productions()
	lenient := productions()
	arg := lenient["arg"][1].words
	arg[slices.Index(arg, ";")] = "end"
	d := dice(5)
	wrong := 0
	for i := range 1500 {
		tokens, _, e := lex.Tokens(d.make(i % 9).text)
		if e != api.OK {
			t.Fatal(e)
		}
		var l []string
		for _, x := range tokens {
			l = append(l, x.Text)
		}
		l = changed(l, &d)
		if doubtful(l, lenient, strict) {
			continue
		}
		s, places := spread(l, &d)
		places = append(places, len(s))
		n := strayOf(strict, l)
		u, at, e := parse.Parse(s)
		if n < 0 && (e != api.OK || at != 0) || n >= 0 && (e != api.ErrForm || at != places[n] || len(u.Nodes) > 0) {
			t.Fatalf("Parse of %q: %d, %v; wanted %d", s, at, e, n)
		}
		if n >= 0 {
			wrong++
		}
		spans, strays := recovered(strict, l)
		checkRecovered(t, s, places, spans, strays)
	}
	if wrong < 500 {
		t.Errorf("%d wrong texts only", wrong)
	}
}

// checkRecovered checks Recover against the items and faults that the grammar has.
func checkRecovered(t *testing.T, s string, places []int, spans [][2]int, strays []int) {
	t.Helper()
	u, faults, e := parse.Recover(s)
	if e != api.OK {
		t.Fatalf("Recover of %q: %v", s, e)
	}
	want := []api.TreeNode{{Kind: api.ProgramNode}}
	for _, x := range spans {
		from := places[x[0]]
		for _, y := range parsed(t, s[from:places[x[1]]]).Nodes[1:] {
			y.At += from
			want = append(want, y)
		}
	}
	want[0].Size = len(want)
	var at []api.Fault
	for _, n := range strays {
		at = append(at, api.Fault{At: places[n], E: api.ErrForm})
	}
	if !slices.Equal(u.Nodes, want) || !slices.Equal(faults, at) {
		t.Fatalf("Recover of %q: %v, %v; wanted %v, %v", s, u.Nodes, faults, want, at)
	}
}

// P2.2: which items are read, and where the faults are.
func TestRecover(t *testing.T) {
	for s, want := range map[string]struct {
		names string
		at    []int
	}{
		"": {}, "~": {}, "x": {"", []int{0}}, "x y z ( ;": {"", []int{0}}, ";": {"", []int{0}},
		"def f(; def g():com=a;":                  {"g", []int{6}},
		"def f(: def g():com=a; def h":            {"g", []int{6, 28}},
		"x y def f():com=a; z":                    {"", []int{0, 20}},
		"x y def f():com=a; import z":             {"f", []int{0, 27}},
		"x y import f:com; z import g:com;":       {"f g", []int{0, 18}},
		"import f:com;;import g:com;":             {"f g", []int{13}},
		"def f():com=a;;import g:com;":            {"g", []int{14}},
		"def f():com=a; b import g:com;":          {"g", []int{17}},
		"def f():com=a def g():com=b;":            {"g", []int{14}},
		"def f():com=(a;def g():com=b;":           {"g", []int{14}},
		"def def def f():com=a;":                  {"f", []int{4, 8}},
		"def import export":                       {"", []int{4, 11, 17}},
		"import import f:com;":                    {"f", []int{7}},
		"import a:com;import b:;import c:com;def": {"a c", []int{22, 39}},
		"def f():com=a b c d e import g:com;":     {"g", []int{14}},
		"def f(def:com):com=a;import g:com;":      {"g", []int{6, 9}},
		"def f():com=import;import g:com;":        {"g", []int{12, 18}},
		"export f():com=a;x~ def y():com=b;":      {"", []int{34}},
		"import f:com":                            {"", []int{12}},
		"import f:com ~":                          {"", []int{14}},
	} {
		u, l, e := parse.Recover(s)
		var names []string
		for n := 1; n < len(u.Nodes); n += u.Nodes[n].Size {
			names = append(names, u.Nodes[n].Text)
		}
		var at []int
		for _, x := range l {
			at = append(at, x.At)
			if x.E != api.ErrForm {
				t.Errorf("%q: %v", s, l)
			}
		}
		if e != api.OK || strings.Join(names, " ") != want.names || !slices.Equal(at, want.at) {
			t.Errorf("%q: %v, %v, %v", s, names, l, e)
		}
		if f := parse.Check(u); f != api.OK {
			t.Errorf("%q: the tree: %v", s, f)
		}
	}
}

// P2.12: Recover has no faults just if Parse has no error; then the trees are the same.
func TestRecoverOfRight(t *testing.T) {
	d := dice(9)
	for i := range 2000 {
		x := d.make(i % 30)
		if d.below(2) == 0 {
			x.text = x.text[:d.below(len(x.text)+1)]
		}
		u, _, e := parse.Parse(x.text)
		v, l, f := parse.Recover(x.text)
		if f != api.OK && e != f || f == api.OK && (e == api.OK) != (len(l) == 0) || e == api.OK && !slices.Equal(u.Nodes, v.Nodes) {
			t.Fatalf("%q: %v, %v; %v, %v, %v", x.text, u, e, v, l, f)
		}
	}
}

// P2.12: a wrong item costs none of those in front of it and behind it.
func TestWrongItem(t *testing.T) {
	d := dice(11)
	for i := range 2000 {
		front, back := d.make(i%20), d.make(i%15)
		if len(front.text)+len(back.text) > 2000 {
			continue
		}
		l := []string{d.one("import", "def", "export")}
		if d.below(2) == 0 {
			l = append(l, strings.Fields("f ( x : com ) : int 3 = a ; b")[:d.below(13)]...)
		}
		for range d.below(12) {
			l = append(l, d.one("x", "1", ";", ":", ":=", "(", ")", "{", "}", "int", "com", "=", "if", "then", "get", "put", "fn", ",", ".", "+", "as", "not", "->"))
		}
		middle, _ := spread(l, &d)
		s := front.text + "\n" + middle + "\n" + back.text
		u, faults, e := parse.Recover(s)
		if e == api.ErrLimit {
			continue
		}
		got, first, last := items(u), items(front.tree), items(back.tree)
		if e != api.OK || len(got) < len(first)+len(last) || len(got) > len(first)+len(last)+1 || len(faults) > 1 || len(got) == len(first)+len(last) && len(faults) != 1 {
			t.Fatalf("%q: %v, %v, %v", s, u, faults, e)
		}
		same := func(x, y []api.TreeNode) bool { return slices.Equal(x, y) }
		if !slices.EqualFunc(got[:len(first)], first, same) || !slices.EqualFunc(got[len(got)-len(last):], last, same) {
			t.Fatalf("%q: %v, %v", s, u, faults)
		}
	}
}
