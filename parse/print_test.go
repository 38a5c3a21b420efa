package parse_test

import (
	"slices"
	"strings"
	"testing"

	"riposte/api"
	"riposte/lex"
	"riposte/parse"
)

// P2.4: the texts of terms, with brackets just where they must be.
func TestPrintTerms(t *testing.T) {
	for s, want := range map[string]string{
		"a": "a", "( ( a ) )": "a", "0": "0", "1000000": "1000000", "true": "true", "false": "false", "skip": "skip", "hang": "hang", "jump l": "jump l", "! c": "!c",
		"(a+b)*c": "(a+b)*c", "(a*b)+c": "a*b+c", "a+(b*c)": "a+b*c", "a*(b+c)": "a*(b+c)", "a-(b-c)": "a-(b-c)", "(a-b)-c": "a-b-c", "a+(b-c)": "a+(b-c)", "(a+b)-c": "a+b-c", "a*(b*c)": "a*(b*c)", "(a*b)*c": "a*b*c",
		"(a as 3) as 4": "a as 3 as 4", "(a*b) as 4": "(a*b)as 4", "a*(b as 4)": "a*b as 4", "(a as 4)*b": "a as 4*b", "(not a) as 4": "(not a)as 4", "!a as 4": "!a as 4", "(f(a)) as 4": "f(a)as 4", "(jump l) as 4": "jump l as 4",
		"(a=b)=c": "(a=b)=c", "a=(b<c)": "a=(b<c)", "(a<b)=c": "(a<b)=c", "(a+b)=(c-d)": "a+b=c-d", "(a=b)+c": "(a=b)+c", "a<(b or c)": "a<(b or c)", "(a and b)<c": "(a and b)<c",
		"not (not a)": "not not a", "not (a=b)": "not a=b", "(not a)=b": "(not a)=b", "not (a and b)": "not(a and b)", "not (a or b)": "not(a or b)", "(not a) and b": "not a and b", "a and (not b)": "a and not b", "a or (not b)": "a or not b", "(not a)+b": "(not a)+b", "a=(not b)": "a=(not b)",
		"(a or b) and c": "(a or b)and c", "a or (b and c)": "a or b and c", "(a and b) or c": "a and b or c", "a and (b or c)": "a and(b or c)", "a or (b or c)": "a or(b or c)", "(a or b) or c": "a or b or c", "a and (b and c)": "a and(b and c)", "(a and b) and c": "a and b and c", "(a=b) and (c<d)": "a=b and c<d",
		"if (a;b) then c else (d:=e)": "if(a;b)then c else d:=e", "if a then (b;c) else (d;e)": "if a then(b;c)else(d;e)", "if a then (if b then c else d) else e": "if a then if b then c else d else e", "(if a then b else c)+1": "(if a then b else c)+1", "1+(if a then b else c)": "1+(if a then b else c)", "(if a then b else c);d": "if a then b else c;d", "if a then b else (c or d)": "if a then b else c or d", "(if a then b else c) or d": "(if a then b else c)or d", "a or (if b then c else d)": "a or(if b then c else d)",
		"while(a)do(b)": "while a do b", "while (a;b) do (c;d)": "while(a;b)do(c;d)", "(while a do b)=c": "(while a do b)=c", "not (while a do b)": "not(while a do b)",
		"new x:1:=0 in (a;b)": "new x:1:=0 in(a;b)", "(new x:1:=0 in a);b": "new x:1:=0 in a;b", "new x : 64 := 63 in (x:=1)": "new x:64:=63 in x:=1", "(new x:1:=0 in a)*b": "(new x:1:=0 in a)*b",
		"label l in(a)else(b)": "label l in a else b", "label l in (a;b) else (c;d)": "label l in(a;b)else(c;d)", "(label l in a else b) and c": "(label l in a else b)and c",
		"notice c := 2 in (a;b)": "notice c:=2 in(a;b)", "(notice c := 2 in a)+b": "(notice c:=2 in a)+b", "notice c:=2 in (a+b)": "notice c:=2 in a+b",
		"choose (choose a else b) else c": "choose choose a else b else c", "choose a else (choose b else c)": "choose a else choose b else c", "choose (a;b) else (c;d)": "choose(a;b)else(c;d)", "(choose a else b)<c": "(choose a else b)<c",
		"c := (a;b)": "c:=(a;b)", "c := (d := e)": "c:=d:=e", "(c := a);b": "c:=a;b", "(c:=a)+b": "(c:=a)+b", "not (c:=a)": "not(c:=a)", "a or (c:=b)": "a or(c:=b)",
		"a;(b;c)": "a;(b;c)", "(a;b);c": "(a;b);c", "(a);(b);(c)": "a;b;c",
		"f((a;b),(c))": "f(a;b,c)", "f((a := b))": "f(a:=b)", "f(((g(a))))": "f(g(a))", "f(fn(x)(a;b))": "f(fn(x)(a;b))", "f(fn(x,y)(a or b),c)": "f(fn(x,y)a or b,c)", "f(fn(x)(if a then b else c))": "f(fn(x)if a then b else c)", "f({get (a); put x.(b;c)})": "f({get a;put x.(b;c)})", "f({get (a;b); put x . (c)})": "f({get(a;b);put x.c})", "f({get !a; put x . a := x})": "f({get!a;put x.a:=x})",
	} {
		u := ofTerm(t, s)
		text, e := parse.Text(u, 3)
		all, f := parse.Print(u)
		if text != want || e != api.OK || all != "def f():com="+want+";\n" || f != api.OK {
			t.Errorf("%q: Text: %q, %v; Print: %q, %v; wanted %q", s, text, e, all, f, want)
		}
	}
}

// P2.4: the texts of all nodes of a program, types and items among them.
func TestPrintNodes(t *testing.T) {
	u := parsed(t, "import k : ( int 1 , cell 2 , int 2 ) -> int 7 ; import j : int 0; export f ( a : int 2 , b : (bool) -> cell 1 ) : com = g ( fn ( x ) a , { get 1 ; put y . hang } ) ; def h ( ) : int 3 = 2 as 3 ;")
	for n, want := range []string{
		"import k:(com,cell 2,bool)->int 7;\nimport j:int 0;\nexport f(a:bool,b:(bool)->cell 1):com=g(fn(x)a,{get 1;put y.hang});\ndef h():int 3=2 as 3;\n",
		"import k:(com,cell 2,bool)->int 7;", "(com,cell 2,bool)->int 7", "com", "cell 2", "bool", "int 7",
		"import j:int 0;", "int 0",
		"export f(a:bool,b:(bool)->cell 1):com=g(fn(x)a,{get 1;put y.hang});", "a:bool", "bool", "b:(bool)->cell 1", "(bool)->cell 1", "bool", "cell 1", "com",
		"g(fn(x)a,{get 1;put y.hang})", "fn(x)a", "x", "a", "{get 1;put y.hang}", "1", "y", "hang",
		"def h():int 3=2 as 3;", "int 3", "2 as 3", "2",
	} {
		if s, e := parse.Text(u, n); s != want || e != api.OK {
			t.Errorf("%d: %q, %v; wanted %q", n, s, e, want)
		}
	}
	if s, e := parse.Print(parsed(t, " ~ none")); s != "" || e != api.OK {
		t.Errorf("no items: %q, %v", s, e)
	}
}

// P2.4: the nodes that there are not, and that the errors of the tree come first.
func TestTextErrors(t *testing.T) {
	u := ofTerm(t, "a")
	for _, n := range []int{-1, 4, 5, 1 << 62, -1 << 63} {
		if s, e := parse.Text(u, n); s != "" || e != api.ErrRange {
			t.Errorf("%d: %q, %v", n, s, e)
		}
	}
	for _, x := range wrongTrees() {
		for _, n := range []int{-1, 0, 1, 2000} {
			if s, e := parse.Text(x.tree, n); s != "" || e != x.e {
				t.Errorf("%s: Text of %d: %q, %v", x.what, n, s, e)
			}
		}
		if s, e := parse.Print(x.tree); s != "" || e != x.e {
			t.Errorf("%s: Print: %q, %v", x.what, s, e)
		}
	}
}

// P2.4: how many bytes a text has at most.
func TestPrintBytes(t *testing.T) {
	// An item has 14 bytes without its term, and a program one more; 200 names of 12 bytes, with signs between them, have 2599.
	sum := func(bytes int) branch {
		var l []branch
		for ; bytes > 13; bytes -= 13 {
			l = append(l, name("abcdefghijkl"))
		}
		// What is left is a name of one byte or more, in front of which there is a sign.
		return b(api.SeqNode, append(l, name("abcdefghijklm"[:bytes]))...)
	}
	check := func(what string, u api.Tree, n, bytes int, want api.Errno) {
		t.Helper()
		s, e := parse.Text(u, n)
		if e != want || e == api.OK && len(s) != bytes || e != api.OK && s != "" {
			t.Errorf("%s: %d bytes, %v; wanted %d, %v", what, len(s), e, bytes, want)
		}
	}
	check("a term", defOf(sum(2500)).tree(), 3, 2500, api.OK)
	check("a term", defOf(sum(2501)).tree(), 3, 0, api.ErrLimit)
	check("an item", defOf(sum(2487)).tree(), 1, 2500, api.OK)
	check("an item", defOf(sum(2488)).tree(), 1, 0, api.ErrLimit)
	check("a program", defOf(sum(2486)).tree(), 0, 2500, api.OK)
	check("a program", defOf(sum(2487)).tree(), 0, 0, api.ErrLimit)
	check("a program", defOf(sum(2500)).tree(), 0, 0, api.ErrLimit)
	two := func(n int) api.Tree {
		return b(api.ProgramNode, def(intOf(1), sum(1236)), def(intOf(1), sum(n))).tree()
	}
	check("two items", two(1236), 0, 2500, api.OK)
	check("two items", two(1237), 0, 0, api.ErrLimit)
	if s, e := parse.Print(two(1236)); len(s) != 2500 || e != api.OK {
		t.Errorf("Print: %d, %v", len(s), e)
	}
	if s, e := parse.Print(two(1237)); s != "" || e != api.ErrLimit {
		t.Errorf("Print: %q, %v", s, e)
	}
	check("a part", two(1237), 3, 1236, api.OK)
}

// P2.4: how many tokens a text has at most; those of a program are not counted all together.
func TestPrintTokens(t *testing.T) {
	// A sequence of n names has 2n - 1 tokens, an item 8 without its term.
	seq := func(tokens int) branch {
		if tokens%2 == 0 {
			return b(api.SeqNode, append(row(tokens/2-1, name("a")), b(api.NotNode, name("a")))...)
		}
		return b(api.SeqNode, row((tokens+1)/2, name("a"))...)
	}
	check := func(what string, u api.Tree, n int, want api.Errno) {
		t.Helper()
		s, e := parse.Text(u, n)
		if e != want || (e == api.OK) != (s != "") {
			t.Errorf("%s: %q, %v; wanted %v", what, s, e, want)
		}
	}
	check("a term", defOf(seq(900)).tree(), 3, api.OK)
	check("a term", defOf(seq(901)).tree(), 3, api.ErrLimit)
	check("an item", defOf(seq(892)).tree(), 1, api.OK)
	check("an item", defOf(seq(893)).tree(), 1, api.ErrLimit)
	check("a program", defOf(seq(892)).tree(), 0, api.OK)
	check("a program", defOf(seq(893)).tree(), 0, api.ErrLimit)
	many := b(api.ProgramNode, def(intOf(1), seq(892)), b(api.ImportItem, intOf(1)).text("k"), def(intOf(1), seq(801))).tree()
	check("a long program", many, 0, api.OK)
	s, e := parse.Print(many)
	if _, at, f := parse.Parse(s); e != api.OK || f != api.ErrLimit || at == 0 {
		t.Errorf("a long program: %v; read again: %d, %v", e, at, f)
	}
	late := b(api.ProgramNode, def(intOf(1), name("a")), def(intOf(1), seq(893))).tree()
	check("a late item", late, 0, api.ErrLimit)
	check("the item before", late, 1, api.OK)
}

// P2.4, P2.8, P2.13: what is printed is the shortest text, reads as the same tree, and is no longer than the text.
func TestPrinted(t *testing.T) {
	d := dice(13)
	for i := range 3000 {
		x := d.make(i % 40)
		s, e := parse.Print(x.tree)
		if s != x.short || e != api.OK {
			t.Fatalf("%q: %q, %v; wanted %q", x.text, s, e, x.short)
		}
		if u := parsed(t, s); !slices.Equal(bare(u.Nodes), bare(x.tree.Nodes)) {
			t.Fatalf("%q: %v", s, u)
		}
		if len(strings.ReplaceAll(s, "\n", "")) > len(x.text) {
			t.Fatalf("%q is longer than %q", s, x.text)
		}
		var all strings.Builder
		for n := 1; n < len(x.tree.Nodes); n += x.tree.Nodes[n].Size {
			text, e := parse.Text(x.tree, n)
			if e != api.OK {
				t.Fatal(e)
			}
			all.WriteString(text + "\n")
		}
		if s != all.String() {
			t.Fatalf("%q is not its items: %q", s, all.String())
		}
	}
}

// P2.4: the text of each node reads as this node where one of its kind must stand.
func TestTextOfNodes(t *testing.T) {
	d := dice(17)
	for i := range 300 {
		x := d.make(i % 30)
		for n, y := range x.tree.Nodes {
			s, e := parse.Text(x.tree, n)
			if e != api.OK {
				t.Fatalf("%q, %d: %v", x.text, n, e)
			}
			front, back, at := "", "", n
			switch letterOf(y.Kind) {
			case "i":
				at = 1
			case "p":
				front, back, at = "def f(", "):com=a;", 2
			case "b", "a":
				front, back, at = "import f:", ";", 2
			case "t":
				front, back, at = "def f():com=", ";", 3
			case "f":
				front, back, at = "def f():com=f(", ");", 4
			case "n":
				front, back, at = "def f():com=f(fn(", ")a);", 5
			}
			u := parsed(t, front+s+back)
			l, e := parse.Sub(u, at)
			if m := bare(x.tree.Nodes[n : n+y.Size]); e != api.OK || !slices.Equal(bare(l), m) && n > 0 {
				t.Fatalf("%q, %d: %q reads as %v; wanted %v", x.text, n, s, l, m)
			}
		}
	}
}

// P2.9: no pair of brackets can be blanks.
func TestNoBracketTooMany(t *testing.T) {
	d := dice(19)
	for i := range 1500 {
		x := d.make(i % 40)
		s, e := parse.Print(x.tree)
		if e != api.OK {
			t.Fatal(e)
		}
		l, _, e := lex.Tokens(s)
		pairs, _, f := lex.Pairs(l)
		if e != api.OK || f != api.OK {
			t.Fatalf("%q: %v, %v", s, e, f)
		}
		for from, to := range pairs {
			if to < from {
				continue
			}
			text := []byte(s)
			text[l[from].At], text[l[to].At] = ' ', ' '
			if u, _, e := parse.Parse(string(text)); e == api.OK && slices.Equal(bare(u.Nodes), bare(x.tree.Nodes)) {
				t.Fatalf("%q: the brackets at %d need not be", s, l[from].At)
			}
		}
	}
}
