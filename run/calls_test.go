package run_test

import "testing"

// talks are words of one program, and where it stands after them.
type talks struct {
	s     string
	words []spoken
}

// spoken is a word, and where a program stands after it.
type spoken struct {
	word string
	want stands
}

// saysAll looks at where conversations stand.
func saysAll(t *testing.T, l []talks) {
	t.Helper()
	for _, x := range l {
		for _, y := range x.words {
			says(t, said(t, x.s, y.word), y.want)
		}
	}
}

// P6.1: what names of definitions and arguments are evaluated to: an integer each time it is asked, a name of anything else what this name stands for.
func TestArguments(t *testing.T) {
	saysAll(t, []talks{
		{"import i:int 4; def d(x:int 4):int 4=x+x; export m():int 4=d(i*2);", []spoken{{"0?", asks("1?", 5)}, {"0? 1? 1!1", asks("1?", 9)}, {"0? 1? 1!1 1? 1!3", over("0!0", 10)}}},
		{"def d(x:int 4):int 4=1; export m():int 4=d((hang;0));", []spoken{{"0?", over("0!1", 2)}}},
		// An integer that is handed on and on is evaluated each time, and takes a step each time.
		{"import i:int 4; def d(x:int 4):int 4=x; def e(y:int 4):int 4=d(y)+d(y); export m():int 4=e(i);", []spoken{{"0?", asks("1?", 6)}, {"0? 1? 1!2", asks("1?", 10)}, {"0? 1? 1!2 1? 1!3", over("0!1", 10)}}},
		{"def z():int 4=3; def d(x:int 4):int 4=x; def e(y:int 4):int 4=d(y); export m():int 4=e(z);", []spoken{{"0?", over("0!3", 6)}}},
		// A cell that is handed on and on takes none.
		{"def d(c:cell 4):int 4=!c; def e(c:cell 4):int 4=d(c); export m():int 4=new a:4:=3 in e(a);", []spoken{{"0?", over("0!3", 4)}}},
		{"def d(c:cell 4):com=c:=!c+1; export m(p:cell 4):com=d(p);d(p);", []spoken{{"0?", asks("1?", 5)}, {"0? 1? 1!3", asks("1=0", 6)}, {"0? 1? 1!3 1=0 1!0", asks("1?", 10)}, {"0? 1? 1!3 1=0 1!0 1? 1!1 1=2 1!0", over("0!0", 11)}}},
		{"def d(c:cell 4):com=c:=!c+1; export m():int 4=new a:4:=2 in(d(a);d(a);!a);", []spoken{{"0?", over("0!0", 13)}}},
		{"def d(c:cell 3,b:cell 3):com=(b:=!c;c:=0); export m():int 3=new a:3:=2 in new e:3:=1 in(d(e,a);!a+!e);", []spoken{{"0?", over("0!1", 12)}}},
		// Each name keeps what stood for it where the argument stands, not where it is evaluated.
		{"def d(x:int 4):int 4=new c:4:=3 in x; export m():int 4=new c:4:=1 in d(!c);", []spoken{{"0?", over("0!1", 5)}}},
		{"def d(x:int 4,y:int 4):int 4=x; def e(y:int 4,x:int 4):int 4=d(y,x); export m():int 4=e(1,2);", []spoken{{"0?", over("0!1", 5)}}},
		{"def d(k:(com)->int 4):int 4=new c:4:=3 in k(c:=0); export m():int 4=new c:4:=1 in d(fn(x)(x;!c));", []spoken{{"0?", over("0!1", 9)}}},
		{"def d(x:com):com=label l in(x;x)else hang; export m():int 3=label l in(d(jump l);0)else 2;", []spoken{{"0?", over("0!2", 8)}}},
	})
}

// P6.1: functions and objects as arguments.
func TestFunctions(t *testing.T) {
	const twice = "def d(k:(int 3,cell 2)->bool):bool=new c:2:=1 in k(2,c); "
	saysAll(t, []talks{
		{twice + "export m():bool=d(fn(n,z)if n=2 then!z else false);", []spoken{{"0?", over("0!1", 9)}}},
		{twice + "def e(n:int 3,z:cell 2):bool=if n=2 then!z else false; export m():bool=d(e);", []spoken{{"0?", over("0!1", 9)}}},
		{twice + "import g:(int 3,cell 2)->bool; export m():bool=d(g);", []spoken{{"0?", asks("1?", 3)}, {"0? 1? 1.1?", asks("1.1!2", 4)}, {"0? 1? 1.2?", asks("1.2!1", 3)}, {"0? 1? 1.2=0 1.2!0 1.2?", asks("1.2!0", 3)}, {"0? 1? 1!1", over("0!1", 3)}}},
		{twice + "export m(k:(int 3,cell 2)->bool):bool=d(k);", []spoken{{"0? 1? 1.1? 1.1!2 1!0", over("0!0", 4)}}},
		{twice + "def e(k:(int 3,cell 2)->bool):bool=d(k); export m(k:(int 3,cell 2)->bool):bool=e(k);", []spoken{{"0? 1? 1.1? 1.1!2 1!0", over("0!0", 5)}}},
		// A function of a function: its name stands for the same.
		{"def d(k:(int 3)->int 3):int 3=k(k(1)); export m():int 3=d(fn(n)n+n);", []spoken{{"0?", over("0!1", 17)}}},
		{"def o(k:(bool)->com):com=k(true); def e(b:bool):com=if b then hang else skip; export m():com=o(e);", []spoken{{"0?", hangs(6)}}},
		{"def d(k:(cell 3)->com):int 3=new c:3:=1 in(k(c);!c); def inc(c:cell 3):com=c:=!c+1; export m():int 3=d(fn(z)(inc(z);z:=!z*2));", []spoken{{"0?", over("0!1", 15)}}},
		// Objects: what they do when they are asked and put, in sight of where they stand.
		{"def d(c:cell 3):int 3=(c:=2;!c); export m():int 3=new a:3:=0 in d({get!a;put v.a:=v+v});", []spoken{{"0?", over("0!1", 11)}}},
		{"def d(c:cell 3):int 3=(c:=2;!c); def e(c:cell 3):int 3=d(c); export m():int 3=new a:3:=0 in e({get!a;put v.a:=v+v});", []spoken{{"0?", over("0!1", 12)}}},
		{"def d(c:cell 3):com=c:=!c; import i:int 3; export m():com=d({get i;put v.if v=i then skip else hang});", []spoken{{"0?", asks("1?", 4)}, {"0? 1? 1!2", asks("1?", 8)}, {"0? 1? 1!2 1? 1!2", over("0!0", 9)}, {"0? 1? 1!2 1? 1!1", hangs(9)}}},
		{"import f:(int 3)->com; def d(c:cell 3):com=c:=1; export m():com=d({get 0;put v.f(v)});", []spoken{{"0? 1? 1.1?", asks("1.1!1", 5)}, {"0? 1? 1.1? 1.1!1 1.1?", asks("1.1!1", 6)}}},
		// Each put has a value of its own.
		{"def d(c:cell 3):com=(c:=1;c:=2); import f:(int 3)->com; export m():com=d({get 0;put v.f(v)});", []spoken{{"0? 1? 1.1? 1.1!1 1!0", asks("1?", 9)}, {"0? 1? 1.1? 1.1!1 1!0 1? 1.1?", asks("1.1!2", 10)}}},
		{"def d(c:cell 3):com=c:=(c:=1;2); import f:(int 3)->com; export m():com=d({get 0;put v.f(v)});", []spoken{{"0? 1? 1.1?", asks("1.1!1", 7)}, {"0? 1? 1!0 1? 1.1?", asks("1.1!2", 9)}}},
	})
}

// P6.1: identifiers are asked, and ask their arguments as long as they like.
func TestIdentifiers(t *testing.T) {
	const argued = "import f:(int 3,cell 2)->int 4; export m(g:cell 2):int 4=new c:2:=1 in f(!c as 3,c)+f(2,g);"
	const object = "import f:(cell 3)->com; import k:(int 3)->com; export m():com=f({get 2;put v.k(v+1)});"
	saysAll(t, []talks{
		{plus, []spoken{{"", asks("", 0)}, {"0?", asks("1?", 2)}, {"0? 1?", asks("", 2)}, {"0? 1? 1!0", over("0!1", 3)}, {"0? 1? 1!2", over("0!0", 3)}, {"0? 1? 1!2 0!0", over("", 3)}}},
		{argued, []spoken{
			{"0?", asks("1?", 3)}, {"0? 1? 1.1?", asks("1.1!1", 5)}, {"0? 1? 1.1? 1.1!1 1.1?", asks("1.1!1", 7)}, {"0? 1? 1.2?", asks("1.2!1", 3)}, {"0? 1? 1.2=0", asks("1.2!0", 3)},
			{"0? 1? 1.2=0 1.2!0 1.1?", asks("1.1!0", 5)}, {"0? 1? 1.2=0 1.2!0 1!3", asks("1?", 4)}, {"0? 1? 1!3 1? 1.1?", asks("1.1!2", 5)},
			{"0? 1? 1!3 1? 1.2?", asks("2?", 4)}, {"0? 1? 1!3 1? 1.2? 2? 2!1", asks("1.2!1", 4)}, {"0? 1? 1!3 1? 1.2=1", asks("2=1", 4)}, {"0? 1? 1!3 1? 1.2=1 2=1 2!0", asks("1.2!0", 4)},
			{"0? 1? 1!3 1? 1.2=1 2=1 2!0 1.2!0 1!2", over("0!1", 4)},
		}},
		{object, []spoken{{"0? 1? 1.1?", asks("1.1!2", 2)}, {"0? 1? 1.1=2", asks("2?", 2)}, {"0? 1? 1.1=2 2? 2.1?", asks("2.1!0", 5)}, {"0? 1? 1.1=2 2? 2.1? 2.1!0 2!0", asks("1.1!0", 5)}, {"0? 1? 1.1=1 2? 2!0 1.1!0 1.1=0 2? 2.1?", asks("2.1!1", 6)}}},
		{"import i:bool; export m():bool=not i and i or i;", []spoken{{"0? 1? 1!1", asks("1?", 5)}, {"0? 1? 1!1 1? 1!1", over("0!1", 5)}, {"0? 1? 1!0 1? 1!1", over("0!1", 5)}, {"0? 1? 1!0 1? 1!0 1? 1!0", over("0!0", 6)}}},
		{"import c:cell 3; export m():com=while!c do c:=!c-1;", []spoken{{"0?", asks("1?", 2)}, {"0? 1? 1!2", asks("1?", 5)}, {"0? 1? 1!2 1? 1!0", asks("1=2", 6)}, {"0? 1? 1!2 1? 1!0 1=2 1!0", asks("1?", 7)}, {"0? 1? 1!2 1? 1!0 1=2 1!0 1? 1!0", over("0!0", 7)}}},
		// An identifier inside of another one's argument, and the same one again.
		{"import f:(int 2)->int 2; export m():int 2=f(f(1));", []spoken{{"0? 1? 1.1?", asks("1?", 2)}, {"0? 1? 1.1? 1? 1.1?", asks("1.1!1", 3)}, {"0? 1? 1.1? 1? 1!0", asks("1.1!0", 2)}, {"0? 1? 1.1? 1? 1!0 1.1!0 1.1?", asks("1?", 3)}, {"0? 1? 1!1", over("0!1", 1)}}},
		// Imports have the first numbers, wherever they stand, then the params.
		{"import a:int 2; export m(b:int 2,c:int 2):int 2=b+a+c; import d:int 2;", []spoken{{"0?", asks("3?", 3)}, {"0? 3? 3!1", asks("1?", 4)}, {"0? 3? 3!1 1? 1!1", asks("4?", 5)}, {"0? 3? 3!1 1? 1!1 4? 4!1", over("0!1", 5)}}},
		{"export n():com=hang; def d(b:int 2):int 2=b; export m(b:int 2):int 2=d(b);", []spoken{{"0?", asks("1?", 3)}}},
		{"import k:(com)->int 64; export m():int 64=k(skip)+k(skip);", []spoken{{"0? 1? 1!63 1? 1.1? 1.1!0 1!63", over("0!62", 4)}}},
	})
}

// P6.1: what an import with params tells can be called a cell; it is an integer for all that is said.
func TestCellsThatAreTold(t *testing.T) {
	saysAll(t, []talks{{"import f:(com)->cell 3; export m():int 3=f(skip)+1;", []spoken{{"0?", asks("1?", 2)}, {"0? 1? 1.1?", asks("1.1!0", 3)}, {"0? 1? 1!2", over("0!0", 3)}}}})
}
