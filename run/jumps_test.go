package run_test

import "testing"

// P6.1: jumps out of arguments tell Esc, are told it, and go on to the label of this time.
func TestJumps(t *testing.T) {
	const nested = "import f:(com)->int 2; export m():int 4=label l in f(f(jump l)as 1)as 4 else 3;"
	const again = "import f:(com)->com; def d(x:com):int 4=label l in(f((x;jump l));0)else 1; export m():int 4=label k in(d(f(jump k))+d(skip))else 3;"
	saysAll(t, []talks{
		{leaps, []spoken{{"0?", asks("1?", 2)}, {"0? 1? 1.1?", asks("1.1!*", 3)}, {"0? 1? 1.1? 1.1!*", asks("", 3)}, {"0? 1? 1.1? 1.1!* 1!*", over("0!0", 4)}, {"0? 1? 1!0", over("0!0", 2)}}},
		{nested, []spoken{{"0? 1? 1.1? 1? 1.1?", asks("1.1!*", 6)}, {"0? 1? 1.1? 1? 1.1? 1.1!* 1!*", asks("1.1!*", 6)}, {"0? 1? 1.1? 1? 1.1? 1.1!* 1!* 1.1!* 1!*", over("0!3", 7)}, {"0? 1? 1.1? 1? 1!1", asks("1.1!0", 5)}}},
		// The label of a definition that is called again is another one.
		{again, []spoken{
			{"0? 1? 1.1? 1? 1.1? 1.1!* 1!* 1.1!* 1!*", over("0!3", 11)},
			{"0? 1? 1.1? 1? 1!0", asks("1.1!*", 10)}, {"0? 1? 1.1? 1? 1!0 1.1!* 1!*", asks("1?", 15)}, {"0? 1? 1.1? 1? 1!0 1.1!* 1!* 1? 1.1? 1.1!* 1!*", over("0!2", 20)},
		}},
		{"def t(x:com):com=label l in(x;jump l)else skip; export m():int 3=label l in(t(jump l);0)else 2;", []spoken{{"0?", over("0!2", 8)}}},
		// A jump to the label of a definition that is called inside of itself goes past the inner one.
		{"def t(k:(com)->com):int 3=label l in(k(jump l);0)else 1; export m():int 3=t(fn(j)(t(fn(z)j)as 1;hang));", []spoken{{"0?", over("0!1", 13)}}},
		// Jumps out of both parts of a loop.
		{"import i:bool; export m():int 3=label l in(while(if i then jump l else skip;i)do skip;0)else 2;", []spoken{{"0? 1? 1!1", over("0!2", 8)}, {"0? 1? 1!0 1? 1!1 1? 1!1", over("0!2", 14)}, {"0? 1? 1!0 1? 1!0", over("0!0", 9)}}},
		{"import i:bool; export m():int 3=label l in(while i do if i then jump l else skip;0)else 2;", []spoken{{"0? 1? 1!1 1? 1!0 1? 1!1 1? 1!1", over("0!2", 12)}}},
		{"def t(x:com,k:(com)->com):int 3=label l in(k((x;jump l));0)else 1; def s(k:(com)->com):int 3=label o in(t((t(jump o,k)as 1),k)as 1;0)else 2; export m():int 3=s(fn(x)x);", []spoken{{"0?", over("0!2", 21)}}},
		// Jumps out of objects, asked and put.
		{"import f:(cell 2)->com; export m():int 3=label l in(f({get jump l as 2;put v.if v then jump l else skip});0)else 2;", []spoken{{"0? 1? 1.1?", asks("1.1!*", 5)}, {"0? 1? 1.1=1", asks("1.1!*", 6)}, {"0? 1? 1.1=0", asks("1.1!0", 6)}, {"0? 1? 1.1=0 1.1!0 1.1=1 1.1!* 1!*", over("0!2", 10)}}},
	})
}

// P6.1: a notice is told of all jumps that go past it, and of no others.
func TestNotices(t *testing.T) {
	const out = "import f:(com)->com; import g:(int 2)->com; export m():com=new c:2:=0 in(label l in notice c:=1 in f(jump l)else skip;g(!c));"
	const within = "import f:(com)->com; export m():int 3=new c:3:=0 in label l in(f(notice c:=1 in jump l);!c)else!c;"
	const seen = "import f:(com)->int 3; export m():int 3=new c:3:=0 in f(notice c:=1 in f(c:=2)as 1)+!c;"
	saysAll(t, []talks{
		{out, []spoken{{"0? 1? 1!0", asks("2?", 6)}, {"0? 1? 1!0 2? 2.1?", asks("2.1!0", 7)}, {"0? 1? 1.1? 1.1!* 1!* 2? 2.1?", asks("2.1!1", 9)}}},
		{within, []spoken{{"0? 1? 1.1? 1.1!* 1!*", over("0!1", 7)}, {"0? 1? 1!0", over("0!0", 5)}}},
		{seen, []spoken{{"0? 1? 1.1? 1? 1.1? 1.1!0 1!1 1.1!0 1!0", over("0!2", 9)}}},
		// A jump that stays inside goes past nothing; an outer one goes past both, the inner one first.
		{"export m():int 4=new c:4:=0 in(label l in notice c:=1 in(label k in jump k else skip)else skip;!c);", []spoken{{"0?", over("0!0", 8)}}},
		{"export m():int 4=new c:4:=0 in(label l in notice c:=1 in notice c:=2 in(label k in jump l else skip)else skip;!c);", []spoken{{"0?", over("0!1", 9)}}},
		{"export m():int 4=new c:4:=0 in new b:4:=3 in(label l in notice c:=2 in notice b:=1 in(c:=1;jump l)else skip;!c+!b);", []spoken{{"0?", over("0!3", 14)}}},
	})
}

// P6.1: an Esc that nothing has jumped leads out of all: nothing but Esc is said then, no label is a goal, and notices are told.
func TestLost(t *testing.T) {
	const caught = "import i:com; export m():int 3=label l in(i;0)else 2;"
	const within = "import f:(int 2)->com; import i:int 2; export m():com=label l in f(label k in i else 1)else skip;"
	const object = "import f:(cell 3)->com; export m(g:cell 3):com=f(g);"
	const noticed = "import f:(int 2)->com; import i:int 2; export m():com=new c:2:=0 in(f(notice c:=1 in i);f(!c));"
	saysAll(t, []talks{
		{"import i:com; export m():com=i;", []spoken{{"^0?", asks("1?", 1)}, {"^0? 1? 1!*", over("0!*", 1)}, {"^0? 1? 1!* 0!*", over("", 1)}, {"^0? 1? 1!0", over("0!0", 1)}}},
		{caught, []spoken{{"^0? 1? 1!*", over("0!*", 3)}}},
		{leaps, []spoken{{"^0? 1? 1!*", over("0!*", 2)}, {"^0? 1? 1.1? 1.1!* 1!*", over("0!0", 4)}}},
		{within, []spoken{{"^0? 1? 1.1? 2? 2!*", asks("1.1!*", 4)}, {"^0? 1? 1.1? 2? 2!* 1.1!* 1!*", over("0!*", 4)}, {"^0? 1? 1.1? 2? 2!1 1.1!1 1!*", over("0!*", 4)}}},
		{object, []spoken{{"^0? 1? 1.1? 2? 2!*", asks("1.1!*", 1)}, {"^0? 1? 1.1=2 2=2 2!*", asks("1.1!*", 1)}, {"^0? 1? 1.1? 2? 2!* 1.1!* 1!*", over("0!*", 1)}}},
		{noticed, []spoken{{"^0? 1? 1.1? 2? 2!* 1.1!* 1!*", over("0!*", 5)}, {"^0? 1? 1.1? 2? 2!1 1.1!1 1!0 1? 1.1?", asks("1.1!0", 7)}}},
		{"import c:cell 2; export m():com=label l in c:=1 else skip;", []spoken{{"^0? 1=1 1!*", over("0!*", 3)}, {"^0? 1=1 1!0", over("0!0", 3)}}},
		{"import i:com; export m():com=while true do i;", []spoken{{"^0? 1? 1!0 1? 1!*", over("0!*", 5)}}},
		{"import i:com; def d(x:com):com=(x;hang); export m():bool=(d(i);true);", []spoken{{"^0? 1? 1!*", over("0!*", 5)}}},
	})
}
