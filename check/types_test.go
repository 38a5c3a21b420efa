package check_test

import (
	"testing"

	"riposte/api"
	"riposte/check"
)

// P3.4: the types of declarations; each text has a ^ in front of one.
func TestType(t *testing.T) {
	com := base(false, 1)
	for _, x := range []struct {
		s    string
		want api.Type
		e    api.Errno
	}{
		{"^import i:com;", plain(com), api.OK},
		{"^import i:bool;", plain(base(false, 2)), api.OK},
		{"^import i:int 64;", plain(base(false, 64)), api.OK},
		{"^import i:cell 3;", plain(base(true, 3)), api.OK},
		{"^import i:(com)->int 5;", arrow(base(false, 5), com), api.OK},
		{"^import i:(com,cell 4,bool)->int 5;", arrow(base(false, 5), com, base(true, 4), base(false, 2)), api.OK},
		// Types are told even if they have errors.
		{"^import i:(cell 0)->int 1000000;", arrow(base(false, 1000000), base(true, 0)), api.OK},
		{"def f(^x:cell 3):com=skip;", plain(base(true, 3)), api.OK},
		{"def f(^x:(com,cell 3)->bool,y:com):com=skip;", arrow(base(false, 2), com, base(true, 3)), api.OK},
		{"export f(y:com,^x:int 7):com=skip;", plain(base(false, 7)), api.OK},
		{"def f():com=^new c:3:=0 in skip;", plain(base(true, 3)), api.OK},
		{"def f():com=^new c:0:=7 in skip;", plain(base(true, 0)), api.OK},
		{"^def f():int 9=8;", plain(base(false, 9)), api.OK},
		{"^def f(x:com,c:cell 3):int 9=true;", arrow(base(false, 9), com, base(true, 3)), api.OK},
		{"^def f():cell 9=true;", plain(base(true, 9)), api.OK},
		{"^def f(x:com,k:(com)->com):com=skip;", api.Type{}, api.ErrType},
		{"^export f():com=skip;", plain(com), api.OK},
		{"^export f(x:bool):int 9=8;", arrow(base(false, 9), base(false, 2)), api.OK},
		{"^export f(k:(com)->com):com=skip;", api.Type{}, api.ErrType},
		// What is bound by a function.
		{"def g(a:com,k:(bool,cell 4)->com):com=skip; def f():com=g(skip,fn(^x,y)skip);", plain(base(false, 2)), api.OK},
		{"def g(a:com,k:(bool,cell 4)->com):com=skip; def f():com=g(skip,fn(x,^y)skip);", plain(base(true, 4)), api.OK},
		{"def g(a:com,k:(bool,cell 4)->com):com=skip; def f():com=g(fn(^x,y)skip,skip);", api.Type{}, api.ErrType},
		{"def g(a:com,k:(bool,cell 4)->com):com=skip; def f():com=g(skip,fn(^x)skip);", api.Type{}, api.ErrType},
		{"def g(a:com,k:(bool,cell 4)->com):com=skip; def f():com=g(skip,fn(^x,y,z)skip);", api.Type{}, api.ErrType},
		{"def g(a:com,k:(bool)->com):com=skip; def f():com=g(skip,skip,fn(^x)skip);", api.Type{}, api.ErrType},
		{"def g(k:(bool)->com):com=skip; def f():com=g(fn(^x)skip,skip);", plain(base(false, 2)), api.OK},
		{"def g(k:(bool)->com,a:com):com=skip; def f():com=g(fn(^x)skip);", plain(base(false, 2)), api.OK},
		{"import g:(bool)->com; def f():com=g(fn(^x)skip);", api.Type{}, api.ErrType},
		{"def h(g:(bool)->com):com=g(fn(^x)skip);", api.Type{}, api.ErrType},
		{"def f():com=g(fn(^x)skip);", api.Type{}, api.ErrType},
		{"def g(k:(bool)->com):com=skip; def f():com=g(fn(x)x(fn(^y)skip));", api.Type{}, api.ErrType},
		// What is bound by a cell.
		{"def g(a:com,c:cell 4):com=skip; def f():com=g(skip,{get 1;put ^v.skip});", plain(base(false, 4)), api.OK},
		{"import g:(com,cell 4)->com; def f():com=g(skip,{get 1;put ^v.skip});", plain(base(false, 4)), api.OK},
		{"def f(g:(cell 4,com)->com):com=g({get 1;put ^v.skip});", plain(base(false, 4)), api.OK},
		{"import g:(com,cell 4)->com; def f():com=g({get 1;put ^v.skip},skip);", api.Type{}, api.ErrType},
		{"import g:(com,cell 4)->com; def f():com=g(skip,skip,{get 1;put ^v.skip});", api.Type{}, api.ErrType},
		{"import g:com; def f():com=g({get 1;put ^v.skip});", api.Type{}, api.ErrType},
		{"import g:cell 4; def f():com=g({get 1;put ^v.skip});", api.Type{}, api.ErrType},
		{"def g(k:(cell 4)->com):com=skip; def f():com=g({get 1;put ^v.skip});", api.Type{}, api.ErrType},
		{"def f():com=g({get 1;put ^v.skip});", api.Type{}, api.ErrType},
		{"def g(k:(cell 4)->com):com=skip; def f():com=g(fn(x)x({get 1;put ^v.skip}));", api.Type{}, api.ErrType},
		// What is none, or a label.
		{"def f():com=^label l in skip else skip;", api.Type{}, api.ErrNone},
		{"def f():com=^skip;", api.Type{}, api.ErrNone},
		{"import i:^com;", api.Type{}, api.ErrNone},
		{"import i:com; def f():com=^i;", api.Type{}, api.ErrNone},
	} {
		u, l := marked(t, x.s)
		if y, e := check.Type(u, l[0]); !same(y, x.want) || e != x.e {
			t.Errorf("%s: %v, %v", x.s, y, e)
		}
	}
	if _, e := check.Type(parsed(t, ""), 0); e != api.ErrNone {
		t.Errorf("Type of the program: %v", e)
	}
}

// P3.4: the sizes that terms are given; each text has a ^ in front of one. 0 means that it has none.
func TestSize(t *testing.T) {
	for _, x := range []struct {
		s    string
		want int
	}{
		{"def f():int 64=^63;", 64},
		{"def f():bool=^true;", 2},
		{"def f():com=^skip;", 1},
		{"export f():com=^hang;", 1},
		{"import i:int 5; def f():int 5=^i;", 5},
		{"import i:cell 5; def f():int 5=^!i;", 5},
		{"import i:cell 5; def f():com=^i:=4;", 1},
		{"import i:cell 5; def f():com=i:=^4;", 5},
		{"def f():int 3=^skip;2;", 1},
		{"def f():int 3=^0;skip;2;", 1},
		{"def f():int 3=skip;^0;2;", 1},
		{"def f():int 3=skip^;2;", 3},
		{"def f():int 3=skip;^2;", 3},
		{"def f():int 3=^if 6 as 7 then 1 else 2;", 3},
		{"def f():int 3=if 6 ^as 7 then 1 else 2;", 7},
		{"def f():int 3=if ^6 as 7 then 1 else 2;", 7},
		{"def f():int 3=if 6 as 7 then ^1 else 2;", 3},
		{"def f():int 3=if 6 as 7 then 1 else ^2;", 3},
		{"def f():com=while 6 ^as 7 do 0;", 7},
		{"def f():com=while 6 as 7 do ^0;", 1},
		{"def f():int 3=new c:2:=0 in ^1;", 3},
		{"def f():int 3=new c:2:=0 in notice c:=1 in ^1;", 3},
		{"def f():int 3=new c:2:=0 in ^notice c:=1 in 1;", 3},
		{"def f():int 3=label l in ^1 else 2;", 3},
		{"def f():int 3=label l in 1 else ^2;", 3},
		{"def f():int 3=choose ^1 else 2;", 3},
		{"def f():int 3=choose 1 else ^2;", 3},
		{"def f():bool=^1 or 0;", 2},
		{"def f():bool=1 or ^0;", 2},
		{"def f():bool=1 and not ^0;", 2},
		{"def f():bool=^4=3 as 5;", 5},
		{"def f():bool=4^=3 as 5;", 2},
		{"def f():bool=4=3 ^as 5;", 5},
		{"def f():bool=3 as 5<^4;", 5},
		{"def f():bool=4<^2+3 as 5;", 5},
		{"def f():int 5=^4+3*2;", 5},
		{"def f():int 5=4+3^*2;", 5},
		{"def f():int 5=4+3*^2;", 5},
		{"def f():int 5=4^-3;", 5},
		{"def f():int 5=^1000000 as 5;", 5},
		{"def f():int 5=true ^as 5;", 5},
		{"def f():int 5=^true as 5;", 2},
		{"def f():int 5=^9 as 7 as 5;", 7},
		// Arguments.
		{"import k:(int 3,cell 4)->int 5; import c:cell 4; def f():int 5=^k(2,c);", 5},
		{"import k:(int 3,cell 4)->int 5; import c:cell 4; def f():int 5=k(^2,c);", 3},
		{"import k:(int 3,cell 4)->int 5; import c:cell 4; def f():int 5=k(2,^c);", 0},
		{"import k:(int 3,cell 4)->int 5; def f():int 5=k(2,{get ^3;put v.0});", 4},
		{"import k:(int 3,cell 4)->int 5; def f():int 5=k(2,{get 3;put v.^0});", 1},
		{"import k:(int 3,cell 4)->int 5; def f():int 5=k(2,^{get 3;put v.0});", 0},
		{"import i:int 3; import k:(int 3)->com; def f():com=k(^i);", 3},
		{"def g(k:(int 3)->int 5):com=skip; import j:(int 3)->int 5; def f():com=g(^j);", 0},
		{"def g(k:(int 3)->int 5):com=skip; def f():com=^g(fn(x)4);", 1},
		{"def g(k:(int 3)->int 5):com=skip; def f():com=g(fn(x)^4);", 5},
		{"def g(k:(int 3)->int 5):com=skip; def f():com=g(^fn(x)4);", 0},
		{"def g(k:(int 3)->int 5):com=skip; def f():com=g(fn(^x)4);", 0},
		// What is no term.
		{"^import i:com;", 0},
		{"import i:^com;", 0},
		{"^def f():com=skip;", 0},
		{"def f(^x:com):com=skip;", 0},
		{"def f():^com=skip;", 0},
		// Errors of other items do not matter.
		{"def a():com=true; def f():com=^skip; def b():com=x;", 1},
	} {
		u, l := marked(t, x.s)
		want := api.OK
		if x.want == 0 {
			want = api.ErrNone
		}
		if s, e := check.Size(u, l[0]); s != x.want || e != want {
			t.Errorf("%s: %d, %v", x.s, s, e)
		}
	}
	if s, e := check.Size(parsed(t, everything), 0); s != 0 || e != api.ErrNone {
		t.Errorf("Size of the program: %d, %v", s, e)
	}
}

// P3.4, R1: Size has the errors of its item, but behind that of a node that is no term, and in front of that of an argument without a size.
func TestSizeErrors(t *testing.T) {
	for _, x := range []struct {
		s string
		e api.Errno
	}{
		{"def f(a:com,a:com):com=^skip;", api.ErrTwice},
		{"def f():com=^skip;9 as 65;", api.ErrRange},
		{"def f():com=^skip;x;", api.ErrName},
		{"def f():com=^skip;true;", api.ErrType},
		{"def f():com=skip;^true;", api.ErrType},
		{"import k:(cell 3)->com; import c:cell 3; def f():com=k(^c);true;", api.ErrType},
		{"import k:(cell 3)->com; import c:cell 3; def f():com=k(^c);x;", api.ErrName},
		{"import k:(cell 3)->com; def f():com=k(^{get 1;put v.skip});x;", api.ErrNone},
		{"def f(a:com,^a:com):com=x;", api.ErrNone},
	} {
		u, l := marked(t, x.s)
		if s, e := check.Size(u, l[0]); s != 0 || e != x.e {
			t.Errorf("%s: %d, %v", x.s, s, e)
		}
	}
}
