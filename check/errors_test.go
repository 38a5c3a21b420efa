package check_test

import (
	"slices"
	"strings"
	"testing"

	"riposte/api"
	"riposte/check"
)

// fault is a text, with a ^ in front of the token of the first node that has an error, and this.
type fault struct {
	s string
	e api.Errno
}

// tree returns the tree of a fault's text, and its node; 0, if there is no ^.
func (x fault) tree(t *testing.T) (api.Tree, int) {
	t.Helper()
	front, behind, marked := strings.Cut(x.s, "^")
	u := parsed(t, front+behind)
	if !marked {
		return u, 0
	}
	return u, 1 + slices.IndexFunc(u.Nodes[1:], func(y api.TreeNode) bool { return y.At == len(front) })
}

// holdFaults holds what Program says of texts.
func holdFaults(t *testing.T, l []fault) {
	t.Helper()
	for _, x := range l {
		u, at := x.tree(t)
		if n, e := check.Program(u); n != at || e != x.e {
			t.Errorf("%s: %d, %v instead of %d, %v", x.s, n, e, at, x.e)
		}
	}
}

// P3.1: a name that is there already, in the item or as an item.
func TestErrTwice(t *testing.T) {
	holdFaults(t, []fault{
		{"import a:com; ^import a:com;", api.ErrTwice},
		{"import a:com; ^export a():com=skip;", api.ErrTwice},
		{"export a():com=skip; ^import a:com;", api.ErrTwice},
		{"export a():com=skip; ^def a():com=skip;", api.ErrTwice},
		{"import a:com; import b:com; ^import a:com; import b:com;", api.ErrTwice},
		// Behind an item, too; the item itself minds those in front of it alone.
		{"def f(^a:com):com=skip; export a():com=skip;", api.ErrTwice},
		{"export a():com=skip; def f(^a:com):com=skip;", api.ErrTwice},
		{"def f(^f:com):com=skip;", api.ErrTwice},
		{"export f():com=^new f:1:=0 in skip;", api.ErrTwice},
		{"def f():com=skip; def g():com=^new f:1:=0 in skip;", api.ErrTwice},
		{"def g():com=^new f:1:=0 in skip; def f():com=skip;", api.ErrTwice},
		// Each kind of declarations.
		{"def f(a:com,b:com,^a:com):com=skip;", api.ErrTwice},
		{"def f(a:com):com=^label a in skip else skip;", api.ErrTwice},
		{"def f():com=new a:1:=0 in ^new a:1:=0 in skip;", api.ErrTwice},
		{"def f():com=(new a:1:=0 in skip);^new a:1:=0 in skip;", api.ErrTwice},
		{"def f():com=label a in skip else ^new a:1:=0 in skip;", api.ErrTwice},
		{"def f(k:(com,com)->com):com=skip; export g():com=f(fn(a,^a)skip);", api.ErrTwice},
		{"def f(k:(com)->com):com=skip; export g():com=f(fn(^f)skip);", api.ErrTwice},
		{"def f(k:(com)->com):com=skip; export g():com=f(fn(k)skip);", api.OK},
		{"def f(c:cell 1):com=skip; export g():com=f({get 0;put ^g.skip});", api.ErrTwice},
		{"def f(c:cell 1):com=skip; export g():com=f({get 0;put a.f({get 0;put ^a.skip})});", api.ErrTwice},
		{"def f(c:cell 1):com=skip; export g():com=f({get new a:1:=0 in 0;put ^a.skip});", api.ErrTwice},
		// The same name in two items is none; nor is that of a name that is no declaration.
		{"def f(a:com):com=new b:1:=0 in skip; def g(b:com):com=new a:1:=0 in skip;", api.OK},
		{"export a():com=skip; export b():com=skip;", api.OK},
		{"import a:com; def f():com=a;a;a;", api.OK},
	})
}

// P3.1: sizes from 1 to 64, and first values below them; each with the limit, and passed by one.
func TestErrRange(t *testing.T) {
	holdFaults(t, []fault{
		{"import a:int 1;", api.OK},
		{"import a:int 64;", api.OK},
		{"import a:^int 0;", api.ErrRange},
		{"import a:^int 65;", api.ErrRange},
		{"import a:^int 1000000;", api.ErrRange},
		{"import a:cell 1;", api.OK},
		{"import a:cell 64;", api.OK},
		{"import a:^cell 0;", api.ErrRange},
		{"import a:^cell 65;", api.ErrRange},
		{"import a:(int 64,cell 64)->int 64;", api.OK},
		{"import a:(^int 0)->com;", api.ErrRange},
		{"import a:(com,^cell 65)->com;", api.ErrRange},
		{"import a:(com)->^int 65;", api.ErrRange},
		{"def f(a:^int 65):com=skip;", api.ErrRange},
		{"def f(a:(^cell 0)->com):com=skip;", api.ErrRange},
		{"export f(a:(com)->^int 0):com=skip;", api.ErrRange},
		{"def f():int 64=63;", api.OK},
		{"def f():^int 65=64;", api.ErrRange},
		{"export f():^int 0=0;", api.ErrRange},
		{"def f():^cell 65=skip;", api.ErrRange},
		{"def f():com=new c:64:=63 in skip;", api.OK},
		{"def f():com=^new c:65:=0 in skip;", api.ErrRange},
		{"def f():com=^new c:0:=0 in skip;", api.ErrRange},
		{"def f():com=new c:1:=0 in skip;", api.OK},
		{"def f():com=^new c:1:=1 in skip;", api.ErrRange},
		{"def f():com=^new c:64:=64 in skip;", api.ErrRange},
		{"def f():com=^new c:3:=1000000 in skip;", api.ErrRange},
		{"def f():int 64=9 as 64;", api.OK},
		{"def f():int 1=9 as 1;", api.OK},
		{"def f():int 64=9 ^as 65;", api.ErrRange},
		{"def f():int 64=9 ^as 0;", api.ErrRange},
		// The least node, wherever the others stand; a notice's number is a matter of types.
		{"def f(a:^int 65):int 65=9 as 65;", api.ErrRange},
		{"def f():com=^new c:3:=3 in new d:65:=0 in skip;", api.ErrRange},
		{"def f():com=new c:3:=0 in ^notice c:=1000000 in skip;", api.ErrType},
	})
}

// P3.1: each kind of names that means nothing where it stands.
func TestErrName(t *testing.T) {
	holdFaults(t, []fault{
		{"def f():com=^x;", api.ErrName},
		{"def f():com=^x(skip);", api.ErrName},
		{"def f():com=^!x;", api.ErrName},
		{"def f():com=^x:=0;", api.ErrName},
		{"def f():com=^notice x:=0 in skip;", api.ErrName},
		{"def f():com=^jump x;", api.ErrName},
		{"def f():com=skip;^x;y;", api.ErrName},
		{"import i:com; def f():com=i(^x);", api.ErrName},
		// What stands behind, or is an export, or is the item itself.
		{"def f():com=^g; import g:com;", api.ErrName},
		{"export g():com=skip; def f():com=^g;", api.ErrName},
		{"def f():com=^f;", api.ErrName},
		{"def f(x:com):com=^f(x);", api.ErrName},
		// What is in sight elsewhere alone.
		{"def f(x:com):com=x; def g():com=^x;", api.ErrName},
		{"def f():com=(new c:1:=0 in skip);^c:=0;", api.ErrName},
		{"def f():com=label l in skip else ^jump l;", api.ErrName},
		{"def g(k:(com)->com,c:cell 2):com=skip; def f():com=g(fn(x)x,{get ^x;put v.skip});", api.ErrName},
		{"def g(c:cell 2):com=skip; def f():com=g({get ^v;put v.skip});", api.ErrName},
		// A label is no name, and all else is no label.
		{"def f():com=label l in ^l else skip;", api.ErrName},
		{"def f():com=label l in^!l else skip;", api.ErrName},
		{"def f():com=label l in ^l:=0 else skip;", api.ErrName},
		{"def f():com=label l in ^notice l:=0 in skip else skip;", api.ErrName},
		{"def f():com=label l in ^l(skip)else skip;", api.ErrName},
		{"import x:com; def f():com=^jump x;", api.ErrName},
		{"def f():com=new x:1:=0 in ^jump x;", api.ErrName},
		{"def f(x:com):com=^jump x;", api.ErrName},
	})
}

// P3.1, R1: of an item's errors the first one in the chapter's order counts, not that of the least node; of a program's items the first one that has any.
func TestOrderOfErrors(t *testing.T) {
	holdFaults(t, []fault{
		{"def f(a:cell 65):cell 2=x;^new a:1:=0 in skip;", api.ErrTwice},
		{"def f():cell 2=x;9 ^as 65;", api.ErrRange},
		{"def f():cell 2=true;^x;", api.ErrName},
		{"def f():^cell 2=true;true;", api.ErrType},
		{"def f():com=^true;9;", api.ErrType},
		{"def f():com=skip;^9;", api.ErrType},
		{"def f():com=^true; import f:com;", api.ErrType},
		{"import f:com; def g():com=^x; def f():com=skip;", api.ErrName},
		{"def f():com=skip; ^def f():com=x; def g():com=true;", api.ErrTwice},
		{"def a():com=skip; def b():com=^9; def c():com=x;", api.ErrType},
		{"", api.OK},
	})
	u := parsed(t, "def a():com=skip; def b():com=9; def c():com=x;")
	want := map[int]fault{1: {"", api.OK}, 4: {"def a():com=skip; def b():com=^9; def c():com=x;", api.ErrType}, 7: {"def a():com=skip; def b():com=9; def c():com=^x;", api.ErrName}}
	for n := range u.Nodes {
		x, at := fault{"", api.ErrNone}, 0
		if y, ok := want[n]; ok {
			_, at = y.tree(t)
			x = y
		}
		if k, e := check.Item(u, n); k != at || e != x.e {
			t.Errorf("Item %d: %d, %v", n, k, e)
		}
	}
}

// P3.1: what each kind of terms needs to fit, and to hand on to its kids.
func TestErrTypeOfTerms(t *testing.T) {
	holdFaults(t, []fault{
		{"def f():^cell 2=0;", api.ErrType},
		{"export f():^cell 1=skip;", api.ErrType},
		{"def f():int 3=2;", api.OK},
		{"def f():int 3=^3;", api.ErrType},
		{"def f():com=0;", api.OK},
		{"def f():com=^1;", api.ErrType},
		{"def f():bool=true;", api.OK},
		{"def f():int 3=^true;", api.ErrType},
		{"def f():com=^false;", api.ErrType},
		{"def f():com=hang;", api.OK},
		{"def f():bool=^hang;", api.ErrType},
		{"def f():bool=^skip;", api.ErrType},
		{"def f():bool=label l in ^jump l else true;", api.ErrType},
		// Names.
		{"import i:int 3; def f():int 3=i;", api.OK},
		{"import i:int 3; def f():int 4=^i;", api.ErrType},
		{"import i:cell 3; def f():int 3=^i;", api.ErrType},
		{"import i:(com)->int 3; def f():int 3=^i;", api.ErrType},
		{"def g(x:com):int 3=2; def f():int 3=^g;", api.ErrType},
		{"def g():int 3=2; def f():int 3=g;", api.OK},
		{"def g(k:(com)->com):int 3=2; def f():int 3=^g;", api.ErrType},
		{"import i:cell 3; def f():int 3=!i;", api.OK},
		{"import i:cell 3; def f():int 4=^!i;", api.ErrType},
		{"import i:int 3; def f():int 3=^!i;", api.ErrType},
		{"import i:(com)->int 3; def f():int 3=^!i;", api.ErrType},
		{"import i:cell 3; def f():com=i:=2;", api.OK},
		{"import i:cell 3; def f():com=i:=^3;", api.ErrType},
		{"import i:cell 3; def f():bool=^i:=2;", api.ErrType},
		{"import i:int 3; def f():com=^i:=2;", api.ErrType},
		{"def f():int 3=new c:5:=4 in notice c:=4 in 2;", api.OK},
		{"def f():int 3=new c:5:=4 in ^notice c:=5 in 2;", api.ErrType},
		{"def f():int 3=new c:5:=4 in notice c:=4 in ^3;", api.ErrType},
		{"import c:cell 5; def f():com=^notice c:=4 in skip;", api.ErrType},
		{"def f(c:cell 5):com=^notice c:=4 in skip;", api.ErrType},
		// Sequences, branches, loops.
		{"def f():int 3=skip;skip;2;", api.OK},
		{"def f():int 3=skip;^2;2;", api.ErrType},
		{"def f():int 3=skip;skip;^3;", api.ErrType},
		{"def f():int 3=0;0;2;", api.OK},
		{"def f():int 3=if 5 as 9 then 2 else 1;", api.OK},
		{"def f():int 3=if 5 as 9 then ^3 else 1;", api.ErrType},
		{"def f():int 3=if 5 as 9 then 2 else ^3;", api.ErrType},
		{"def f():com=if ^1 then skip else skip;", api.ErrType},
		{"def f():com=if 1^+1 then skip else skip;", api.ErrType},
		{"def f():com=if 1+1 as 3 then skip else skip;", api.OK},
		{"def f():com=while true do 0;", api.OK},
		{"def f():com=while true do ^1;", api.ErrType},
		{"def f():com=while ^0 do skip;", api.ErrType},
		{"def f():bool=^while true do skip;", api.ErrType},
		{"def f():int 3=new c:2:=0 in 2;", api.OK},
		{"def f():int 3=new c:2:=0 in ^3;", api.ErrType},
		{"def f():int 3=label l in 2 else 1;", api.OK},
		{"def f():int 3=label l in ^3 else 1;", api.ErrType},
		{"def f():int 3=label l in 2 else ^3;", api.ErrType},
		{"def f():int 3=choose 2 else 1;", api.OK},
		{"def f():int 3=choose ^3 else 1;", api.ErrType},
		{"def f():int 3=choose 2 else ^3;", api.ErrType},
		// Operations.
		{"def f():bool=0 or 1 and not 1;", api.OK},
		{"def f():int 3=1 ^or 1;", api.ErrType},
		{"def f():com=0 ^and 0;", api.ErrType},
		{"def f():int 3=^not 0;", api.ErrType},
		{"def f():bool=1 or ^2;", api.ErrType},
		{"def f():bool=^2 and 1;", api.ErrType},
		{"def f():bool=not ^2;", api.ErrType},
		{"import i:int 3; def f():bool=^i or true;", api.ErrType},
		{"import i:int 3; def f():bool=2=i;", api.OK},
		{"import i:int 3; def f():bool=i<^3;", api.ErrType},
		{"import i:int 3; def f():bool=^3=i;", api.ErrType},
		{"import i:int 3; def f():int 3=2^=i;", api.ErrType},
		{"import i:int 3; def f():com=i^<i;", api.ErrType},
		{"def f():bool=1^=1;", api.ErrType},
		{"import i:cell 3; def f():bool=i^=1;", api.ErrType},
		{"import i:int 3; def f():bool=!i^=1;", api.ErrType},
		{"import i:(com)->int 3; def f():bool=1^=i;", api.ErrType},
		{"def g(x:com):int 3=2; def f():bool=1^=g;", api.ErrType},
		{"def g(k:(com)->com):int 3=2; def f():bool=1^=g;", api.ErrType},
		{"def f():bool=0^<1+1;", api.ErrType},
		{"import i:int 3; import j:int 4; def f():bool=i=^j;", api.ErrType},
		{"import i:int 3; import j:int 4; def f():bool=j=^i;", api.ErrType},
		{"def f():int 3=2+2*2-2;", api.OK},
		{"def f():int 3=2+^3;", api.ErrType},
		{"def f():int 3=^3-2;", api.ErrType},
		{"def f():int 3=2*^3;", api.ErrType},
		{"def f():int 3=1000000 as 3;", api.OK},
		{"def f():int 3=2 ^as 4;", api.ErrType},
		{"def f():int 3=true as 3;", api.OK},
		{"def f():int 3=(2^-1)as 3;", api.ErrType},
		{"def f():int 3=9 as 5 as 3;", api.OK},
		{"import i:cell 5; def f():int 3=^i as 3;", api.ErrType},
		// What stands in a term that has an error, or behind it, does not matter.
		{"def f():bool=skip;if ^1 then 9 else true;", api.ErrType},
		{"def f():com=true^=9;", api.ErrType},
	})
}

// P3.1: the own size of each kind of terms.
func TestOwnSizes(t *testing.T) {
	// A term with an own size can be compared with the numbers below this; one that has none with no number.
	const front = "import i:int 5; import c:cell 6; import k:(com)->int 7; def d():int 8=0; def e(x:com):int 9=0; "
	for s, want := range map[string]int{
		"true": 2, "false": 2, "i": 5, "!c": 6, "k(skip)": 7, "d": 8, "e(skip)": 9, "skip": 1, "hang": 1, "(c:=0)": 1, "(while true do skip)": 1,
		"(true or 0)": 2, "(0 and 1)": 2, "(not 0)": 2, "(i=1)": 2, "(1<i)": 2, "4 as 3": 3, "(skip;i)": 5, "(skip;skip;!c)": 6,
		"(if 9 as 9 then i else 1)": 5, "(if 9 as 9 then 1 else i)": 5, "(new z:2:=0 in i)": 5, "(new z:2:=0 in!z)": 2, "(new z:2:=0 in notice z:=1 in i)": 5,
		"(label l in i else 1)": 5, "(label l in 1 else i)": 5, "(label l in jump l else skip)": 1, "(choose i else 1)": 5, "(choose 1 else i)": 5,
		"(i+1)": 5, "(1+i)": 5, "(i-1)": 5, "(1-i)": 5, "i*1": 5, "1*i": 5, "(1+1*i)": 5,
		"1": 0, "(1+1)": 0, "(skip;1)": 0, "(if i then 1 else 2)": 0, "(new z:2:=0 in 1)": 0, "(new z:2:=0 in notice z:=1 in 1)": 0, "(label l in 1 else 2)": 0, "(choose 1 else 2)": 0, "(1*2)": 0, "(1-2)": 0,
	} {
		for _, x := range []string{s + "=0", "0<" + s} {
			_, e := check.Program(parsed(t, front+"export f():bool="+x+";"))
			if (e == api.OK) != (want > 0) {
				t.Errorf("%s: %v", x, e)
			}
		}
		if want == 0 {
			continue
		}
		_, e := check.Program(parsed(t, front+"export f():bool="+s+"="+itoa(want-1)+";"))
		_, f := check.Program(parsed(t, front+"export f():bool="+itoa(want)+"="+s+";"))
		if e != api.OK || f != api.ErrType {
			t.Errorf("%s: %v, %v", s, e, f)
		}
	}
}

// P3.1: arguments for integers, cells and what has params.
func TestErrTypeOfArguments(t *testing.T) {
	holdFaults(t, []fault{
		// As many as there are params; of something that has any.
		{"import k:com; def f():com=^k(skip);", api.ErrType},
		{"def k():com=skip; def f():com=^k(skip);", api.ErrType},
		{"import k:cell 1; def f():com=^k(skip);", api.ErrType},
		{"def f():com=new c:1:=0 in ^c(skip);", api.ErrType},
		{"import k:(com,com)->com; def f():com=^k(skip);", api.ErrType},
		{"import k:(com,com)->com; def f():com=k(skip,skip);", api.OK},
		{"import k:(com,com)->com; def f():com=^k(skip,skip,skip);", api.ErrType},
		{"def k(a:com,b:com):com=skip; def f():com=^k(skip);", api.ErrType},
		{"def k(a:com,b:com):com=skip; def f():com=k(skip,skip);", api.OK},
		{"def k(a:com,b:com):com=skip; def f():com=^k(skip,skip,skip);", api.ErrType},
		{"def f(k:(com)->com):com=k(skip);", api.OK},
		{"def f(k:(com)->com):com=^k(skip,skip);", api.ErrType},
		{"import k:(com)->int 3; def f():int 3=k(skip);", api.OK},
		{"import k:(com)->int 3; def f():int 4=^k(skip);", api.ErrType},
		{"def k(a:com):int 3=2; def f():int 3=k(skip);", api.OK},
		{"def k(a:com):int 3=2; def f():com=^k(skip);", api.ErrType},
		// Integers.
		{"import k:(int 3)->com; def f():com=k(2);", api.OK},
		{"import k:(int 3)->com; def f():com=k(^3);", api.ErrType},
		{"import k:(int 3)->com; def f():com=k(skip;1+1);", api.OK},
		{"import k:(int 3)->com; def f():com=k(^fn(x)1);", api.ErrType},
		{"import k:(int 3)->com; def f():com=k(^{get 1;put v.skip});", api.ErrType},
		{"import k:(int 3)->com; import c:cell 3; def f():com=k(^c);", api.ErrType},
		{"import k:(com,int 3)->com; def f():com=k(skip,^3);", api.ErrType},
		// Cells.
		{"import k:(cell 3)->com; import c:cell 3; def f():com=k(c);", api.OK},
		{"import k:(cell 3)->com; import c:cell 4; def f():com=k(^c);", api.ErrType},
		{"import k:(cell 3)->com; import c:int 3; def f():com=k(^c);", api.ErrType},
		{"import k:(cell 3)->com; def f(c:cell 3):com=k(c);", api.OK},
		{"import k:(cell 3)->com; def f():com=new c:3:=0 in k(c);", api.OK},
		{"import k:(cell 3)->com; def f():com=new c:2:=0 in k(^c);", api.ErrType},
		{"import k:(cell 3)->com; def f():com=k(^2);", api.ErrType},
		{"import k:(cell 3)->com; import c:cell 3; def f():com=k(^!c);", api.ErrType},
		{"import k:(cell 3)->com; import c:cell 3; def f():com=k(skip^;c);", api.ErrType},
		{"import k:(cell 3)->com; def f():com=k(^fn(x)1);", api.ErrType},
		{"import k:(cell 3)->com; def f():com=k({get 2;put v.skip});", api.OK},
		{"import k:(cell 3)->com; def f():com=k({get ^3;put v.skip});", api.ErrType},
		{"import k:(cell 3)->com; def f():com=k({get 2;put v.^1});", api.ErrType},
		{"import k:(cell 3)->com; def f():com=k({get 2;put v.if v=2 then skip else hang});", api.OK},
		{"import k:(cell 3)->com; def f():com=k({get 2;put v.if v=^3 then skip else hang});", api.ErrType},
		{"import k:(cell 3)->com; def f():com=k({get 2;put v.^v:=1});", api.ErrType},
		// What has params.
		{"def k(g:(bool)->int 3):com=skip; import j:(bool)->int 3; def f():com=k(j);", api.OK},
		{"def k(g:(bool)->int 3):com=skip; import j:(bool)->int 4; def f():com=k(^j);", api.ErrType},
		{"def k(g:(bool)->int 3):com=skip; import j:(com)->int 3; def f():com=k(^j);", api.ErrType},
		{"def k(g:(bool)->int 3):com=skip; import j:(cell 2)->int 3; def f():com=k(^j);", api.ErrType},
		{"def k(g:(bool)->int 3):com=skip; import j:(bool,bool)->int 3; def f():com=k(^j);", api.ErrType},
		{"def k(g:(bool)->int 3):com=skip; import j:int 3; def f():com=k(^j);", api.ErrType},
		{"def k(g:(bool)->int 3):com=skip; def j(x:bool):int 3=2; def f():com=k(j);", api.OK},
		{"def k(g:(bool)->int 3):com=skip; def j(x:(bool)->int 3):int 3=2; def f():com=k(^j);", api.ErrType},
		{"def k(g:(bool)->int 3):com=skip; def f(j:(bool)->int 3):com=k(j);", api.OK},
		{"def k(g:(bool)->int 3):com=skip; def f():com=k(^2);", api.ErrType},
		{"def k(g:(cell 3)->int 3):com=skip; def f():com=k(^{get 2;put v.skip});", api.ErrType},
		{"def k(g:(bool)->int 3):com=skip; def f():com=k(fn(x)2);", api.OK},
		{"def k(g:(bool)->int 3):com=skip; def f():com=k(fn(x)^3);", api.ErrType},
		{"def k(g:(bool)->int 3):com=skip; def f():com=k(fn(x)^x);", api.ErrType},
		{"def k(g:(bool)->bool):com=skip; def f():com=k(fn(x)x);", api.OK},
		{"def k(g:(bool)->bool):com=skip; def f():com=k(^fn(x,y)x);", api.ErrType},
		{"def k(g:(bool,cell 3)->bool):com=skip; def f():com=k(fn(x,y)!y=2);", api.OK},
		{"def k(g:(bool,cell 3)->bool):com=skip; def f():com=k(^fn(x)x);", api.ErrType},
		{"def k(g:(bool,cell 3)->bool):com=skip; def f():com=k(fn(x,y)!x^=2);", api.ErrType},
	})
}

// P3.1, R6: of several terms that do not fit the one with the least number counts, also if the others stand above an argument.
func TestLeastNode(t *testing.T) {
	holdFaults(t, []fault{
		{"def f():com=^1;true;9;", api.ErrType},
		{"import k:(int 3,cell 3)->com; def f():com=k(^3,2);k(2,2);", api.ErrType},
		{"import k:(int 3,cell 3)->com; def f():com=k(2,^2);k(3,2);", api.ErrType},
		{"def f():bool=" + strings.Repeat("not ", 30) + "^2;", api.ErrType},
	})
}
