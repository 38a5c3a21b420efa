package run_test

import (
	"strings"
	"testing"

	"riposte/api"
)

// P6.1: what nodes are evaluated to, and in how many steps, as the table of the chapter says.
func TestValues(t *testing.T) {
	for _, x := range []struct {
		term  string
		size  int
		next  string
		steps int
	}{
		{"4", 5, "0!4", 1}, {"0", 1, "0!0", 1}, {"63", 64, "0!63", 1}, {"true", 2, "0!1", 1}, {"false", 2, "0!0", 1}, {"skip", 1, "0!0", 1},
		// A number has no size under an as, and takes no step.
		{"8 as 5", 5, "0!3", 1}, {"8 as 5 as 3", 3, "0!0", 2}, {"1000000 as 7", 7, "0!1", 1}, {"(3+3 as 4) as 2", 2, "0!0", 4}, {"true as 5", 5, "0!1", 2}, {"(2+2 as 3)as 2", 2, "0!1", 4},
		{"3+3", 4, "0!2", 3}, {"0+0", 1, "0!0", 3}, {"63+63", 64, "0!62", 3}, {"1-3", 4, "0!2", 3}, {"3-1", 4, "0!2", 3}, {"0-63", 64, "0!1", 3}, {"3*3", 4, "0!1", 3}, {"63*63", 64, "0!1", 3}, {"2-1-3", 5, "0!3", 5}, {"1+1", 2, "0!0", 3},
		{"(1 as 3)=1", 2, "0!1", 3}, {"(1 as 3)=2", 2, "0!0", 3}, {"1<(2 as 3)", 2, "0!1", 3}, {"(2 as 3)<2", 2, "0!0", 3}, {"(2 as 3)<1", 2, "0!0", 3}, {"true=false", 2, "0!0", 3}, {"skip=skip", 2, "0!1", 3},
		{"true or true", 2, "0!1", 2}, {"false or true", 2, "0!1", 3}, {"false or false", 2, "0!0", 3}, {"true or(hang;true)", 2, "0!1", 2},
		{"true and true", 2, "0!1", 3}, {"true and false", 2, "0!0", 3}, {"false and true", 2, "0!0", 2}, {"false and(hang;true)", 2, "0!0", 2},
		{"not true", 2, "0!0", 2}, {"not 0", 2, "0!1", 2}, {"not not 1", 2, "0!1", 3},
		{"skip;skip;2", 3, "0!2", 4}, {"(skip;skip);2", 3, "0!2", 5},
		{"if true then 1 else 2", 3, "0!1", 3}, {"if false then 1 else 2", 3, "0!2", 3}, {"if 2 as 3 then 1 else(hang;2)", 3, "0!1", 3}, {"if skip then 1 else 2", 3, "0!2", 3},
		{"while false do hang", 1, "0!0", 2}, {"new c:3:=2 in while!c do c:=!c-1", 1, "0!0", 13}, {"new c:4:=3 in(while 0<!c do c:=!c-1;!c)", 4, "0!0", 28},
		{"new c:3:=2 in!c", 3, "0!2", 2}, {"new c:3:=2 in(c:=1;!c)", 3, "0!1", 5}, {"new c:3:=2 in new b:3:=1 in(c:=!b;b:=0;!c+!b)", 3, "0!1", 10}, {"new c:3:=2 in c:=1", 1, "0!0", 3},
		{"new c:3:=0 in(while!c<2 do new b:3:=0 in(b:=!b+1;c:=!c+!b);!c)", 3, "0!2", 33},
		{"label l in 1 else 2", 3, "0!1", 2}, {"label l in(jump l;1)else 2", 3, "0!2", 4}, {"label l in label k in(jump l;0)else 1 else 2", 3, "0!2", 5}, {"label l in label k in(jump k;0)else 1 else 2", 3, "0!1", 5}, {"label l in(label k in(jump l;0)else 1)+(hang;0)else 2", 3, "0!2", 6},
		{"label l in(label k in jump k else jump l;0)else 2", 3, "0!2", 6}, {"1+(label l in(jump l;0)else 1)", 3, "0!2", 6}, {"label l in(if jump l=skip then 0 else 1)else 2", 3, "0!2", 5},
		{"label l in new c:2:=0 in label k in while true do(if!c then jump k else c:=1)else jump l else skip", 1, "0!0", 15},
		{"new c:3:=0 in(label l in notice c:=2 in jump l else skip;!c)", 3, "0!2", 7}, {"new c:3:=0 in(label l in notice c:=2 in skip else skip;!c)", 3, "0!0", 6}, {"new c:3:=0 in(notice c:=2 in label l in jump l else skip;!c)", 3, "0!0", 7},
		{"new c:3:=0 in(label l in notice c:=2 in notice c:=1 in jump l else skip;!c)", 3, "0!2", 8}, {"new c:3:=0 in label l in notice c:=1 in(c:=2;jump l;0)else!c", 3, "0!1", 8},
		{"choose 1 else 2", 3, "0!1", 2},
	} {
		base := "export m():int " + itoa(x.size) + "="
		says(t, said(t, base+x.term+";", "0?"), over(x.next, x.steps))
		// The same, as what a definition, a function and an argument are.
		says(t, said(t, "def d():int "+itoa(x.size)+"="+x.term+";"+base+"d;", "0?"), over(x.next, x.steps+1))
		says(t, said(t, "def d(x:int "+itoa(x.size)+"):int "+itoa(x.size)+"=x;"+base+"d("+x.term+");", "0?"), over(x.next, x.steps+2))
		says(t, said(t, "def d(k:(com)->int "+itoa(x.size)+"):int "+itoa(x.size)+"=k(skip);"+base+"d(fn(y)"+brackets(x.term)+");", "0?"), over(x.next, x.steps+2))
		says(t, said(t, "def d(c:cell "+itoa(x.size)+"):int "+itoa(x.size)+"=!c;"+base+"d({get "+brackets(x.term)+";put v.hang});", "0?"), over(x.next, x.steps+2))
	}
}

// brackets puts brackets around a term that is a sequence.
func brackets(s string) string {
	if strings.Contains(s, ";") {
		return "(" + s + ")"
	}
	return s
}

// P6.1: choices take picks one after the other, 0 where there are no more; they are told by whether they are even.
func TestChoices(t *testing.T) {
	const two = "export m():int 4=(choose 0 else 1)+(choose 0 else 2);"
	const inner = "export m():int 4=choose(choose 0 else 1)else(choose 2 else 3);"
	for _, x := range []struct {
		s     string
		picks []int
		next  string
		steps int
		taken int
	}{
		{two, nil, "0!0", 5, 2}, {two, []int{1}, "0!1", 5, 2}, {two, []int{0, 1}, "0!2", 5, 2}, {two, []int{1, 1}, "0!3", 5, 2}, {two, []int{1, 0, 1}, "0!1", 5, 2},
		{two, []int{2, -2}, "0!0", 5, 2}, {two, []int{-1, 3}, "0!3", 5, 2}, {two, []int{-1 << 63, 1<<63 - 1}, "0!2", 5, 2},
		{inner, nil, "0!0", 3, 2}, {inner, []int{0, 1}, "0!1", 3, 2}, {inner, []int{1}, "0!2", 3, 2}, {inner, []int{1, 1}, "0!3", 3, 2},
		{"export m():int 4=if choose true else false then 1 else 2;", []int{1}, "0!2", 4, 1}, {"export m():int 4=3;", []int{1}, "0!3", 1, 0},
		{"export m():bool=true or(choose true else true);", []int{1}, "0!1", 2, 0},
	} {
		y := said(t, x.s, "0?", x.picks...)
		says(t, y, over(x.next, x.steps))
		if r := resultOf(t, y); r.turn.Picks != x.taken {
			t.Errorf("%s with %v: %v", x.s, x.picks, r.turn)
		}
	}
}

// P6.1: a program that hangs goes no further, wherever it is.
func TestHanging(t *testing.T) {
	for _, x := range []struct {
		s, word string
		steps   int
	}{
		{"export m():com=hang;", "0?", 1}, {"export m():com=label l in(hang;jump l)else skip;", "0?", 3}, {"export m():com=new c:2:=0 in notice c:=1 in hang;", "0?", 3},
		{"import i:bool; export m():com=while i do hang;", "0? 1? 1!1", 3}, {"import f:(com)->com; export m():com=f(hang);", "0? 1? 1.1?", 2},
		{"def d(x:com):com=x;skip; export m():com=d(hang);", "0?", 4}, {"import f:(cell 2)->com; export m():com=f({get(hang;0);put v.if v then skip else hang});", "0? 1? 1.1=0", 4},
		{"import f:(cell 2)->com; export m():com=f({get(hang;0);put v.if v then skip else hang});", "0? 1? 1.1=1 1.1!0 1.1?", 6},
	} {
		says(t, said(t, x.s, x.word), hangs(x.steps))
		for _, more := range []string{"0!0", "1!0", "0?", "0!*", "1.1!0"} {
			y := said(t, x.s, x.word+" "+more)
			if r := resultOf(t, y); r.turn.State != api.StateOdd || r.turn.At != len(y.Word)-1 || r.turn.Steps != x.steps || len(r.turn.Moves) > 0 {
				t.Errorf("%s, %s %s: %v", x.s, x.word, more, r.turn)
			}
		}
	}
}
