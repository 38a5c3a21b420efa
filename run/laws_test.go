package run_test

import (
	"slices"
	"testing"

	"riposte/api"
	"riposte/arena"
	"riposte/check"
	"riposte/parse"
	"riposte/play"
	"riposte/run"
)

// P6.6: what a program follows is legal, with its next move, too; where it is the other one's turn with no next move just what can come can be followed.
func TestLegal(t *testing.T) {
	sessions(t, 66, 10, func(d *dice, x api.Session) {
		a, _ := run.Arena(x)
		u, e := run.Next(x)
		if e != api.OK {
			return
		}
		w := slices.Concat(x.Word[:u.At], u.Moves)
		if at, e := play.Check(a, w); e != api.OK {
			t.Fatalf("%s: %s is odd at %d", program(x), text(w), at)
		}
		stand, _ := play.Stand(a, w)
		if want := map[uint8]uint8{api.TurnOther: api.StateAsks, api.TurnProgram: api.StateHangs, api.TurnOver: api.StateOver}[stand.Turn]; u.State != want {
			t.Fatalf("%s: after %s: %v, but %v", program(x), text(x.Word), u, stand)
		}
		if u.State != api.StateAsks {
			return
		}
		can, _ := play.Next(a, w)
		all, _ := arena.Moves(a)
		for _, m := range all {
			x.Word = append(slices.Clone(w), m)
			v, e := run.Next(x)
			if isOdd := v.State == api.StateOdd && v.At == len(w); e == api.OK && isOdd == slices.Contains(can, m) {
				t.Fatalf("%s: %s: %v", program(x), text(x.Word), v)
			}
		}
	})
}

// P6.7: the next move is followed with the same picks and steps, to the same state; what is said after a beginning is what is there; an odd word stays so.
func TestOnAndOn(t *testing.T) {
	sessions(t, 67, 10, func(d *dice, x api.Session) {
		r := resultOf(t, x)
		if r.e != api.OK {
			return
		}
		on := x
		on.Word = slices.Concat(x.Word, r.turn.Moves)
		want := r
		want.turn.At, want.turn.Moves = len(on.Word), nil
		if s := resultOf(t, on); !sameResult(s, want) {
			t.Fatalf("%s: after %s: %v, then %v", program(x), text(x.Word), r, s)
		}
		for n := range x.Word {
			begun := x
			begun.Word = x.Word[:n]
			s := resultOf(t, begun)
			if s.e != api.OK || s.turn.At != n || len(s.turn.Moves) > 0 && s.turn.Moves[0] != x.Word[n] || !slices.Equal(s.from, r.from[:len(s.from)]) {
				t.Fatalf("%s: after %s of %s: %v", program(x), text(begun.Word), text(x.Word), s)
			}
		}
		odd := on
		odd.Word = append(slices.Clone(on.Word), api.Move{Id: d.below(3), Arg: d.below(3), Kind: uint8(d.below(5)), N: d.below(3)})
		s := resultOf(t, odd)
		for range 3 {
			odd.Word = append(slices.Clone(odd.Word), api.Move{Id: d.below(3), Arg: d.below(2), Kind: uint8(d.below(4)), N: d.below(3)})
			if v := resultOf(t, odd); s.turn.State == api.StateOdd && !sameResult(s, v) {
				t.Fatalf("%s: %s: %v, then %v", program(x), text(odd.Word), s, v)
			}
		}
	})
}

// P6.8: picks that are not taken do not matter, nor do 2 and 0, or 3 and 1; without choices none is taken.
func TestPicks(t *testing.T) {
	none, some := 0, 0
	sessions(t, 68, 30, func(d *dice, x api.Session) {
		x.Picks = d.picks(12)
		r := resultOf(t, x)
		if r.e != api.OK {
			return
		}
		y := x
		y.Picks = slices.Clone(x.Picks)
		for i := range y.Picks {
			y.Picks[i] &= 1
			if i >= r.turn.Picks {
				y.Picks[i] = d.below(9)
			}
		}
		short := x
		short.Picks = x.Picks[:min(r.turn.Picks, 12)]
		if s, v := resultOf(t, y), resultOf(t, short); !sameResult(r, s) || !sameResult(r, v) {
			t.Fatalf("%s: with %v: %v; %v; %v", program(x), x.Picks, r, s, v)
		}
		export, _ := parse.Find(x.T, "m")
		if effects, _ := check.Effects(x.T, export); effects&api.EffChoices == 0 {
			none++
			if r.turn.Picks > 0 {
				t.Fatalf("%s: %v", program(x), r)
			}
		} else if r.turn.Picks > 0 {
			some++
		}
	})
	if none < 50 || some < 50 {
		t.Errorf("%d, %d", none, some)
	}
}

// P6.9: a program in which a declaration has another name says the same.
func TestNamesDoNotMatter(t *testing.T) {
	sessions(t, 69, 25, func(d *dice, x api.Session) {
		r := resultOf(t, x)
		for range 2 {
			n := d.below(len(x.T.Nodes))
			u, e := check.Rename(x.T, n, "other")
			if e != api.OK {
				continue
			}
			y := x
			y.T = u
			if x.T.Nodes[n].Kind == api.ExportItem && x.T.Nodes[n].Text == "m" {
				y.Export = "other"
			}
			if s := resultOf(t, y); !sameResult(r, s) {
				t.Fatalf("%s: %v, but %s: %v", program(x), r, program(y), s)
			}
		}
	})
}

// putIn returns a program in which a name of a definition without params has become its term, with names that are not there yet.
func putIn(u api.Tree, n int) (api.Tree, api.Errno) {
	if u.Nodes[n].Kind != api.NameNode {
		return api.Tree{}, api.ErrNone
	}
	d, e := check.Means(u, n)
	if e != api.OK || u.Nodes[d].Kind != api.DefItem || u.Nodes[d+1].Kind == api.ParamNode {
		return api.Tree{}, api.ErrNone
	}
	l, _ := parse.Sub(u, d+2)
	names := map[string]string{}
	for i, x := range l {
		if x.Kind == api.NewNode || x.Kind == api.LabelNode || x.Kind == api.BindNode {
			names[x.Text] = "z" + itoa(n) + "x" + itoa(i)
		}
	}
	for i := range l {
		if s, ok := names[l[i].Text]; ok {
			l[i].Text = s
		}
	}
	return parse.Graft(u, n, l)
}

// P6.10: a name of a definition that has become its term says the same, but for steps.
func TestDefinitions(t *testing.T) {
	put := 0
	sessions(t, 70, 30, func(d *dice, x api.Session) {
		u, e := run.Next(x)
		for n := range x.T.Nodes {
			y := x
			var f api.Errno
			if y.T, f = putIn(x.T, n); f != api.OK {
				continue
			}
			if _, f := check.Program(y.T); f != api.OK || e != api.OK {
				continue
			}
			put++
			v, f := run.Next(y)
			v.Steps = u.Steps
			if f == api.OK && !sameTurn(u, v) {
				t.Fatalf("%s: %v, but %s: %v", program(x), u, program(y), v)
			}
		}
	})
	if put < 60 {
		t.Errorf("%d definitions", put)
	}
}

// P6.10: calls of definitions with params that are put in by hand say the same.
func TestCallsPutIn(t *testing.T) {
	for _, x := range []struct{ defs, call, term string }{
		{"import i:int 3; def d(x:int 3,y:int 3):int 3=x+y+x;", "d(i,i+1)", "i+(i+1)+i"},
		{"import c:cell 3; def d(x:cell 3,y:int 3):int 3=(x:=y;!x+y);", "d(c,!c+1)", "(c:=!c+1;!c+(!c+1))"},
		{"import f:(int 3,cell 2)->int 3; def d(x:(int 3,cell 2)->int 3):int 3=new a:2:=1 in x(x(1,a),a);", "d(f)", "new b:2:=1 in f(f(1,b),b)"},
		{"import i:int 3; import c:cell 2; def d(x:(int 3,cell 2)->int 3):int 3=new a:2:=1 in x(x(2,a),c);", "d(fn(n,e)(e:=i=n;n))", "new b:2:=1 in(c:=i=(b:=i=2;2);(b:=i=2;2))"},
		{"import i:int 3; def d(x:cell 3):int 3=(x:=2;!x+!x);", "new a:3:=0 in d({get i+!a;put v.a:=v*v})", "new a:3:=0 in(a:=2*2;(i+!a)+(i+!a))"},
		{"import f:(com)->int 3; def d(x:com):int 3=label l in f((x;jump l))else 1;", "label k in d(f(jump k)as 1)else 2", "label k in label l in f((f(jump k)as 1;jump l))else 1 else 2"},
	} {
		d := dice(710)
		u, v := parsed(t, x.defs+"export m():int 3="+x.call+";"), parsed(t, x.defs+"export m():int 3="+x.term+";")
		for range 60 {
			walk(t, &d, api.Session{T: u, Export: "m", Jumps: d.below(2) == 0}, func(y api.Session) {
				a, e := run.Next(y)
				y.T = v
				b, f := run.Next(y)
				b.Steps = a.Steps
				if !sameTurn(a, b) || e != api.OK || f != api.OK {
					t.Fatalf("%s and %s: after %s: %v, %v; %v, %v", x.call, x.term, text(y.Word), a, e, b, f)
				}
			})
		}
	}
}

// P6.11: whether there are jumps does not matter without an Esc of the other one that is not forced; after one a program says nothing but Esc.
func TestJumpsDoNotMatter(t *testing.T) {
	lost := 0
	sessions(t, 71, 50, func(d *dice, x api.Session) {
		x.Jumps = true
		a, _ := run.Arena(x)
		stand, e := play.Stand(a, x.Word)
		r := resultOf(t, x)
		if e != api.OK || r.e != api.OK {
			return
		}
		if !stand.Lost {
			x.Jumps = false
			if s := resultOf(t, x); !sameResult(r, s) {
				t.Fatalf("%s: after %s: %v, without jumps %v", program(x), text(x.Word), r, s)
			}
			return
		}
		lost++
		if stand.Turn == api.TurnProgram && (len(r.turn.Moves) != 1 || r.turn.Moves[0].Kind != api.MoveTell || r.turn.Moves[0].N != api.Esc) {
			t.Fatalf("%s: after %s: %v", program(x), text(x.Word), r)
		}
	})
	if lost < 20 {
		t.Errorf("%d words are lost", lost)
	}
}

// P6.12: what is in cells is below their size; there are none when it is over.
func TestCells(t *testing.T) {
	seen := 0
	sessions(t, 72, 50, func(d *dice, x api.Session) {
		r := resultOf(t, x)
		for _, c := range r.store {
			seen++
			if y := x.T.Nodes[c.Node]; y.Kind != api.NewNode || c.N < 0 || c.N >= y.N {
				t.Fatalf("%s: after %s: %v", program(x), text(x.Word), r)
			}
		}
		if r.turn.State == api.StateOver && len(r.store) > 0 {
			t.Fatalf("%s: after %s: %v", program(x), text(x.Word), r)
		}
	})
	if seen < 60 {
		t.Errorf("%d cells", seen)
	}
}
