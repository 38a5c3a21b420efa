package run_test

import (
	"slices"
	"strconv"
	"strings"
	"testing"

	"riposte/api"
	"riposte/arena"
	"riposte/parse"
	"riposte/run"
)

// Programs that are used in several tests; what they export is m.
const (
	// plus asks for an integer.
	plus = "import i:int 3; export m():int 3=i+1;"
	// leaps jumps out of an argument.
	leaps = "import f:(com)->com; export m():com=label l in f(jump l)else skip;"
	// cells hands a cell over.
	cells = "import f:(cell 2)->com; export m():bool=new c:2:=0 in(f(c);!c);"
	// picky has choices, one of which hangs.
	picky = "export m():int 4=(choose 0 else 1)+(choose 0 else(choose 2 else(hang;0)));"
	// endless never comes to an end.
	endless = "export m():com=while true do skip;"
	// everything has all that a program can have.
	everything = "import i:int 3; import f:(int 2,cell 3)->int 2; def g(k:(int 3)->com,c:cell 3,x:int 2):com=if x then k(!c)else c:=i; " +
		"export m(p:(cell 3)->com,q:cell 3):int 4=new a:3:=1 in label l in(notice a:=2 in(g(fn(n)if n=1 then jump l else a:=n,q,f(true,a)=1);p({get !a;put v.a:=v}));3)else(choose !a as 4 else(while !a do a:=!a-1;2));"
)

// parsed returns the tree of a text that must have one.
func parsed(t *testing.T, s string) api.Tree {
	t.Helper()
	x, at, e := parse.Parse(s)
	if e != api.OK {
		t.Fatalf("Parse of %q: %d, %v", s, at, e)
	}
	return x
}

// word returns the word with a text.
func word(t *testing.T, s string) api.Word {
	t.Helper()
	var w api.Word
	for _, x := range strings.Fields(s) {
		m, e := arena.Parse(x)
		if e != api.OK {
			t.Fatalf("%q is no move", x)
		}
		w = append(w, m)
	}
	return w
}

// text returns the text of moves.
func text(w []api.Move) string {
	var l []string
	for _, m := range w {
		s, e := arena.Text(m)
		if e != api.OK {
			s = "none"
		}
		l = append(l, s)
	}
	return strings.Join(l, " ")
}

// said returns the session of the export m of a program with a word, that begins with ^ if the other one may jump, and with picks.
func said(t *testing.T, s, w string, picks ...int) api.Session {
	t.Helper()
	w, jumps := strings.CutPrefix(w, "^")
	return api.Session{T: parsed(t, s), Export: "m", Jumps: jumps, Word: word(t, w), Picks: picks}
}

// stands is where a conversation must stand.
type stands struct {
	state uint8
	next  string // the next move
	steps int
}

// isAt tells whether a turn is where a conversation must stand, after so many moves.
func (x stands) isAt(u api.Turn, at int) bool {
	return u.State == x.state && text(u.Moves) == x.next && u.Steps == x.steps && u.At == at
}

func asks(next string, steps int) stands { return stands{api.StateAsks, next, steps} }

func over(next string, steps int) stands { return stands{api.StateOver, next, steps} }

func hangs(steps int) stands { return stands{api.StateHangs, "", steps} }

func odd(steps int) stands { return stands{api.StateOdd, "", steps} }

// says looks at where a session that is not odd stands.
func says(t *testing.T, x api.Session, want stands) {
	t.Helper()
	if u, e := run.Next(x); e != api.OK || !want.isAt(u, len(x.Word)) {
		t.Errorf("%s: after %s, with %v: %s, %d, %v, %v; not %v", program(x), text(x.Word), x.Picks, text(u.Moves), u.State, u, e, want)
	}
}

// program returns the text of the program of a session.
func program(x api.Session) string {
	s, e := parse.Print(x.T)
	if e != api.OK {
		return "no program: " + itoa(int(e))
	}
	return strings.ReplaceAll(s, "\n", " ")
}

// find returns the nodes of a kind with a text, ascending.
func find(x api.Tree, kind uint8, text string) []int {
	var l []int
	for n, y := range x.Nodes {
		if y.Kind == kind && y.Text == text {
			l = append(l, n)
		}
	}
	return l
}

// sameTurn tells whether two turns are the same.
func sameTurn(a, b api.Turn) bool {
	return a.State == b.State && slices.Equal(a.Moves, b.Moves) && a.At == b.At && a.Steps == b.Steps && a.Picks == b.Picks
}

// isNoTurn tells whether a turn is the zero value.
func isNoTurn(u api.Turn) bool { return sameTurn(u, api.Turn{}) }

// sameArena tells whether two arenas are the same.
func sameArena(a, b api.Arena) bool {
	return slices.EqualFunc(a.Ids, b.Ids, func(x, y api.Type) bool {
		return slices.Equal(x.Params, y.Params) && x.Result == y.Result
	}) && a.Root == b.Root && a.Jumps == b.Jumps
}

func itoa(n int) string { return strconv.Itoa(n) }

// dice are numbers that look random and are the same in each run.
type dice uint64

func (d *dice) below(n int) int {
	*d = *d*6364136223846793005 + 1442695040888963407
	return int(uint64(*d)>>33) % n
}

// pick returns one of some values.
func pick[T any](d *dice, l ...T) T { return l[d.below(len(l))] }

// picks returns many picks; not all are 0 or 1.
func (d *dice) picks(many int) []int {
	var l []int
	for range many {
		l = append(l, pick(d, 0, 1, 0, 1, 0, 1, -1, 2, -1<<63, 1<<63-1))
	}
	return l
}
