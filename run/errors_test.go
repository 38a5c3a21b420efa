package run_test

import (
	"slices"
	"strings"
	"testing"

	"riposte/api"
	"riposte/check"
	"riposte/run"
)

// answers are what all functions return for a session.
type answers struct {
	arena  api.Arena
	turn   api.Turn
	word   api.Word
	talked api.Turn
	moves  []api.Move
	hangs  bool
	from   []int
	store  []api.CellSeen
	errors []api.Errno // of Arena, Next, Talk, Can, From, Store
}

// call calls all functions.
func call(x api.Session, by []int, many int) answers {
	r := answers{errors: make([]api.Errno, 6)}
	r.arena, r.errors[0] = run.Arena(x)
	r.turn, r.errors[1] = run.Next(x)
	r.word, r.talked, r.errors[2] = run.Talk(x, by)
	r.moves, r.hangs, r.errors[3] = run.Can(x, many)
	r.from, r.errors[4] = run.From(x)
	r.store, r.errors[5] = run.Store(x)
	return r
}

// same tells whether two calls returned the same.
func (r answers) same(s answers) bool {
	return sameArena(r.arena, s.arena) && sameTurn(r.turn, s.turn) && slices.Equal(r.word, s.word) && sameTurn(r.talked, s.talked) && slices.Equal(r.moves, s.moves) &&
		r.hangs == s.hangs && slices.Equal(r.from, s.from) && slices.Equal(r.store, s.store) && slices.Equal(r.errors, s.errors)
}

// failed is what is returned by all functions that have an error, which is the same.
func failed(e api.Errno) answers { return answers{errors: slices.Repeat([]api.Errno{e}, 6)} }

// isFailed tells whether all functions have a certain error, and all other results are zero values.
func (r answers) isFailed(e api.Errno) bool { return r.same(failed(e)) }

// wrongTrees returns trees that are not right, with their errors.
func wrongTrees(t *testing.T) map[string]api.Tree {
	t.Helper()
	right := parsed(t, plus)
	with := func(n int, change func(x *api.TreeNode)) api.Tree {
		l := slices.Clone(right.Nodes)
		change(&l[n])
		return api.Tree{Nodes: l}
	}
	return map[string]api.Tree{
		"no nodes":         {},
		"no program":       {Nodes: right.Nodes[1:]},
		"no such kind":     with(3, func(x *api.TreeNode) { x.Kind = 99 }),
		"a kind of none":   with(3, func(x *api.TreeNode) { x.Kind = 0 }),
		"a size too great": with(0, func(x *api.TreeNode) { x.Size = 1 << 62 }),
		"a size below 0":   with(5, func(x *api.TreeNode) { x.Size = -1 << 63 }),
		"no size":          with(1, func(x *api.TreeNode) { x.Size = 0 }),
		"a number below 0": with(2, func(x *api.TreeNode) { x.N = -1 }),
		"no name":          with(1, func(x *api.TreeNode) { x.Text = "" }),
		"a keyword":        with(1, func(x *api.TreeNode) { x.Text = "in" }),
	}
}

// nots returns a program whose export m is true, with so many nots around it.
func nots(many int) api.Tree {
	l := []api.TreeNode{{Kind: api.ProgramNode, Size: many + 4}, {Kind: api.ExportItem, Text: "m", Size: many + 3}, {Kind: api.IntType, N: 2, Size: 1}}
	for n := range many {
		l = append(l, api.TreeNode{Kind: api.NotNode, Size: many + 1 - n})
	}
	return api.Tree{Nodes: append(l, api.TreeNode{Kind: api.TrueNode, Size: 1})}
}

// defs returns a program with so many definitions in front of the export m.
func defs(many int) api.Tree {
	var l []api.TreeNode
	for n := range many {
		l = append(l, api.TreeNode{Kind: api.DefItem, Text: "d" + itoa(n), Size: 3}, api.TreeNode{Kind: api.IntType, N: 1, Size: 1}, api.TreeNode{Kind: api.SkipNode, Size: 1})
	}
	l = append(l, api.TreeNode{Kind: api.ExportItem, Text: "m", Size: 3}, api.TreeNode{Kind: api.IntType, N: 1, Size: 1}, api.TreeNode{Kind: api.SkipNode, Size: 1})
	return api.Tree{Nodes: append([]api.TreeNode{{Kind: api.ProgramNode, Size: len(l) + 1}}, l...)}
}

// P1, R1, R2, R8: the errors of check.Arena come first, then those of a word or picks that are too long, in all functions.
func TestErrorsOfSessions(t *testing.T) {
	longWord, longPicks := make(api.Word, api.MaxWord+1), make([]int, api.MaxPicks+1)
	look := func(what string, u api.Tree, export string, want api.Errno) {
		t.Helper()
		for _, jumps := range []bool{false, true} {
			for _, w := range []api.Word{nil, word(t, "0?"), {{Id: -1}}, longWord} {
				for _, picks := range [][]int{nil, {1}, longPicks} {
					if r := call(api.Session{T: u, Export: export, Jumps: jumps, Word: w, Picks: picks}, []int{-1}, -1); !r.isFailed(want) {
						t.Errorf("%s: %v; not %v", what, r, want)
					}
				}
			}
		}
	}
	for what, u := range wrongTrees(t) {
		look(what, u, "m", api.ErrForm)
	}
	look("too many nodes", api.Tree{Nodes: make([]api.TreeNode, api.MaxNodes+1)}, "m", api.ErrLimit)
	look("too deep", nots(59), "m", api.ErrLimit)
	look("too many items", defs(24), "m", api.ErrLimit)
	for _, x := range []struct {
		s, export string
		want      api.Errno
	}{
		{"export m():com=1;", "m", api.ErrType}, {"export m():com=x;", "m", api.ErrName}, {"export m():int 65=0;", "m", api.ErrRange}, {"import a:com; import a:com; export m():com=skip;", "m", api.ErrTwice}, {"export m():com=skip; export n():com=1;", "m", api.ErrType},
		{plus, "n", api.ErrNone}, {plus, "i", api.ErrNone}, {plus, "", api.ErrNone}, {plus, "M", api.ErrNone}, {"", "m", api.ErrNone}, {"def m():com=skip;", "m", api.ErrNone}, {"export m():com=1;", "n", api.ErrType},
		{"import a:com;import b:com;import c:com;import d:com;import e:com;import f:com;import g:com;import h:com; export m(i:com):com=skip;", "m", api.ErrLimit}, {"export m(k:(com,com,com,com,com,com)->com):com=skip;", "m", api.ErrLimit},
	} {
		look(x.s, parsed(t, x.s), x.export, x.want)
	}
	for _, x := range []api.Session{{Word: longWord}, {Picks: longPicks}, {Word: longWord, Picks: longPicks}} {
		for _, s := range []string{plus, endless} {
			x.T, x.Export = parsed(t, s), "m"
			if r := call(x, []int{-1}, -1); !r.isFailed(api.ErrLimit) {
				t.Errorf("%d moves, %d picks: %v", len(x.Word), len(x.Picks), r)
			}
		}
	}
}

// P6.1: the arena of a session is that of check; nothing is executed for it.
func TestArena(t *testing.T) {
	for _, s := range []string{plus, leaps, cells, picky, everything, endless, "export m():com=hang;", "import a:(int 2)->cell 3; export m(k:(cell 2,int 5)->com,c:cell 64):int 7=0;"} {
		for _, w := range []string{"", "0?", "1?", "0? 1? 1!*", "^", "^0? 0? 0? 0?"} {
			x := said(t, s, w, 5, -5)
			want, _, e := check.Arena(x.T, "m", x.Jumps)
			if a, f := run.Arena(x); !sameArena(a, want) || a.Jumps != (w != "" && w[0] == '^') || e != api.OK || f != api.OK {
				t.Errorf("%s, %s: %v, %v", s, w, a, f)
			}
		}
	}
	full := api.Session{T: parsed(t, plus), Export: "m", Word: make(api.Word, api.MaxWord), Picks: make([]int, api.MaxPicks)}
	if a, e := run.Arena(full); len(a.Ids) != 1 || e != api.OK {
		t.Errorf("%v, %v", a, e)
	}
	if r := resultOf(t, full); r.turn.State != api.StateOdd || r.turn.At != 0 {
		t.Errorf("%v", r)
	}
}

// P6.1, R7: there are MaxSteps steps, and an execution that would take one more has an error, in all functions that execute.
func TestMaxSteps(t *testing.T) {
	// 2 for the cells, 1 for the sequence, 1 for the loop, 3 for each look at a, 11 and 7 times 60 for each of 46 rounds: 19971.
	const rounds = "export m():com=new a:64:=0 in new b:64:=0 in(while!a<46 do(a:=!a+1;b:=0;while!b<60 do b:=!b+1)"
	for skips := 1; skips < 40; skips++ {
		x := said(t, rounds+strings.Repeat(";skip", skips)+");", "0?")
		if 19971+skips <= 20000 {
			says(t, x, over("0!0", 19971+skips))
			continue
		}
		lacks(t, x)
	}
}

// lacks looks for ErrLimit in all functions that execute.
func lacks(t *testing.T, x api.Session) {
	t.Helper()
	want := failed(api.ErrLimit)
	want.errors[0] = api.OK
	r := call(x, []int{0}, 0)
	r.arena = api.Arena{}
	if !r.same(want) {
		t.Errorf("%s, after %s: %v", program(x), text(x.Word), r)
	}
}

// P6.1, R1: an execution is cut where its steps are more than there may be, wherever this is; what is odd before that is odd.
func TestTooManySteps(t *testing.T) {
	const asked = "import f:(com)->com; export m():com=f(while true do skip);"
	for _, x := range []struct{ s, word string }{
		{endless, "0?"}, {endless, "0? 0!0"}, {endless, "0? 0? 0?"}, {asked, "0? 1? 1.1?"}, {asked, "0? 1? 1.1? 1.1!0"},
		{"export m():com=new c:2:=0 in label l in notice c:=1 in while true do skip else skip;", "0?"}, {"export m():com=label l in while true do label k in jump k else skip else skip;", "0?"},
		{"export m():com=while true do choose skip else skip;", "0?"}, {"def d(x:com):com=while true do x; export m():com=d(new c:2:=0 in c:=1);", "0?"}, {"import i:com; export m():com=i;while true do skip;", "^0? 1? 1!0"},
	} {
		lacks(t, said(t, x.s, x.word))
	}
	for _, x := range []struct {
		s, word string
		want    stands
	}{{endless, "", asks("", 0)}, {asked, "0?", asks("1?", 1)}, {asked, "0? 1? 1!0", over("0!0", 1)}, {"import i:com; export m():com=i;while true do skip;", "^0? 1? 1!*", over("0!*", 2)}} {
		says(t, said(t, x.s, x.word), x.want)
	}
	for _, w := range []string{"1?", "0? 0!0", "0? 1? 1.2?", "0? 1? 1.1=0 1.1!0"} {
		if r := resultOf(t, said(t, asked, w)); r.turn.State != api.StateOdd {
			t.Errorf("%s: %v", w, r)
		}
	}
}

// P1, P6.1: evaluations stand one inside of the other as deep as there are steps. A definition that calls the one before it of itself takes twice as many steps as this, and 2.
func TestDeep(t *testing.T) {
	s := "def d0(x:com):com=x;"
	for k := range 13 {
		d, before := "d"+itoa(k+1), "d"+itoa(k)
		s += "def " + d + "(x:com):com=" + before + "(" + before + "(x));"
	}
	for k := range 14 {
		x := said(t, s+"export m():com=d"+itoa(k)+"(skip);", "0?")
		if steps := 1<<(k+2) - 1; steps <= api.MaxSteps {
			says(t, x, over("0!0", steps))
		} else {
			lacks(t, x)
		}
	}
	says(t, said(t, s+"export m():com=label l in d12(jump l)else skip;", "0?"), over("0!0", 16385))
	says(t, said(t, s+"import i:com; export m():com=new c:2:=0 in d12(i);", "0?"), asks("1?", 16384))
}

// R7: trees that reach their limits are executed.
func TestGreatTrees(t *testing.T) {
	says(t, api.Session{T: nots(58), Export: "m", Word: word(t, "0?")}, over("0!1", 59))
	says(t, api.Session{T: defs(23), Export: "m", Word: word(t, "0?")}, over("0!0", 1))
}
