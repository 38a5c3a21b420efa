package run_test

import (
	"slices"
	"testing"

	"riposte/api"
	"riposte/parse"
)

// talked returns sessions of all sorts.
func talked(t *testing.T) []api.Session {
	t.Helper()
	return []api.Session{
		said(t, plus, ""), said(t, plus, "0?"), said(t, plus, "0? 1? 1!2"), said(t, plus, "0? 1? 1!2 0!0"), said(t, plus, "0? 1? 1!7 0!0"), said(t, plus, "^0? 1? 1!*"),
		said(t, leaps, "0? 1? 1.1?"), said(t, leaps, "0? 1? 1.1? 1.1!* 1!*"), said(t, cells, "0? 1? 1.1=1"), said(t, picky, "0?", 1, 1), said(t, picky, "0?", 1, 1, 1), said(t, endless, "0?"),
		said(t, everything, "0?"), said(t, everything, "0? 4? 4!1", 1, 0), said(t, everything, "^0? 4? 4!2", 1, 0), said(t, "export m():com=1;", "0?"),
	}
}

// roomy returns a list with the same elements, and spare room with something in it.
func roomy[T any](l []T, x T) []T {
	more := slices.Concat(l, []T{x, x, x, x, x})
	return more[:len(l)]
}

// spoil writes into a list and into its spare room.
func spoil[T any](l []T, x T) {
	l = l[:cap(l)]
	for i := range l {
		l[i] = x
	}
}

// spoil writes into all lists that were returned.
func (r answers) spoil() {
	m := api.Move{Id: 99, Arg: 99, Kind: 99, N: 99}
	for i := range r.arena.Ids {
		spoil(r.arena.Ids[i].Params, api.Base{N: -99})
	}
	spoil(r.arena.Ids, api.Type{Result: api.Base{N: -98}})
	spoil(r.turn.Moves, m)
	spoil(r.word, m)
	spoil(r.talked.Moves, m)
	spoil(r.moves, m)
	spoil(r.from, -99)
	spoil(r.store, api.CellSeen{Node: -99})
}

// P2, R2, R4: results are equal for equal arguments, which stay as they are, with what lies behind their ends; what is written into results changes nothing.
func TestNothingIsShared(t *testing.T) {
	spare := api.Move{Kind: 77}
	for i, x := range talked(t) {
		want := call(x, []int{2, 5, 0}, 3)
		y := x
		y.T.Nodes = roomy(x.T.Nodes, api.TreeNode{Kind: 77, Text: "spare"})
		y.Word = roomy(x.Word, spare)
		y.Picks = roomy(x.Picks, 77)
		by := roomy([]int{2, 5, 0}, 77)
		nodes, w, picks, numbers := slices.Clone(y.T.Nodes[:cap(y.T.Nodes)]), slices.Clone(y.Word[:cap(y.Word)]), slices.Clone(y.Picks[:cap(y.Picks)]), slices.Clone(by[:cap(by)])
		for range 3 {
			got := call(y, by, 3)
			if !got.same(want) {
				t.Fatalf("%d: %v, not %v", i, got, want)
			}
			got.spoil()
			if !slices.Equal(nodes, y.T.Nodes[:cap(y.T.Nodes)]) || !slices.Equal(w, y.Word[:cap(y.Word)]) || !slices.Equal(picks, y.Picks[:cap(y.Picks)]) || !slices.Equal(numbers, by[:cap(by)]) {
				t.Fatalf("%d: an argument was changed", i)
			}
		}
	}
}

// R4: the lists of one result share no memory.
func TestResultsAreApart(t *testing.T) {
	for i, x := range talked(t) {
		r := call(x, []int{2, 5, 0}, 3)
		want := call(x, []int{2, 5, 0}, 3)
		spoil(r.word, api.Move{Kind: 99})
		if !sameTurn(r.talked, want.talked) {
			t.Errorf("%d: %v", i, r.talked)
		}
		s := call(x, []int{2, 5, 0}, 3)
		spoil(s.talked.Moves, api.Move{Kind: 99})
		if !slices.Equal(s.word, want.word) {
			t.Errorf("%d: %v", i, s.word)
		}
	}
}

// R3: a nil list and an empty one are the same.
func TestNilAndEmpty(t *testing.T) {
	for i, x := range talked(t) {
		x.Word, x.Picks = nil, nil
		want := call(x, nil, 2)
		x.Word, x.Picks = api.Word{}, []int{}
		if got := call(x, []int{}, 2); !got.same(want) {
			t.Errorf("%d: %v, not %v", i, got, want)
		}
	}
	if r := call(api.Session{T: api.Tree{Nodes: []api.TreeNode{}}, Export: "m"}, nil, 0); !r.isFailed(api.ErrForm) {
		t.Errorf("%v", r)
	}
}

// P2: where the nodes were in a text does not matter.
func TestPlacesDoNotMatter(t *testing.T) {
	for i, x := range talked(t) {
		y := x
		y.T, _ = parse.Bare(x.T)
		if a, b := call(x, []int{1, 2}, 2), call(y, []int{1, 2}, 2); !a.same(b) {
			t.Errorf("%d: %v, not %v", i, b, a)
		}
	}
}
