package play_test

import (
	"reflect"
	"slices"
	"testing"

	"riposte/api"
	"riposte/arena"
	"riposte/play"
)

// wrongArenas returns arenas that are not right.
func wrongArenas() []api.Arena {
	bit := api.Base{N: 2}
	wrong := api.Base{N: 65}
	return []api.Arena{
		{}, {Root: wrong}, {Root: api.Base{Cell: true, N: -1}}, {Jumps: true},
		{Root: bit, Ids: []api.Type{{}}},
		{Root: bit, Ids: []api.Type{{Result: bit}, {Params: []api.Base{bit, wrong}, Result: bit}}},
		{Root: bit, Ids: []api.Type{{Params: []api.Base{bit}, Result: api.Base{Cell: true, N: 2}}}},
		{Root: bit, Ids: slices.Repeat([]api.Type{{Result: bit}}, 9)},
		{Root: bit, Ids: []api.Type{{Params: slices.Repeat([]api.Base{bit}, 6), Result: bit}}, Jumps: true},
		{Ids: slices.Repeat([]api.Type{{}}, 9)},
	}
}

// P1, R1, R2: the errors of an arena come in front of all others, in all functions, with zero values.
func TestErrorsOfArenas(t *testing.T) {
	for _, a := range wrongArenas() {
		want := arena.Check(a)
		for _, w := range []api.Word{nil, word(t, "0?"), word(t, "0? 0!0"), word(t, "1? 0?"), make(api.Word, 400), make(api.Word, 401), many(t, "0?", "1? 1!0", 1000)} {
			if at, e := play.Check(a, w); at != 0 || e != want || want == api.OK {
				t.Errorf("%v: Check of %d moves: %d, %v", a, len(w), at, e)
			}
			l, errors := results(a, w, []int{0, 1})
			for i := range functionsOfWords {
				if errors[i] != want || !isZero(l[i]) {
					t.Errorf("%v: function %d of %d moves: %v, %v", a, i, len(w), l[i], errors[i])
				}
			}
		}
	}
}

// P1, R1, R2: ErrOdd comes in front of ErrState, and of ErrLimit of the close.
func TestErrorsOfWords(t *testing.T) {
	a := read(t, plain)
	deep := many(t, "0?", "1? 1.1?", 399)
	for _, w := range []api.Word{append(deep, word(t, "0!0")...), word(t, "0!0"), word(t, "0? 1? 0!0 2?")} {
		l, errors := results(a, w, nil)
		for i := range functionsOfWords {
			if i != ofCut && (errors[i] != api.ErrOdd || !isZero(l[i])) {
				t.Errorf("%d moves: function %d: %v, %v", len(w), i, l[i], errors[i])
			}
		}
	}
	l, errors := results(a, deep, []int{0})
	for i := range functionsOfWords {
		want := api.OK
		switch i {
		case ofSight:
			want = api.ErrState
		case ofClose:
			want = api.ErrLimit
		}
		if errors[i] != want || (want != api.OK && !isZero(l[i])) {
			t.Errorf("function %d: %v, %v", i, l[i], errors[i])
		}
	}
}

// R3: nil lists and empty lists are the same.
func TestNilAndEmpty(t *testing.T) {
	bit := api.Base{N: 2}
	a := api.Arena{Root: bit, Ids: []api.Type{{Params: []api.Base{}, Result: bit}}}
	b := api.Arena{Root: bit, Ids: []api.Type{{Result: bit}}}
	for _, w := range []api.Word{nil, {}, word(t, "0?"), word(t, "0? 1? 1!1")} {
		l, e := results(a, w, nil)
		k, f := results(b, slices.Clone(w), []int{})
		for i := range functionsOfWords {
			if !sameResult(l[i], k[i]) || e[i] != f[i] {
				t.Errorf("%s: function %d: %v, %v; %v, %v", text(w), i, l[i], e[i], k[i], f[i])
			}
		}
	}
	for _, a := range []api.Arena{{Root: bit}, {Root: bit, Ids: []api.Type{}}} {
		if at, e := play.Check(a, api.Word{}); at != 0 || e != api.OK {
			t.Errorf("%d, %v", at, e)
		}
	}
}

// roomy returns a list with the same elements, and spare room with something in it.
func roomy[T any](l []T, x T) []T {
	more := slices.Concat(l, []T{x, x, x})
	return more[:len(l)]
}

// spoil writes into the lists of a result, and into their spare room.
func spoil(x any) {
	switch x := x.(type) {
	case api.Stand:
		spoil(x.Open)
	case []int:
		x = x[:cap(x)]
		for i := range x {
			x[i] = -77
		}
	case api.Word:
		x = x[:cap(x)]
		for i := range x {
			x[i] = api.Move{Id: -9, Kind: 99}
		}
	}
}

// P2, R4: results are equal for equal arguments, which stay as they are, with their spare room; what is written into results changes nothing.
func TestNothingIsShared(t *testing.T) {
	d := dice(4)
	for _, x := range conversations(t) {
		types := roomy(x.Ids, api.Type{Result: api.Base{N: 7}})
		a := api.Arena{Ids: types, Root: x.Root, Jumps: x.Jumps}
		for _, w := range append(x.words, many(t, "", "0?", 3), many(t, "", "0?", 401)) {
			v := roomy(w, api.Move{Id: 5, Kind: 7})
			ids := roomy([]int{d.below(4), 0, 1}, 2)
			wasV, wasIds := slices.Clone(v[:cap(v)]), slices.Clone(ids[:cap(ids)])
			wasTypes := slices.Clone(types[:cap(types)])
			want, wantErrors := results(x.Arena, slices.Clone(w), slices.Clone(ids))
			for range 2 {
				l, errors := results(a, v, ids)
				for i := range functionsOfWords {
					if !sameResult(l[i], want[i]) || errors[i] != wantErrors[i] {
						t.Fatalf("%v: function %d of %s: %v, %v instead of %v, %v", a, i, text(w), l[i], errors[i], want[i], wantErrors[i])
					}
					spoil(l[i])
				}
				for i := range functionsOfWords {
					if !slices.Equal(v[:cap(v)], wasV) || !slices.Equal(ids[:cap(ids)], wasIds) || !reflect.DeepEqual(types[:cap(types)], wasTypes) {
						t.Fatalf("%v: function %d of %s: an argument was changed", a, i, text(w))
					}
				}
			}
			textOf(t, v, wasV)
		}
	}
}

// textOf makes the text of a word twice; neither this nor what is written into the word that is read again changes anything.
func textOf(t *testing.T, w, was api.Word) {
	t.Helper()
	s, e := play.Text(w)
	v, f := play.Parse(s)
	spoil(v)
	again, g := play.Text(w)
	back, h := play.Parse(s)
	if s != again || e != g || f != h || !slices.Equal(w[:cap(w)], was) || e == api.OK && !slices.Equal(back, w) {
		t.Fatalf("%s: %q, %q", text(w), s, again)
	}
}

// P2: what is returned stays as it is while others are asked for.
func TestResultsStay(t *testing.T) {
	a := read(t, plain)
	w := word(t, jumped)
	l, _ := results(a, w[:7], []int{1})
	k, _ := results(a, w[:7], []int{1})
	results(a, w, []int{2})
	results(read(t, jumps), word(t, lost), []int{0})
	for i := range functionsOfWords {
		if !sameResult(l[i], k[i]) {
			t.Errorf("function %d: %v, %v", i, l[i], k[i])
		}
	}
}
