package play_test

import (
	"slices"
	"testing"

	"riposte/api"
	"riposte/play"
)

// P5.1, P5.8: Check finds the first move that cannot come, and Cut what is in front of it; all other functions have ErrOdd.
func TestOddMoves(t *testing.T) {
	for _, x := range []struct {
		a, w string
		at   int
	}{
		{plain, "1?", 0}, {plain, "0!0", 0}, {plain, "1.1?", 0}, {plain, "2=1", 0}, {plain, "0=0", 0}, {plain, "0=0 0!0", 0}, {plain, "0!*", 0}, {plain, "3? 0? 0!1", 0},
		{plain, "0? 0?", 1}, {plain, "0? 1!0", 1}, {plain, "0? 1.1?", 1}, {plain, "0? 1.2=0", 1}, {plain, "0? 0!2", 1}, {plain, "0? 0!*", 1}, {plain, "0? 3?", 1}, {plain, "0? 1=0", 1}, {plain, "0? 2=2", 1}, {plain, "0? 2.1?", 1}, {plain, "0? 1!*", 1},
		{plain, "0? 1? 1?", 2}, {plain, "0? 1? 2?", 2}, {plain, "0? 1? 0!1", 2}, {plain, "0? 1? 0?", 2}, {plain, "0? 1? 1!1", 2}, {plain, "0? 1? 1!*", 2}, {plain, "0? 1? 1.3?", 2}, {plain, "0? 1? 1.1=1", 2}, {plain, "0? 1? 1.2=2", 2}, {plain, "0? 1? 1.1!0", 2},
		{plain, "0? 2? 2!*", 2}, {plain, "0? 2? 2!2", 2}, {plain, "0? 2? 2.1?", 2}, {plain, "0? 2? 1.1?", 2}, {plain, "0? 2=1 2!1", 2}, {plain, "0? 2=1 2!*", 2},
		{plain, "0? 1? 1.1? 0!1", 3}, {plain, "0? 1? 1.1? 1!0", 3}, {plain, "0? 1? 1.1? 1.2?", 3}, {plain, "0? 1? 1.1? 1.1?", 3}, {plain, "0? 1? 1.1? 1.2!0", 3}, {plain, "0? 1? 1.1? 1.1!3", 3}, {plain, "0? 1? 1.2=1 1.2!1", 3}, {plain, "0? 1? 1.1? 3?", 3},
		{plain, "0? 1? 1.1? 1.1!* 1!0", 4}, {plain, "0? 1? 1.1? 1.1!* 1.2?", 4}, {plain, "0? 1? 1.1? 1.1!* 1.1!*", 4}, {plain, "0? 1? 1.1? 1.1!* 2?", 4}, {plain, "0? 1? 1.1? 1.1!* 0!1", 4},
		{plain, "0? 1? 1.1? 1.1!* 1!* 0!*", 5}, {plain, "0? 1? 1.1? 1.1!* 1!* 1!*", 5}, {plain, "0? 1? 1.1? 1? 1!*", 4}, {plain, "0? 1? 1.1? 1.1!* 1!* 1? 1!*", 6},
		{plain, "0? 0!0 0?", 2}, {plain, "0? 0!0 1?", 2}, {plain, "0? 0!0 0!0", 2}, {plain, "0? 0!0 0!*", 2},
		{jumps, "0? 0!*", 1}, {jumps, "0? 1!*", 1}, {jumps, "0? 1? 1.1? 0!*", 3}, {jumps, "0? 2=1 2!1", 2},
		{jumps, "0? 1? 1!* 0!1", 3}, {jumps, "0? 1? 1!* 2?", 3}, {jumps, "0? 1? 1!* 1!*", 3}, {jumps, "0? 1? 1!* 0!* 0!*", 4}, {jumps, "0? 1? 1!* 0!* 0?", 4},
		{jumps, "0? 1? 1.1? 2? 2!* 1.1!0", 5}, {jumps, "0? 1? 1.1? 2? 2!* 1!*", 5}, {jumps, "0? 1? 1.1? 2? 2!* 2?", 5}, {jumps, "0? 1? 1.1? 2? 2!* 0!*", 5}, {jumps, "0? 1? 1.1? 2? 2!* 1.1!* 1!0", 6}, {jumps, "0? 1? 1.1? 2? 2!* 1.1!* 1.1?", 6}, {jumps, "0? 1? 1.1? 2? 2!* 1.1!* 1!* 2?", 7}, {jumps, "0? 1? 1.1? 2? 2!* 1.1!* 1!* 0!1", 7},
		{jumps, "0? 1? 1.1? 1.1!* 1!* 0!*", 5}, {jumps, "0? 1? 1.1? 1.1!* 1!0", 4}, {jumps, "0? 1? 1.1? 1.1!* 1.1?", 4},
		{"cell 3", "0=3", 0}, {"cell 3", "0=2 0!1", 1}, {"cell 3", "0=2 0!*", 1}, {"cell 3; jumps", "0=2 0!*", 1}, {"cell 3", "0=2 0=2", 1},
	} {
		a, w := read(t, x.a), word(t, x.w)
		if at, e := play.Check(a, w); at != x.at || e != api.ErrOdd {
			t.Errorf("%s: %s: %d, %v", x.a, x.w, at, e)
		}
		if cut, e := play.Cut(a, w); !slices.Equal(cut, w[:x.at]) || e != api.OK {
			t.Errorf("%s: Cut of %s: %s, %v", x.a, x.w, text(cut), e)
		}
		l, errors := results(a, w, []int{0, 1})
		for i := range functionsOfWords {
			if i != ofCut && (errors[i] != api.ErrOdd || !isZero(l[i])) {
				t.Errorf("%s: function %d of %s: %v, %v", x.a, i, x.w, l[i], errors[i])
			}
		}
	}
}

// P5.1, P5.8: words that are legal are cut nowhere.
func TestLegalWords(t *testing.T) {
	for _, x := range [][2]string{
		{plain, ""}, {plain, said}, {plain, nested}, {plain, jumped}, {plain, "0? 2=1 2!0 0!1"}, {plain, "0? 1? 1.2=0 1.2!* 1!* 0!0"}, {plain, "0? 1? 1.1? 1? 1.1? 1.1!* 1!* 1.1!* 1!* 0!1"},
		{jumps, said}, {jumps, nested}, {jumps, jumped}, {jumps, lost}, {jumps, "0? 2=1 2!* 0!*"}, {jumps, "0? 1? 1!* 0!*"},
		{"cell 3", "0=2 0!0"}, {"cell 3", "0? 0!2"}, {"int 1", "0? 0!0"}, {"int 64; cell 64", "0? 1=63 1!0 1? 1!63 0!63"},
	} {
		a := read(t, x[0])
		w := legal(t, a, x[1])
		cut, e := play.Cut(a, w)
		if !slices.Equal(cut, w) || e != api.OK {
			t.Errorf("%s: Cut of %s: %s, %v", x[0], x[1], text(cut), e)
		}
	}
}

// P5.1, P5.3, P5.8, R8: after many words, just the moves of the model can come, of all that there could be.
func TestWhatCanCome(t *testing.T) {
	for _, x := range conversations(t) {
		strange := x.strange()
		for i, w := range x.words {
			l, e := play.Next(x.Arena, w)
			if want := x.next(w); !slices.Equal(l, want) || e != api.OK {
				t.Fatalf("%v: Next of %s: %s instead of %s, %v", x.Arena, text(w), text(l), text(want), e)
			}
			for k, m := range strange {
				if (k+i)%7 > 0 && i > 40 {
					continue
				}
				v := slices.Concat(w, api.Word{m})
				at, e := play.Check(x.Arena, v)
				cut, f := play.Cut(x.Arena, v)
				wantAt, want, wantCut := 0, api.OK, v
				if !slices.Contains(l, m) {
					wantAt, want, wantCut = len(w), api.ErrOdd, w
				}
				if at != wantAt || e != want || f != api.OK || !slices.Equal(cut, wantCut) {
					t.Fatalf("%v: %s and %v: %d, %v; %s, %v", x.Arena, text(w), m, at, e, text(cut), f)
				}
			}
		}
	}
}

// P5.1, P5.8: what stands behind a move that cannot come does not matter.
func TestBehindOddMoves(t *testing.T) {
	d := dice(8)
	for _, x := range conversations(t) {
		for _, w := range x.words {
			v := changed(&d, w, x.all)
			odd := x.firstOdd(v)
			want, wantCut := api.OK, v
			if odd >= 0 {
				want, wantCut = api.ErrOdd, v[:odd]
			}
			at, e := play.Check(x.Arena, v)
			cut, f := play.Cut(x.Arena, v)
			if at != max(odd, 0) || e != want || !slices.Equal(cut, wantCut) || f != api.OK {
				t.Fatalf("%v: %s: %d, %v; %s, %v", x.Arena, text(v), at, e, text(cut), f)
			}
		}
	}
}

// changed returns a word with one move changed, one more, or one less.
func changed(d *dice, w api.Word, all []api.Move) api.Word {
	if len(w) == 0 {
		return api.Word{pick(d, all...)}
	}
	n := d.below(len(w))
	return slices.Concat(w[:n+d.below(2)], []api.Move{pick(d, all...)}[:d.below(2)], w[min(len(w), n+d.below(2)):])
}

// P5.1, R7: a word has MaxWord moves, and no more; too many moves come in front of what cannot come.
func TestLongWords(t *testing.T) {
	for _, a := range arenas(t) {
		w := make(api.Word, api.MaxWord)
		if at, e := play.Check(a, w); at != 0 || e != api.ErrOdd {
			t.Errorf("%v: %d, %v", a, at, e)
		}
	}
	a := read(t, plain)
	w := many(t, "0?", "2? 2!1 2=0 2!0", api.MaxWord)
	if at, e := play.Check(a, w); at != 0 || e != api.OK {
		t.Errorf("%d, %v", at, e)
	}
	if at, e := play.Check(a, append(w[:399:399], w[0])); at != 399 || e != api.ErrOdd {
		t.Errorf("%d, %v", at, e)
	}
	for _, last := range []api.Move{w[1], w[0], {}} {
		v := slices.Concat(w, api.Word{last})
		at, e := play.Check(a, v)
		l, errors := results(a, v, []int{2})
		if at != 0 || e != api.ErrLimit {
			t.Errorf("%v: %d, %v", last, at, e)
		}
		for i := range functionsOfWords {
			if errors[i] != api.ErrLimit || !isZero(l[i]) {
				t.Errorf("%v: function %d: %v, %v", last, i, l[i], errors[i])
			}
		}
	}
}
