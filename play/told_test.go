package play_test

import (
	"slices"
	"testing"

	"riposte/api"
	"riposte/play"
)

// P5.4, P5.7: partners, justifiers and depths.
func TestPairs(t *testing.T) {
	for _, x := range []struct {
		a, w                 string
		partners, justifiers []int
		depth                int
	}{
		{plain, "", nil, nil, 0},
		{plain, "0?", []int{-1}, []int{-1}, 1},
		{plain, "0? 0!1", []int{1, 0}, []int{-1, 0}, 1},
		{"cell 2", "0=1 0!0", []int{1, 0}, []int{-1, 0}, 1},
		{plain, "0? 1? 1.1? 2?", []int{-1, -1, -1, -1}, []int{-1, 0, 1, 0}, 4},
		{plain, said, []int{-1, 8, 5, 4, 3, 2, 7, 6, 1}, []int{-1, 0, 1, 0, 3, 2, 1, 6, 1}, 4},
		{plain, nested, []int{11, 10, 7, 6, 5, 4, 3, 2, 9, 8, 1, 0}, []int{-1, 0, 1, 0, 3, 4, 3, 2, 1, 8, 1, 0}, 5},
		{plain, "0? 1? 1.1? 1? 1.2=1 1.2!* 1!* 1.1!* 1!* 2? 2!0", []int{-1, 8, 7, 6, 5, 4, 3, 2, 1, 10, 9}, []int{-1, 0, 1, 0, 3, 4, 3, 2, 1, 0, 9}, 5},
		{jumps, "0? 1? 1.1? 2? 2!* 1.1!* 1!* 0!*", []int{7, 6, 5, 4, 3, 2, 1, 0}, []int{-1, 0, 1, 0, 3, 2, 1, 0}, 4},
	} {
		a := read(t, x.a)
		w := legal(t, a, x.w)
		partners, e := play.Partners(a, w)
		justifiers, f := play.Justifiers(a, w)
		depth, g := play.Depth(a, w)
		if !slices.Equal(partners, x.partners) || !slices.Equal(justifiers, x.justifiers) || depth != x.depth || e != api.OK || f != api.OK || g != api.OK {
			t.Errorf("%s: %v, %v; %v, %v; %d, %v", x.w, partners, e, justifiers, f, depth, g)
		}
	}
}

// P5.4, P5.6, P5.7, P5.8: what is told of many words, by the model.
func TestManyWords(t *testing.T) {
	d := dice(3)
	for _, x := range conversations(t) {
		for _, w := range x.words {
			ids := []int{d.below(12) - 1, d.below(4), d.below(3)}
			l, errors := results(x.Arena, w, ids)
			want := []any{x.stand(w), api.Word(x.next(w)), partnersOf(w), justifiersOf(w), nil, nil, partOf(w, ids), depthOf(w), x.closeOf(w), w}
			for i := range functionsOfWords {
				if i != ofView && i != ofSight && (!sameResult(l[i], want[i]) || errors[i] != api.OK) {
					t.Fatalf("%v: function %d of %s with %v: %v instead of %v, %v", x.Arena, i, text(w), ids, l[i], want[i], errors[i])
				}
			}
		}
	}
}

// P5.6: parts of identifiers; 0 is the export, and numbers that are none of the arena's have no moves.
func TestParts(t *testing.T) {
	for _, x := range []struct {
		w    string
		ids  []int
		want string
	}{
		{said, []int{1}, "1? 1.1? 1.1!2 1.2=1 1.2!0 1!0"},
		{said, []int{2}, "2? 2!1"},
		{said, []int{0}, "0?"},
		{said, []int{2, 0, 9, 2}, "0? 2? 2!1"},
		{said, []int{2, 1, 0}, said},
		{said, nil, ""},
		{said, []int{}, ""},
		{said, []int{-1, 3, 1 << 62, -1 << 63, 1<<63 - 1}, ""},
		{"", []int{0, 1}, ""},
		{nested, []int{0}, "0? 0!1"},
		{jumped, []int{2, 0}, "0? 2? 2!1 2=0 2!0 0!1"},
	} {
		a := read(t, plain)
		if p, e := play.Part(a, legal(t, a, x.w), x.ids); text(p) != x.want || e != api.OK {
			t.Errorf("%s: Part of %v: %s, %v", x.w, x.ids, text(p), e)
		}
	}
	a := read(t, plain)
	if p, e := play.Part(a, word(t, said), slices.Repeat([]int{7, 2}, 5000)); text(p) != "2? 2!1" || e != api.OK {
		t.Errorf("%s, %v", text(p), e)
	}
}

// P5.8: each move of the close is the simplest answer of the top, or Esc where this alone can come.
func TestCloses(t *testing.T) {
	for _, x := range [][3]string{
		{plain, "", "0? 0!0"},
		{jumps, "", "0? 0!0"},
		{"cell 3", "", "0? 0!0"},
		{"cell 3", "0=2", "0=2 0!0"},
		{plain, "0?", "0? 0!0"},
		{plain, "0? 0!1", "0? 0!1"},
		{plain, "0? 1? 1.1? 2?", "0? 1? 1.1? 2? 2!0 1.1!0 1!0 0!0"},
		{jumps, "0? 1? 1.1? 2?", "0? 1? 1.1? 2? 2!0 1.1!0 1!0 0!0"},
		{plain, "0? 1? 1.2=1 2=1", "0? 1? 1.2=1 2=1 2!0 1.2!0 1!0 0!0"},
		{plain, "0? 1? 1.1? 1.1!*", "0? 1? 1.1? 1.1!* 1!* 0!0"},
		{jumps, "0? 1? 1.1? 1? 1.1? 1.1!*", "0? 1? 1.1? 1? 1.1? 1.1!* 1!* 1.1!0 1!0 0!0"},
		{plain, "0? 1? 1.1? 1.1!* 1!*", "0? 1? 1.1? 1.1!* 1!* 0!0"},
		{jumps, "0? 1? 1.2=0 2? 2!*", "0? 1? 1.2=0 2? 2!* 1.2!* 1!* 0!*"},
		{jumps, "0? 1? 1.2=0 2? 2!* 1.2!*", "0? 1? 1.2=0 2? 2!* 1.2!* 1!* 0!*"},
		{jumps, "0? 2? 2!*", "0? 2? 2!* 0!*"},
		{plain, said, said + " 0!0"},
		{plain, nested, nested},
		{jumps, lost, lost},
	} {
		a := read(t, x[0])
		if w, e := play.Close(a, legal(t, a, x[1])); text(w) != x[2] || e != api.OK {
			t.Errorf("%s: Close of %s: %s, %v", x[0], x[1], text(w), e)
		}
	}
}

// P5.8, R7: a close has MaxWord moves, and no more.
func TestLongCloses(t *testing.T) {
	a := read(t, plain)
	for _, x := range []struct {
		w     api.Word
		close int
	}{
		{many(t, "0?", "1? 1.1?", 200), 400},
		{many(t, "0?", "1? 1.1?", 201), 402},
		{many(t, "0?", "1? 1.1?", 399), 798},
		{many(t, "0?", "1? 1.1?", 400), 800},
		{many(t, "0?", "2? 2!1", 397), 398},
		{many(t, "0?", "2? 2!1", 398), 400},
		{many(t, "0?", "2? 2!1", 399), 400},
		{many(t, "0?", "2? 2!1", 400), 402},
		{append(many(t, "0?", "2? 2!1", 399), word(t, "0!1")...), 400},
	} {
		w, e := play.Close(a, x.w)
		if x.close <= api.MaxWord && (len(w) != x.close || !slices.Equal(w[:len(x.w)], x.w) || e != api.OK) || x.close > api.MaxWord && (len(w) > 0 || e != api.ErrLimit) {
			t.Errorf("%d moves: %d, %v", len(x.w), len(w), e)
		}
	}
}
