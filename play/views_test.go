package play_test

import (
	"slices"
	"testing"

	"riposte/api"
	"riposte/play"
)

// P5.5: the views of the beginnings of words, the sights where there are no views; of the empty word there is neither.
func TestViews(t *testing.T) {
	for _, x := range []struct {
		a, w  string
		views [][]int
	}{
		{plain, said, [][]int{{0}, {0, 1}, {0, 1, 2}, {0, 3}, {0, 1, 2, 3, 4}, {0, 1, 2, 5}, {0, 1, 6}, {0, 1, 2, 5, 6, 7}, {0, 1, 8}}},
		{plain, nested, [][]int{{0}, {0, 1}, {0, 1, 2}, {0, 3}, {0, 1, 2, 3, 4}, {0, 3, 4, 5}, {0, 1, 2, 3, 6}, {0, 1, 2, 7}, {0, 1, 8}, {0, 1, 2, 7, 8, 9}, {0, 1, 10}, {0, 11}}},
		{plain, "0? 1? 1.1? 1.1!0 1.1? 1.1!* 1!* 0!1", [][]int{{0}, {0, 1}, {0, 1, 2}, {0, 1, 2, 3}, {0, 1, 4}, {0, 1, 2, 3, 4, 5}, {0, 1, 4, 5, 6}, {0, 7}}},
		{plain, "0? 1? 1.1? 1? 1.2=1 1.2!* 1!* 1.1!* 1!* 2? 2!0", [][]int{{0}, {0, 1}, {0, 1, 2}, {0, 3}, {0, 1, 2, 3, 4}, {0, 3, 4, 5}, {0, 1, 2, 3, 4, 5, 6}, {0, 1, 2, 7}, {0, 1, 2, 3, 4, 5, 6, 7, 8}, {0, 9}, {0, 1, 2, 3, 4, 5, 6, 7, 8, 9, 10}}},
		{jumps, "0? 1? 1.1? 2? 2!* 1.1!* 1!* 0!*", [][]int{{0}, {0, 1}, {0, 1, 2}, {0, 3}, {0, 1, 2, 3, 4}, {0, 1, 2, 5}, {0, 1, 2, 3, 4, 5, 6}, {0, 7}}},
		{jumps, "0? 1? 1.1? 1.1!1 1!* 0!*", [][]int{{0}, {0, 1}, {0, 1, 2}, {0, 1, 2, 3}, {0, 1, 4}, {0, 5}}},
		{"cell 2", "0=1 0!0", [][]int{{0}, {0, 1}}},
	} {
		a := read(t, x.a)
		w := legal(t, a, x.w)
		if len(x.views) != len(w) {
			t.Errorf("%s: %d views of %d moves", x.w, len(x.views), len(w))
		}
		for n, want := range x.views {
			compareViews(t, a, w[:n+1], want)
		}
	}
	for _, a := range arenas(t) {
		for _, w := range []api.Word{nil, {}} {
			v, e := play.View(a, w)
			s, f := play.Sight(a, w)
			if e != api.ErrState || f != api.ErrState || len(v) > 0 || len(s) > 0 {
				t.Errorf("%v: %v, %v, %v, %v", a, v, e, s, f)
			}
		}
	}
}

// compareViews compares the view of a legal word, or its sight, with what it should be; there is no other one.
func compareViews(t *testing.T, a api.Arena, w api.Word, want []int) {
	t.Helper()
	v, e := play.View(a, w)
	s, f := play.Sight(a, w)
	if len(w)%2 == 0 {
		v, s, e, f = s, v, f, e
	}
	if !slices.Equal(v, want) || e != api.OK || len(s) > 0 || f != api.ErrState {
		t.Errorf("%v: %s: %v, %v; %v, %v; should be %v", a, text(w), v, e, s, f, want)
	}
}

// P5.5: the same of many words, by the model.
func TestManyViews(t *testing.T) {
	for _, x := range conversations(t) {
		for _, w := range x.words {
			if len(w)%2 == 1 {
				compareViews(t, x.Arena, w, viewOf(w))
			} else if len(w) > 0 {
				compareViews(t, x.Arena, w, sightOf(w))
			}
		}
	}
}

// P5.5, P5.7: views and depths of the longest words.
func TestLongViews(t *testing.T) {
	a := read(t, plain)
	deep := many(t, "0?", "1? 1.1?", api.MaxWord)
	flat := many(t, "0?", "1? 1.1? 1.1!0 1!0", api.MaxWord)
	for _, w := range []api.Word{deep, flat} {
		compareViews(t, a, w[:api.MaxWord-1], viewOf(w[:api.MaxWord-1]))
		compareViews(t, a, w, sightOf(w))
	}
	for _, x := range []struct {
		w    api.Word
		want int
	}{{deep, api.MaxWord}, {deep[:399], 399}, {flat, 3}, {flat[:2], 2}} {
		if d, e := play.Depth(a, x.w); d != x.want || e != api.OK {
			t.Errorf("Depth of %d moves: %d, %v", len(x.w), d, e)
		}
	}
}
