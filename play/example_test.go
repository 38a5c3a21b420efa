package play_test

import (
	"slices"
	"testing"

	"riposte/api"
	"riposte/play"
)

// The examples of the chapter.
func TestExamples(t *testing.T) {
	a := read(t, plain)
	w := legal(t, a, said)
	if s, e := play.Stand(a, w); !sameStand(s, api.Stand{Turn: api.TurnProgram, Open: []int{0}}) || e != api.OK {
		t.Errorf("Stand: %v, %v", s, e)
	}
	if l, e := play.Next(a, w); text(l) != "0!0 0!1 1? 2? 2=0 2=1" || e != api.OK {
		t.Errorf("Next: %s, %v", text(l), e)
	}
	escaped := word(t, "0? 1? 1.1? 1.1!*")
	if l, e := play.Next(a, escaped); text(l) != "1!*" || e != api.OK {
		t.Errorf("Next of a jump: %s, %v", text(l), e)
	}
	for _, x := range []struct {
		of   func(api.Arena, api.Word) ([]int, api.Errno)
		w    api.Word
		want []int
	}{
		{play.Partners, w, []int{-1, 8, 5, 4, 3, 2, 7, 6, 1}},
		{play.Justifiers, w, []int{-1, 0, 1, 0, 3, 2, 1, 6, 1}},
		{play.View, w, []int{0, 1, 8}},
		{play.View, w[:5], []int{0, 1, 2, 3, 4}},
		{play.Sight, w[:6], []int{0, 1, 2, 5}},
		{play.Sight, w[:4], []int{0, 3}},
		{play.View, append(escaped, word(t, "1!*")...), []int{0, 1, 2, 3, 4}},
	} {
		if l, e := x.of(a, x.w); !slices.Equal(l, x.want) || e != api.OK {
			t.Errorf("%s: %v instead of %v, %v", text(x.w), l, x.want, e)
		}
	}
	if d, e := play.Depth(a, w); d != 4 || e != api.OK {
		t.Errorf("Depth: %d, %v", d, e)
	}
	if p, e := play.Part(a, w, []int{1}); text(p) != "1? 1.1? 1.1!2 1.2=1 1.2!0 1!0" || e != api.OK {
		t.Errorf("Part of 1: %s, %v", text(p), e)
	}
	if c, e := play.Close(a, w[:4]); text(c) != "0? 1? 1.1? 2? 2!0 1.1!0 1!0 0!0" || e != api.OK {
		t.Errorf("Close: %s, %v", text(c), e)
	}
	for _, s := range []string{"0? 1? 2?", "0? 1? 1!*"} {
		if at, e := play.Check(a, word(t, s)); at != 2 || e != api.ErrOdd {
			t.Errorf("Check of %s: %d, %v", s, at, e)
		}
	}
	if l, e := play.Next(read(t, jumps), word(t, "0? 1? 1.1? 2? 2!*")); text(l) != "1.1!*" || e != api.OK {
		t.Errorf("Next with jumps: %s, %v", text(l), e)
	}
}

// The example of DOC.md.
func TestExampleOfAll(t *testing.T) {
	a := read(t, "int 2; (int 2) -> int 1; int 2")
	w := legal(t, a, "0? 1? 1.1? 2? 2!1 1.1!1 1!0 0!1")
	if v, e := play.View(a, w[:7]); !slices.Equal(v, []int{0, 1, 6}) || e != api.OK {
		t.Errorf("View: %v, %v", v, e)
	}
	if l, e := play.Next(a, word(t, "0? 1? 1.1? 2? 2!1 1.1!*")); text(l) != "1!*" || e != api.OK {
		t.Errorf("Next of a jump: %s, %v", text(l), e)
	}
}
