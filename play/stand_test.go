package play_test

import (
	"testing"

	"riposte/api"
	"riposte/play"
)

// P5.2, P5.3: where words stand, and what can come.
func TestStands(t *testing.T) {
	other, program, over := api.TurnOther, api.TurnProgram, api.TurnOver
	for _, x := range []struct {
		a, w         string
		turn         uint8
		open         []int
		forced, lost bool
		next         string
	}{
		{plain, "", other, nil, false, false, "0?"},
		{plain, "0?", program, []int{0}, false, false, "0!0 0!1 1? 2? 2=0 2=1"},
		{jumps, "0?", program, []int{0}, false, false, "0!0 0!1 1? 2? 2=0 2=1"},
		{plain, "0? 0!1", over, nil, false, false, ""},
		{plain, "0? 1?", other, []int{0, 1}, false, false, "1!0 1.1? 1.2? 1.2=0 1.2=1"},
		{jumps, "0? 1?", other, []int{0, 1}, false, false, "1!* 1!0 1.1? 1.2? 1.2=0 1.2=1"},
		{plain, "0? 2?", other, []int{0, 1}, false, false, "2!0 2!1"},
		{jumps, "0? 2?", other, []int{0, 1}, false, false, "2!* 2!0 2!1"},
		{plain, "0? 2=1", other, []int{0, 1}, false, false, "2!0"},
		{jumps, "0? 2=1", other, []int{0, 1}, false, false, "2!* 2!0"},
		{plain, "0? 1? 1.1?", program, []int{0, 1, 2}, false, false, "1? 1.1!* 1.1!0 1.1!1 1.1!2 2? 2=0 2=1"},
		{plain, "0? 1? 1.2?", program, []int{0, 1, 2}, false, false, "1? 1.2!* 1.2!0 1.2!1 2? 2=0 2=1"},
		{plain, "0? 1? 1.2=1", program, []int{0, 1, 2}, false, false, "1? 1.2!* 1.2!0 2? 2=0 2=1"},
		{plain, "0? 1? 1.1? 1?", other, []int{0, 1, 2, 3}, false, false, "1!0 1.1? 1.2? 1.2=0 1.2=1"},
		{plain, "0? 1? 1.1? 1.1!*", other, []int{0, 1}, true, false, "1!*"},
		{plain, "0? 1? 1.1? 1.1!* 1!*", program, []int{0}, false, false, "0!0 0!1 1? 2? 2=0 2=1"},
		{jumps, "0? 1? 1.1? 1.1!* 1!*", program, []int{0}, false, false, "0!0 0!1 1? 2? 2=0 2=1"},
		{plain, "0? 1? 1.1? 1? 1.2=1 1.2!*", other, []int{0, 1, 2, 3}, true, false, "1!*"},
		{plain, "0? 1? 1.1? 1? 1.2=1 1.2!* 1!*", program, []int{0, 1, 2}, false, false, "1? 1.1!* 1.1!0 1.1!1 1.1!2 2? 2=0 2=1"},
		{jumps, "0? 1? 1!*", program, []int{0}, false, true, "0!*"},
		{jumps, "0? 1? 1!* 0!*", over, nil, false, true, ""},
		{jumps, "0? 1? 1.1? 2? 2!*", program, []int{0, 1, 2}, false, true, "1.1!*"},
		{jumps, "0? 1? 1.1? 2? 2!* 1.1!*", other, []int{0, 1}, true, true, "1!*"},
		{jumps, "0? 1? 1.1? 2? 2!* 1.1!* 1!*", program, []int{0}, false, true, "0!*"},
		{jumps, "0? 1? 1.1? 1.1!* 1!* 2? 2!*", program, []int{0}, false, true, "0!*"},
		{plain, said, program, []int{0}, false, false, "0!0 0!1 1? 2? 2=0 2=1"},
		{plain, nested, over, nil, false, false, ""},
		{jumps, lost, over, nil, false, true, ""},
		{"cell 3", "", other, nil, false, false, "0? 0=0 0=1 0=2"},
		{"cell 3; jumps", "", other, nil, false, false, "0? 0=0 0=1 0=2"},
		{"cell 3", "0?", program, []int{0}, false, false, "0!0 0!1 0!2"},
		{"cell 3", "0=2", program, []int{0}, false, false, "0!0"},
		{"cell 3; jumps", "0=2", program, []int{0}, false, false, "0!0"},
		{"int 1; int 1; int 1", "0? 1? 1!0", program, []int{0}, false, false, "0!0 1? 2?"},
	} {
		a := read(t, x.a)
		w := legal(t, a, x.w)
		s, e := play.Stand(a, w)
		if want := (api.Stand{Turn: x.turn, Open: x.open, Forced: x.forced, Lost: x.lost}); !sameStand(s, want) || e != api.OK {
			t.Errorf("%s: Stand of %s: %v, %v", x.a, x.w, s, e)
		}
		if l, e := play.Next(a, w); text(l) != x.next || e != api.OK {
			t.Errorf("%s: Next of %s: %s, %v", x.a, x.w, text(l), e)
		}
	}
}

// P5.2: the same of many words, by the model.
func TestManyStands(t *testing.T) {
	for _, x := range conversations(t) {
		for _, w := range x.words {
			if s, e := play.Stand(x.Arena, w); !sameStand(s, x.stand(w)) || e != api.OK {
				t.Fatalf("%v: %s: %v, %v", x.Arena, text(w), s, e)
			}
		}
	}
}

// P5.3: Next tells what can come where the word has MaxWord moves, too.
func TestNextOfLongWords(t *testing.T) {
	a := read(t, jumps)
	for _, x := range []struct{ first, again, want string }{
		{"0?", "2? 2!1 2=0 2!0", "2!* 2!0"},
		{"0?", "1? 1.1?", "1!* 1!0 1.1? 1.2? 1.2=0 1.2=1"},
		{"0?", "1? 1.1? 1.1!* 1!*", "1!*"},
	} {
		w := many(t, x.first, x.again, api.MaxWord)
		if l, e := play.Next(a, w); text(l) != x.want || e != api.OK {
			t.Errorf("%s %s: %s, %v", x.first, x.again, text(l), e)
		}
	}
}
