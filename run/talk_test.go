package run_test

import (
	"slices"
	"testing"

	"riposte/api"
	"riposte/play"
	"riposte/run"
)

// P6.2: the other one moves by numbers, as long as it is its turn and there are some.
func TestTalk(t *testing.T) {
	const twice = "import f:(bool)->com; export m():com=f(true);f(false);"
	for _, x := range []struct {
		s, word string
		by      []int
		want    string
		turn    stands
		at      int
	}{
		{plus, "", nil, "", asks("", 0), 0}, {plus, "", []int{7}, "0? 1?", asks("1?", 2), 1}, {plus, "0?", nil, "0? 1?", asks("1?", 2), 1}, {plus, "0? 1?", nil, "0? 1?", asks("", 2), 2},
		// Of three answers the one whose place is the number modulo three.
		{plus, "0?", []int{0}, "0? 1? 1!0 0!1", over("0!1", 3), 3}, {plus, "0? 1?", []int{2}, "0? 1? 1!2 0!0", over("0!0", 3), 3}, {plus, "0?", []int{4}, "0? 1? 1!1 0!2", over("0!2", 3), 3}, {plus, "0?", []int{1<<63 - 1}, "0? 1? 1!1 0!2", over("0!2", 3), 3},
		// Numbers that are left when it is over, hangs or is odd do not matter.
		{plus, "", []int{0, 5, 5, 5}, "0? 1? 1!2 0!0", over("0!0", 3), 3}, {plus, "0? 1? 1!0", []int{3}, "0? 1? 1!0 0!1", over("0!1", 3), 3}, {plus, "0? 1? 1!0 0!1", []int{3}, "0? 1? 1!0 0!1", over("", 3), 4},
		{plus, "0? 1? 1!7", []int{3}, "0? 1? 1!7", odd(2), 2}, {plus, "0? 0!0 1?", []int{3}, "0? 0!0 1?", odd(2), 1}, {"export m():com=hang;", "", []int{0, 1}, "0?", hangs(1), 1},
		// Questions come behind the answers, and Esc is the first of these.
		{twice, "0?", []int{1, 0, 0}, "0? 1? 1.1? 1.1!1 1!0 1? 1!0 0!0", over("0!0", 4), 7}, {twice, "^0?", []int{0, 2}, "0? 1? 1!* 0!*", over("0!*", 2), 3}, {twice, "^0?", []int{2, 1, 1}, "0? 1? 1.1? 1.1!1 1!0 1? 1!0 0!0", over("0!0", 4), 7},
		// A move that is forced is the only one.
		{leaps, "", []int{5, 1, 9}, "0? 1? 1.1? 1.1!* 1!* 0!0", over("0!0", 4), 5}, {cells, "0?", []int{3, 1, 0}, "0? 1? 1.1=1 1.1!0 1.1? 1.1!1 1!0 0!1", over("0!1", 4), 7},
	} {
		y := said(t, x.s, x.word)
		w, u, e := run.Talk(y, x.by)
		if text(w) != x.want || e != api.OK || !x.turn.isAt(u, x.at) {
			t.Errorf("%s: Talk after %s by %v: %s, %v, %v", x.s, x.word, x.by, text(w), u, e)
		}
	}
}

// P6.2: what Talk says is what Next says, turn by turn.
func TestTalkByTurns(t *testing.T) {
	talked := 0
	sessions(t, 63, 30, func(d *dice, x api.Session) {
		var by []int
		for range d.below(9) {
			by = append(by, d.below(1000))
		}
		w, u, want := slowTalk(x, by)
		v, got, e := run.Talk(x, by)
		if !slices.Equal(v, w) || !sameTurn(got, u) || e != want {
			t.Fatalf("%s: Talk after %s by %v: %s, %v, %v; not %s, %v", program(x), text(x.Word), by, text(v), got, e, text(w), u)
		}
		talked += max(0, len(v)-len(x.Word))
	})
	if talked < 500 {
		t.Errorf("%d moves", talked)
	}
}

// slowTalk talks by turns of Next.
func slowTalk(x api.Session, by []int) (api.Word, api.Turn, api.Errno) {
	a, _ := run.Arena(x)
	for {
		u, e := run.Next(x)
		if e != api.OK {
			return nil, api.Turn{}, e
		}
		w := slices.Concat(x.Word, u.Moves)
		if u.State != api.StateAsks || len(by) == 0 {
			return w, u, api.OK
		}
		l, _ := play.Next(a, w)
		x.Word = append(w, l[by[0]%len(l)])
		by = by[1:]
	}
}

// P6.2, R1, R2: the errors of Talk, and which one comes first.
func TestTalkErrors(t *testing.T) {
	below := []int{0, -1}
	many := slices.Repeat([]int{1}, api.MaxTalk+1)
	const loop = "import i:bool; export m():com=while i do skip;"
	long := "0?"
	for range (api.MaxWord - 2) / 2 {
		long += " 1? 1!1"
	}
	for i, x := range []struct {
		s, word string
		by      []int
		want    api.Errno
	}{
		{"export m():com=1;", "0?", many, api.ErrType}, {"export m():com=1;", "0?", below, api.ErrType}, {"export n():com=skip;", "", below, api.ErrNone}, {plus, long + " 1? 1!1", below, api.ErrLimit}, {plus, long + " 1? 1!1", nil, api.ErrLimit},
		{plus, "", many, api.ErrLimit}, {plus, "", append(many, -1), api.ErrLimit}, {endless, "0?", many, api.ErrLimit}, {plus, "", below, api.ErrRange}, {plus, "1?", []int{-1 << 63}, api.ErrRange}, {endless, "0?", below, api.ErrRange}, {endless, "0?", nil, api.ErrLimit}, {endless, "", []int{0}, api.ErrLimit}, {endless, "", nil, api.OK},
		// The word is full, and so it is, if it becomes so.
		{loop, long + " 1?", []int{1}, api.ErrLimit}, {loop, long + " 1?", nil, api.OK}, {loop, long, []int{1}, api.ErrLimit}, {loop, long, nil, api.OK}, {loop, long[:len(long)-7], []int{1, 1}, api.ErrLimit}, {loop, long[:len(long)-7], []int{1, 0}, api.ErrLimit}, {loop, long[:len(long)-7], []int{1}, api.OK}, {loop, long[:len(long)-7], []int{0, 1}, api.OK},
		{loop, long[:len(long)-7], many[1:], api.ErrLimit}, {loop, "0?", many[1:], api.OK},
	} {
		w, u, e := run.Talk(said(t, x.s, x.word), x.by)
		if e != x.want || e != api.OK && (len(w) > 0 || !isNoTurn(u)) {
			t.Errorf("%d: %d moves, %v, %v", i, len(w), u, e)
		}
		if e == api.OK && len(w) > api.MaxWord {
			t.Errorf("%d: %d moves", i, len(w))
		}
	}
	if w, _, e := run.Talk(said(t, loop, "0?"), many[1:]); len(w) != 2+2*api.MaxTalk || e != api.OK {
		t.Errorf("%d moves, %v", len(w), e)
	}
}
