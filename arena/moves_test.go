package arena_test

import (
	"slices"
	"testing"

	"riposte/api"
	"riposte/arena"
)

// P4.2: the moves of arenas, in their order.
func TestMoves(t *testing.T) {
	for _, x := range []struct {
		a    api.Arena
		want string
	}{
		{arenaOf(base(false, 1)), "0? 0!0"},
		{jumping(arenaOf(base(false, 1))), "0? 0!* 0!0"},
		{arenaOf(base(true, 2)), "0? 0=0 0=1 0!0 0!1"},
		{jumping(arenaOf(base(true, 2))), "0? 0=0 0=1 0!* 0!0 0!1"},
		{arenaOf(base(false, 1), plain(base(false, 2))), "0? 0!0 1? 1!0 1!1"},
		{jumping(arenaOf(base(false, 1), plain(base(false, 2)))), "0? 0!* 0!0 1? 1!* 1!0 1!1"},
		{arenaOf(base(false, 1), plain(base(true, 1))), "0? 0!0 1? 1=0 1!0"},
		{arenaOf(base(false, 1), arrow(base(false, 1), base(false, 2))), "0? 0!0 1? 1!* 1!0 1.1? 1.1!* 1.1!0 1.1!1"},
		{jumping(arenaOf(base(false, 1), arrow(base(false, 1), base(false, 2)))), "0? 0!* 0!0 1? 1!* 1!0 1.1? 1.1!* 1.1!0 1.1!1"},
		{arenaOf(base(false, 1), arrow(base(false, 1), base(true, 1)), plain(base(false, 1))), "0? 0!0 1? 1!* 1!0 1.1? 1.1=0 1.1!* 1.1!0 2? 2!0"},
		{example(), "0? 0!0 0!1 1? 1!* 1!0 1.1? 1.1!* 1.1!0 1.1!1 1.1!2 1.2? 1.2=0 1.2=1 1.2!* 1.2!0 1.2!1 2? 2=0 2=1 2!0 2!1"},
		{jumping(example()), "0? 0!* 0!0 0!1 1? 1!* 1!0 1.1? 1.1!* 1.1!0 1.1!1 1.1!2 1.2? 1.2=0 1.2=1 1.2!* 1.2!0 1.2!1 2? 2=0 2=1 2!* 2!0 2!1"},
	} {
		if l, e := arena.Moves(x.a); texts(l) != x.want || e != api.OK {
			t.Errorf("%v: %s, %v", x.a, texts(l), e)
		}
	}
}

// P4.2, R7: the greatest arena has all moves that there can be.
func TestGreatestMoves(t *testing.T) {
	// Of an int 64: one question, 64 answers and a jump; a cell has 64 questions more.
	integer, cell := 1+65, 1+64+65
	l, e := arena.Moves(jumping(greatest()))
	if want := cell + 8*(integer+3*cell+2*integer); len(l) != want || e != api.OK {
		t.Errorf("%d moves instead of %d, %v", len(l), want, e)
	}
	if last := l[len(l)-1]; last != (api.Move{Id: 8, Arg: 5, Kind: api.MoveTell, N: 63}) {
		t.Errorf("the last one is %v", last)
	}
}

// P4.2: Moves and Has say what the chapter says, of all moves, and of others.
func TestHas(t *testing.T) {
	for _, a := range arenas() {
		x := modelOf(a)
		if l, e := arena.Moves(a); !slices.Equal(l, x.moves) || e != api.OK {
			t.Errorf("%v: %s, %v instead of %s", a, texts(l), e, texts(x.moves))
		}
		hold := func(m api.Move) {
			if has, e := arena.Has(a, m); has != x.has(m) || e != api.OK {
				t.Errorf("%v: Has of %v: %v, %v", a, m, has, e)
			}
		}
		for m := range x.candidates {
			hold(m)
		}
		for _, m := range anyMoves() {
			hold(m)
		}
	}
}

// P4.3: whose moves are.
func TestIsOther(t *testing.T) {
	for s, want := range map[string]bool{
		"0?": true, "0!0": false, "0!1": false, "0!*": false,
		"1?": false, "1!0": true, "1!*": true,
		"1.1?": true, "1.1!0": false, "1.1!2": false, "1.1!*": false,
		"1.2?": true, "1.2=0": true, "1.2=1": true, "1.2!0": false, "1.2!*": false,
		"2?": false, "2=0": false, "2=1": false, "2!0": true, "2!1": true, "2!*": true,
	} {
		if is, e := arena.IsOther(jumping(example()), move(t, s)); is != want || e != api.OK {
			t.Errorf("%s: %v, %v", s, is, e)
		}
	}
	cell := arenaOf(base(true, 2))
	for s, want := range map[string]bool{"0?": true, "0=0": true, "0=1": true, "0!0": false, "0!1": false} {
		if is, e := arena.IsOther(cell, move(t, s)); is != want || e != api.OK {
			t.Errorf("of a cell %s: %v, %v", s, is, e)
		}
	}
}

// P4.4, P4.5: the answers of questions, and the questions that they allow.
func TestQuestions(t *testing.T) {
	inner := "1.1? 1.2? 1.2=0 1.2=1"
	outer := "1? 2? 2=0 2=1"
	for _, x := range []struct {
		a                 api.Arena
		m, answers, under string
	}{
		{example(), "0?", "0!0 0!1", outer},
		{example(), "1?", "1!* 1!0", inner},
		{example(), "1.1?", "1.1!* 1.1!0 1.1!1 1.1!2", outer},
		{example(), "1.2?", "1.2!* 1.2!0 1.2!1", outer},
		{example(), "1.2=0", "1.2!* 1.2!0", outer},
		{example(), "1.2=1", "1.2!* 1.2!0", outer},
		{example(), "2?", "2!0 2!1", ""},
		{example(), "2=0", "2!0", ""},
		{example(), "2=1", "2!0", ""},
		{jumping(example()), "0?", "0!* 0!0 0!1", outer},
		{jumping(example()), "1?", "1!* 1!0", inner},
		{jumping(example()), "1.2=1", "1.2!* 1.2!0", outer},
		{jumping(example()), "2?", "2!* 2!0 2!1", ""},
		{jumping(example()), "2=1", "2!* 2!0", ""},
		{arenaOf(base(true, 3)), "0?", "0!0 0!1 0!2", ""},
		{arenaOf(base(true, 3)), "0=2", "0!0", ""},
		{jumping(arenaOf(base(true, 3), plain(base(false, 1)))), "0=0", "0!* 0!0", "1?"},
		{arenaOf(base(true, 1)), "0?", "0!0", ""},
		{arenaOf(base(true, 1)), "0=0", "0!0", ""},
		// What one identifier asks is not for another one.
		{arenaOf(base(false, 1), arrow(base(false, 1), base(false, 1)), arrow(base(false, 1), base(true, 1))), "1?", "1!* 1!0", "1.1?"},
		{arenaOf(base(false, 1), arrow(base(false, 1), base(false, 1)), arrow(base(false, 1), base(true, 1))), "2?", "2!* 2!0", "2.1? 2.1=0"},
		{arenaOf(base(false, 1), arrow(base(false, 1), base(false, 1)), arrow(base(false, 1), base(true, 1))), "2.1=0", "2.1!* 2.1!0", "1? 2?"},
	} {
		if l, e := arena.Answers(x.a, move(t, x.m)); texts(l) != x.answers || e != api.OK {
			t.Errorf("%v: Answers of %s: %s, %v", x.a, x.m, texts(l), e)
		}
		if l, e := arena.Under(x.a, move(t, x.m)); texts(l) != x.under || e != api.OK {
			t.Errorf("%v: Under of %s: %s, %v", x.a, x.m, texts(l), e)
		}
	}
}

// P4.3 to P4.5, R1, R2: all functions of moves say what the chapter says; a move that is none of the arena's is ErrNone, also if it would be an answer.
func TestMovesOfArenas(t *testing.T) {
	for _, a := range arenas() {
		x := modelOf(a)
		for m := range x.candidates {
			holdMove(t, a, x, m)
		}
	}
}

// P4.3 to P4.5: moves with any numbers and kinds.
func TestAnyMoves(t *testing.T) {
	for _, a := range []api.Arena{example(), greatest(), jumping(greatest()), arenaOf(base(true, 1))} {
		x := modelOf(a)
		for _, m := range anyMoves() {
			holdMove(t, a, x, m)
		}
	}
}

// holdMove holds what is told of a move against what the chapter says.
func holdMove(t *testing.T, a api.Arena, x model, m api.Move) {
	t.Helper()
	var other bool
	var answers, under []api.Move
	e, f := x.errorOf(m, false), x.errorOf(m, true)
	if e == api.OK {
		other = x.isOther(m)
	}
	if f == api.OK {
		answers, under = x.answers(m), x.under(m)
	}
	if is, g := arena.IsOther(a, m); is != other || g != e {
		t.Errorf("%v: IsOther of %v: %v, %v", a, m, is, g)
	}
	if l, g := arena.Answers(a, m); !slices.Equal(l, answers) || g != f {
		t.Errorf("%v: Answers of %v: %v, %v", a, m, l, g)
	}
	if l, g := arena.Under(a, m); !slices.Equal(l, under) || g != f {
		t.Errorf("%v: Under of %v: %v, %v", a, m, l, g)
	}
}
