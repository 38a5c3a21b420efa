package run_test

import (
	"slices"
	"testing"

	"riposte/api"
	"riposte/run"
)

// P6.1: moves that cannot come are odd, the other one's and the program's, and where nobody moves any more; At is their number.
func TestOddMoves(t *testing.T) {
	const choosy = "import i:int 2; export m():int 3=if i then(choose 0 else 1)else 2;"
	for _, x := range []struct {
		s, word   string
		picks     []int
		at, steps int
	}{
		// What the other one cannot say.
		{plus, "1?", nil, 0, 0}, {plus, "0!0", nil, 0, 0}, {plus, "0=0", nil, 0, 0}, {plus, "9?", nil, 0, 0}, {plus, "0? 1? 1!3", nil, 2, 2}, {plus, "0? 1? 1!*", nil, 2, 2}, {plus, "0? 1? 1.1?", nil, 2, 2}, {plus, "0? 1? 0!0", nil, 2, 2}, {plus, "0? 1? 1?", nil, 2, 2},
		{plus, "^0? 1? 1!* 0!0", nil, 3, 2}, {leaps, "0? 1? 1!*", nil, 2, 2}, {leaps, "0? 1? 1.2?", nil, 2, 2}, {leaps, "0? 1? 1.1=0", nil, 2, 2}, {leaps, "0? 1? 2?", nil, 2, 2},
		{leaps, "0? 1? 1.1? 1.1!* 1!0", nil, 4, 3}, {leaps, "0? 1? 1.1? 1.1!* 1.1?", nil, 4, 3}, {cells, "0? 1? 1.1=2", nil, 2, 3}, {cells, "0? 1? 1.1=1 1.1!0 0?", nil, 4, 3},
		// What the program does not say.
		{plus, "0? 0!0", nil, 1, 2}, {plus, "0? 1=0", nil, 1, 2}, {plus, "0? 1? 1!2 0!1", nil, 3, 3}, {plus, "0? 1? 1!2 1?", nil, 3, 3}, {plus, "0? 1? 1!2 0!*", nil, 3, 3}, {leaps, "0? 1? 1.1? 1.1!0", nil, 3, 3}, {cells, "0? 1? 1.1? 1.1!1", nil, 3, 3},
		{cells, "0? 1? 1.1? 1? 1!0", nil, 3, 3}, {choosy, "0? 1? 1!1 0!1", nil, 3, 4}, {choosy, "0? 1? 1!1 0!0", []int{1}, 3, 4}, {choosy, "0? 1? 1!1 0!2", []int{1}, 3, 4},
		// What comes behind the end.
		{plus, "0? 1? 1!2 0!0 0?", nil, 4, 3}, {plus, "0? 1? 1!2 0!0 0!0", nil, 4, 3}, {plus, "^0? 1? 1!* 0!* 0!*", nil, 4, 2}, {"export m():com=hang;", "0? 0!0", nil, 1, 1}, {picky, "0? 0!0", []int{1, 1, 1}, 1, 7},
		// Whatever comes behind an odd move.
		{plus, "0? 1? 1!3 0!0 0? 0?", nil, 2, 2}, {plus, "0? 0!0 1!7 1? 1!2 0!0", nil, 1, 2}, {plus, "1? 0? 1? 1!2 0!0", nil, 0, 0},
	} {
		y := said(t, x.s, x.word, x.picks...)
		r := resultOf(t, y)
		if r.e != api.OK || r.turn.State != api.StateOdd || r.turn.At != x.at || r.turn.Steps != x.steps || len(r.turn.Moves) > 0 || len(r.from) != x.at {
			t.Errorf("%s, %s with %v: %v", x.s, x.word, x.picks, r)
		}
	}
}

// R8: moves of any numbers and kinds are odd, at the other one's turn and at the program's.
func TestStrangeMoves(t *testing.T) {
	const least, most = -1 << 63, 1<<63 - 1
	for _, s := range []string{"", "0?", "0? 1?", "0? 1? 1.1?", "0? 1? 1.1? 1.1!*", "0? 1? 1!0", "0? 1? 1!0 0!0"} {
		for _, m := range []api.Move{{}, {Kind: 4}, {Kind: 255, N: 1}, {Id: least, Arg: least, Kind: 3, N: least}, {Id: most, Arg: most, Kind: 3, N: most}, {Id: 1, Kind: 1, N: 1}, {Id: 1, Arg: -1, Kind: 1}, {Id: 1, Arg: 1, Kind: 3, N: -2}, {Id: -1, Kind: 1}, {Arg: 1, Kind: 1}, {Arg: 1, Kind: 3}} {
			x := said(t, leaps, s)
			at := len(x.Word)
			x.Word = append(x.Word, m, m)
			if u, e := run.Next(x); e != api.OK || u.State != api.StateOdd || u.At != at || len(u.Moves) > 0 {
				t.Errorf("%s and %v: %v, %v", s, m, u, e)
			}
		}
	}
}

// P6.1, R7: a conversation has MaxWord moves, and a word with more has an error.
func TestLongWords(t *testing.T) {
	x := said(t, "import i:bool; export m():com=while i do skip;", "0?")
	round := word(t, "1? 1!1")
	for len(x.Word) < api.MaxWord-1 {
		says(t, x, asks("1?", len(x.Word)+1))
		x.Word = append(x.Word, round...)
	}
	says(t, x, asks("1?", api.MaxWord))
	done := x
	done.Word = append(slices.Clone(x.Word[:api.MaxWord-2]), word(t, "1!0")...)
	says(t, done, over("0!0", api.MaxWord-2))
	done.Word = append(done.Word, word(t, "0!0")...)
	says(t, done, over("", api.MaxWord-2))
	x.Word = append(x.Word, round...)[:api.MaxWord]
	says(t, x, asks("", api.MaxWord))
	x.Word = append(x.Word, word(t, "1!0")...)
	if r := resultOf(t, x); !sameResult(r, result{e: api.ErrLimit}) {
		t.Errorf("%d moves: %v", len(x.Word), r)
	}
}
