package run_test

import (
	"slices"
	"testing"

	"riposte/api"
	"riposte/arena"
	"riposte/run"
)

// resultOf calls all functions that say something of a session alone.
func resultOf(t *testing.T, x api.Session) result {
	t.Helper()
	u, e := run.Next(x)
	l, f := run.From(x)
	c, g := run.Store(x)
	if f != e || g != e {
		t.Fatalf("%s: after %s: errors %v, %v, %v", program(x), text(x.Word), e, f, g)
	}
	return result{u, l, c, e}
}

// sameResult tells whether two results are the same.
func sameResult(a, b result) bool {
	return sameTurn(a.turn, b.turn) && slices.Equal(a.from, b.from) && slices.Equal(a.store, b.store) && a.e == b.e
}

// looksLikeModel holds what is said of a session against the model.
func looksLikeModel(t *testing.T, x api.Session) result {
	t.Helper()
	got, want := resultOf(t, x), modelOf(x)
	if !sameResult(got, want) {
		t.Fatalf("%s: after %s with %v, %v:\n%v instead of\n%v", program(x), text(x.Word), x.Picks, x.Jumps, got, want)
	}
	return got
}

// P6.1, P6.4, P6.5: programs say what the model says, whatever is said to them, and whatever they pick.
func TestLikeModel(t *testing.T) {
	states := map[uint8]int{}
	sessions(t, 61, 75, func(d *dice, x api.Session) {
		r := looksLikeModel(t, x)
		states[r.turn.State]++
	})
	for s := api.StateAsks; s <= api.StateHangs; s++ {
		if states[s] < 4 {
			t.Errorf("state %d: %d times", s, states[s])
		}
	}
}

// changed returns a word with one move changed, one more, or one less.
func changed(d *dice, w api.Word, all []api.Move) api.Word {
	n := d.below(len(w) + 1)
	m := pick(d, all...)
	if d.below(9) == 0 {
		m = api.Move{Id: d.below(4) - 1, Arg: d.below(4) - 1, Kind: uint8(d.below(6)), N: d.below(5) - 2}
	}
	return slices.Concat(w[:n], []api.Move{m}[:d.below(2)], w[min(len(w), n+d.below(2)):])
}

// P6.1, R8: moves that cannot come are odd where the model says so, whatever they are.
func TestOddLikeModel(t *testing.T) {
	odd := 0
	sessions(t, 62, 30, func(d *dice, x api.Session) {
		a, _ := run.Arena(x)
		all, e := arena.Moves(a)
		if e != api.OK {
			t.Fatalf("%s: Moves: %v", program(x), e)
		}
		for range 2 {
			y := x
			y.Word = changed(d, x.Word, all)
			if r := looksLikeModel(t, y); r.turn.State == api.StateOdd {
				odd++
			}
		}
	})
	if odd < 200 {
		t.Errorf("%d words are odd", odd)
	}
}
