package play

import (
	"slices"

	"riposte/api"
	"riposte/arena"
)

// view returns the program's view.
func (t *talk) view() ([]int, api.Errno) { return t.viewBehind(true) }

// sight returns the other one's view.
func (t *talk) sight() ([]int, api.Errno) { return t.viewBehind(false) }

// viewBehind returns the view of the side that moves behind the other one, or behind the program.
func (t *talk) viewBehind(other bool) ([]int, api.Errno) {
	if !t.endsWith(other) {
		return nil, api.ErrState
	}
	l := slices.Collect(t.seen)
	slices.Reverse(l)
	return l, api.OK
}

// endsWith tells whether the last move is the other one's, or the program's.
func (t *talk) endsWith(other bool) bool {
	if len(t.moves) == 0 {
		return false
	}
	is, _ := arena.IsOther(t.Arena, t.moves[len(t.moves)-1])
	return is == other
}

// seen yields the moves of the view at the end of a word, the last one first. Both sides' views are pairs of moves, each of one of the side's own and what came of it; the program's has one more in front, that begins the word.
func (t *talk) seen(yield func(int) bool) {
	for n := len(t.moves) - 1; n >= 0; n-- {
		if !yield(n) {
			return
		}
		n = t.before(n)
		if n == none || !yield(n) {
			return
		}
	}
}

// before returns the move in front of another one in the views that end with this.
func (t *talk) before(n int) int {
	if t.isForced(n) {
		return n - 1
	}
	return t.justifiers[n]
}
