package play_test

import (
	"slices"
	"testing"

	"riposte/api"
	"riposte/arena"
	"riposte/play"
)

// at asks play for something that must be there.
func at[T any](t *testing.T, of func(api.Arena, api.Word) (T, api.Errno), a api.Arena, w api.Word) T {
	t.Helper()
	x, e := of(a, w)
	if e != api.OK {
		t.Fatalf("%v: %s: %v", a, text(w), e)
	}
	return x
}

// isOther tells whether a move is the other one's.
func isOther(t *testing.T, a api.Arena, m api.Move) bool {
	t.Helper()
	is, e := arena.IsOther(a, m)
	if e != api.OK {
		t.Fatalf("%v: %v: %v", a, m, e)
	}
	return is
}

// P5.10: the other one begins, and both move by turns; whose the next moves are is the one whose turn it is.
func TestByTurns(t *testing.T) {
	for _, x := range conversations(t) {
		for _, w := range x.words {
			for n, m := range w {
				if isOther(t, x.Arena, m) != (n%2 == 0) {
					t.Fatalf("%v: %s: the move %d", x.Arena, text(w), n)
				}
			}
			turn := at(t, play.Stand, x.Arena, w).Turn
			next := at(t, play.Next, x.Arena, w)
			for _, m := range next {
				if turn != api.TurnOther && isOther(t, x.Arena, m) || turn != api.TurnProgram && !isOther(t, x.Arena, m) {
					t.Fatalf("%v: %s: turn %d and %v", x.Arena, text(w), turn, m)
				}
			}
			if (turn == api.TurnOver) != (len(next) == 0) {
				t.Fatalf("%v: %s: turn %d, %d moves", x.Arena, text(w), turn, len(next))
			}
		}
	}
}

// P5.11: each beginning of a legal word is legal; a word is legal just if each of its moves is among the next ones of the word before it.
func TestBeginnings(t *testing.T) {
	d := dice(11)
	odd := 0
	for _, x := range conversations(t) {
		for _, w := range x.words {
			for n := range w {
				if _, e := play.Check(x.Arena, w[:n]); e != api.OK {
					t.Fatalf("%v: %s up to %d: %v", x.Arena, text(w), n, e)
				}
			}
			v := changed(&d, w, x.all)
			n := 0
			for n < len(v) && slices.Contains(at(t, play.Next, x.Arena, v[:n]), v[n]) {
				n++
			}
			if _, e := play.Check(x.Arena, v); (e == api.OK) != (n == len(v)) {
				t.Fatalf("%v: %s: %v, but %d moves are among the next ones", x.Arena, text(v), e, n)
			}
			if n < len(v) {
				odd++
			}
		}
	}
	if odd < 1000 {
		t.Errorf("only %d words that are not legal", odd)
	}
}

// P5.12: partners are of the same place, one asks and the other one answers, and between them all moves have their partners between them; a word is complete just if no question is open, and it is not empty.
func TestBrackets(t *testing.T) {
	for _, x := range conversations(t) {
		for _, w := range x.words {
			l := at(t, play.Partners, x.Arena, w)
			stand := at(t, play.Stand, x.Arena, w)
			var open []int
			for n, p := range l {
				if p < 0 {
					open = append(open, n)
					continue
				}
				if l[p] != n || !isAt(w[n], w[p]) || isTell(w[n]) == isTell(w[p]) || isTell(w[n]) != (p < n) {
					t.Fatalf("%v: %s: %d and %d", x.Arena, text(w), n, p)
				}
				for k := min(n, p) + 1; k < max(n, p); k++ {
					if l[k] <= min(n, p) || l[k] >= max(n, p) {
						t.Fatalf("%v: %s: %d between %d and %d", x.Arena, text(w), k, n, p)
					}
				}
			}
			if !slices.Equal(open, stand.Open) || (stand.Turn == api.TurnOver) != (len(open) == 0 && len(w) > 0) {
				t.Fatalf("%v: %s: %v", x.Arena, text(w), stand)
			}
		}
	}
}

// part returns some moves of a word.
func part(w api.Word, l []int) api.Word {
	var some api.Word
	for _, n := range l {
		some = append(some, w[n])
	}
	return some
}

// numbers returns the numbers from 0 to one less than a number.
func numbers(end int) []int {
	var l []int
	for n := range end {
		l = append(l, n)
	}
	return l
}

// P5.13: a view has the first move and the last one, goes by turns, and has the justifier of each move of the program in it; it is a legal word, and its view is all of it.
func TestViewsAreWords(t *testing.T) {
	for _, x := range conversations(t) {
		for _, w := range x.words {
			if len(w)%2 == 0 {
				continue
			}
			v := at(t, play.View, x.Arena, w)
			just := at(t, play.Justifiers, x.Arena, w)
			if v[0] != 0 || v[len(v)-1] != len(w)-1 || !slices.IsSorted(v) {
				t.Fatalf("%v: %s: %v", x.Arena, text(w), v)
			}
			for i, n := range v {
				if isOther(t, x.Arena, w[n]) != (i%2 == 0) || i%2 == 1 && !slices.Contains(v[:i], just[n]) {
					t.Fatalf("%v: %s: %d in %v", x.Arena, text(w), n, v)
				}
			}
			u := part(w, v)
			if all := at(t, play.View, x.Arena, u); !slices.Equal(all, numbers(len(u))) {
				t.Fatalf("%v: %s has the view %s, and this has %v", x.Arena, text(w), text(u), all)
			}
		}
	}
}

// P5.14: from its first unforced Esc of the other one on a word has nothing but Esc, and can be completed in one way alone; without jumps no word is lost.
func TestLostWords(t *testing.T) {
	lostWords := 0
	for _, x := range conversations(t) {
		for _, w := range x.words {
			stand := at(t, play.Stand, x.Arena, w)
			from := lostAt(w)
			if stand.Lost != (from >= 0) || stand.Lost && !x.Jumps {
				t.Fatalf("%v: %s: %v", x.Arena, text(w), stand)
			}
			if !stand.Lost {
				continue
			}
			lostWords++
			for next := at(t, play.Next, x.Arena, w); len(next) > 0; next = at(t, play.Next, x.Arena, w) {
				if len(next) > 1 {
					t.Fatalf("%v: %s: %s", x.Arena, text(w), text(next))
				}
				w = slices.Concat(w, next)
			}
			if slices.ContainsFunc(w[from:], func(m api.Move) bool { return !isEsc(m) }) || at(t, play.Stand, x.Arena, w).Turn != api.TurnOver {
				t.Fatalf("%v: %s", x.Arena, text(w))
			}
		}
	}
	if lostWords < 200 {
		t.Errorf("only %d lost words", lostWords)
	}
}

// P5.15: the close is complete, and begins with the word; each open question is answered in it, the top first.
func TestClosing(t *testing.T) {
	for _, x := range conversations(t) {
		for _, w := range x.words {
			c := at(t, play.Close, x.Arena, w)
			if at(t, play.Stand, x.Arena, c).Turn != api.TurnOver || !slices.Equal(c[:len(w)], w) {
				t.Fatalf("%v: %s: %s", x.Arena, text(w), text(c))
			}
			partners := at(t, play.Partners, x.Arena, c)
			open := at(t, play.Stand, x.Arena, w).Open
			if len(w) == 0 {
				open = []int{0}
			}
			for i, q := range open {
				if partners[q] != len(c)-1-i {
					t.Fatalf("%v: %s: %d is answered by %d", x.Arena, text(c), q, partners[q])
				}
			}
		}
	}
}

// P5.16: the word with the text of a word is this word.
func TestThereAndBack(t *testing.T) {
	for _, x := range conversations(t) {
		for _, w := range x.words {
			s, e := play.Text(w)
			v, f := play.Parse(s)
			if s != text(w) || !slices.Equal(v, w) || e != api.OK || f != api.OK {
				t.Fatalf("%s: %q, %v; %v, %v", text(w), s, e, v, f)
			}
		}
	}
}
