package arena_test

import (
	"slices"
	"testing"

	"riposte/api"
	"riposte/arena"
)

// told is what is told of a move of an arena.
type told struct {
	api.Move
	other          bool
	answers, under []api.Move
}

func (x told) isQuestion() bool { return x.Kind != api.MoveTell }

func (x told) isAt(y told) bool { return x.Id == y.Id && x.Arg == y.Arg }

// all returns what is told of all moves of an arena.
func all(t *testing.T, a api.Arena) map[api.Move]told {
	t.Helper()
	l, e := arena.Moves(a)
	if e != api.OK {
		t.Fatalf("%v: %v", a, e)
	}
	m := map[api.Move]told{}
	for _, x := range l {
		y := told{Move: x}
		var e, f, g api.Errno
		y.other, e = arena.IsOther(a, x)
		if y.isQuestion() {
			y.answers, f = arena.Answers(a, x)
			y.under, g = arena.Under(a, x)
		}
		if e != api.OK || f != api.OK || g != api.OK {
			t.Fatalf("%v: %v: %v, %v, %v", a, x, e, f, g)
		}
		m[x] = y
	}
	return m
}

// P4.10: the answers of a question are those of the side that did not ask; so are the questions that it allows.
func TestTwoSides(t *testing.T) {
	for _, a := range arenas() {
		l := all(t, a)
		sides := map[bool]int{}
		for _, x := range l {
			sides[x.other]++
			for _, m := range slices.Concat(x.answers, x.under) {
				y, ok := l[m]
				if !ok || y.other == x.other {
					t.Errorf("%v: %v and %v", a, x.Move, m)
				}
			}
		}
		if sides[true] == 0 || sides[false] == 0 || sides[true]+sides[false] != len(l) {
			t.Errorf("%v: %v", a, sides)
		}
	}
}

// P4.11: the moves are the questions of all places and their answers; each answer is one of a question of the same place.
func TestAll(t *testing.T) {
	for _, a := range arenas() {
		l := all(t, a)
		answered := map[api.Move]bool{}
		asked := map[[2]int]bool{}
		for _, x := range l {
			if x.isQuestion() {
				asked[[2]int{x.Id, x.Arg}] = true
			}
			for _, m := range x.answers {
				if y := l[m]; y.isQuestion() || !y.isAt(x) {
					t.Errorf("%v: %v is answered by %v", a, x.Move, m)
				}
				answered[m] = true
			}
			for _, m := range x.under {
				if !l[m].isQuestion() {
					t.Errorf("%v: %v allows %v", a, x.Move, m)
				}
			}
		}
		for _, x := range l {
			if !x.isQuestion() && !answered[x.Move] {
				t.Errorf("%v: %v answers nothing", a, x.Move)
			}
		}
		for at := range spots(a) {
			if _, e := arena.Place(a, at[0], at[1]); !asked[at] || e != api.OK {
				t.Errorf("%v: %v is never asked: %v", a, at, e)
			}
		}
		if len(asked) != len(spots(a)) {
			t.Errorf("%v: %d places are asked", a, len(asked))
		}
	}
}

// P4.11: each question is allowed by one, but those of the term itself.
func TestAllAreAllowed(t *testing.T) {
	for _, a := range arenas() {
		l := all(t, a)
		allowed := map[api.Move]bool{}
		for _, x := range l {
			for _, m := range x.under {
				allowed[m] = true
			}
		}
		for m, x := range l {
			if x.isQuestion() && allowed[m] != (m.Id > 0) {
				t.Errorf("%v: %v", a, m)
			}
		}
	}
}

// P4.2, P4.4, P4.5: what is returned ascends, so that each move comes once.
func TestAscending(t *testing.T) {
	ascends := func(l []api.Move) bool {
		for i := range l {
			if i > 0 && !arena.Less(l[i-1], l[i]) {
				return false
			}
		}
		return true
	}
	for _, a := range arenas() {
		l, e := arena.Moves(a)
		if !ascends(l) || e != api.OK {
			t.Errorf("%v: %v, %v", a, l, e)
		}
		for m, x := range all(t, a) {
			if !ascends(x.answers) || !ascends(x.under) {
				t.Errorf("%v: %v: %v, %v", a, m, x.answers, x.under)
			}
		}
	}
}

// P4.12: of two different moves just one comes before the other one, and what comes before something comes before all behind this.
func TestOrder(t *testing.T) {
	l := anyMoves()
	d := dice(12)
	for range 200000 {
		a, b, c := pick(&d, l...), pick(&d, l...), pick(&d, l...)
		ab, ba, bc, ac := arena.Less(a, b), arena.Less(b, a), arena.Less(b, c), arena.Less(a, c)
		if a == b && ab || a != b && ab == ba || ab && bc && !ac || arena.Less(a, a) {
			t.Fatalf("%v, %v, %v: %v, %v, %v, %v", a, b, c, ab, ba, bc, ac)
		}
	}
}

// P4.13: the moves of Inner of an identifier are those of this, with the sides changed.
func TestInside(t *testing.T) {
	for _, a := range arenas() {
		l := all(t, a)
		for id := 1; id <= len(a.Ids); id++ {
			b, e := arena.Inner(a, id)
			if e != api.OK {
				t.Fatalf("%v: Inner of %d: %v", a, id, e)
			}
			inner := all(t, b)
			many := 0
			for m, x := range l {
				if m.Id != id {
					continue
				}
				many++
				m.Id, m.Arg = m.Arg, 0
				y, ok := inner[m]
				if !ok || y.other == x.other {
					t.Errorf("%v: %v is %v, %v inside %v", a, x.Move, m, y.other, b)
				}
				if len(y.answers) != len(x.answers) {
					t.Errorf("%v: the answers of %v are %v inside", a, x.Move, y.answers)
				}
			}
			if many != len(inner) {
				t.Errorf("%v: %d has %d moves, and %d inside", a, id, many, len(inner))
			}
		}
	}
}

// P4.14: there and back; without the last byte a text is that of another one, or of none.
func TestMovesThereAndBack(t *testing.T) {
	l := anyMoves()
	for _, a := range arenas() {
		m, _ := arena.Moves(a)
		l = append(l, m...)
	}
	for _, m := range l {
		s, e := arena.Text(m)
		if e != api.OK {
			continue
		}
		if n, e := arena.Parse(s); n != m || e != api.OK {
			t.Errorf("%v: %q, %v, %v", m, s, n, e)
		}
		n, e := arena.Parse(s[:len(s)-1])
		if u, f := arena.Text(n); n == m || e == api.OK && (u != s[:len(s)-1] || f != api.OK) {
			t.Errorf("%q without the last byte: %v, %v", s, n, e)
		}
	}
}

// P4.14: the same of arenas.
func TestArenasThereAndBack(t *testing.T) {
	for _, a := range arenas() {
		s := show(t, a)
		if b, e := arena.Read(s); !same(a, b) || e != api.OK {
			t.Errorf("%v: %q, %v, %v", a, s, b, e)
		}
		for n := range len(s) {
			b, e := arena.Read(s[:n])
			if e == api.OK && (same(a, b) || show(t, b) != s[:n]) || e != api.OK && isArenaText(s[:n]) {
				t.Errorf("%q: %v, %v", s[:n], b, e)
			}
		}
	}
}
