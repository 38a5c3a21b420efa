package play_test

import (
	"slices"
	"strings"
	"testing"

	"riposte/api"
	"riposte/arena"
	"riposte/play"
)

const (
	// plain is the arena of the chapter's examples, jumps the same with jumps.
	plain = "int 2; (int 3, cell 2) -> int 1; cell 2"
	jumps = plain + "; jumps"
	// said is the word of the chapter's examples.
	said = "0? 1? 1.1? 2? 2!1 1.1!2 1.2=1 1.2!0 1!0"
	// nested asks identifiers within identifiers, jumped has two jumps that are caught, and lost is over by one that is not.
	nested = "0? 1? 1.1? 1? 1.2? 1.2!1 1!0 1.1!0 1.1? 1.1!1 1!0 0!1"
	jumped = "0? 2? 2!1 1? 1.1? 2=0 2!0 1.1!* 1!* 1? 1.2=1 1? 1.1? 1.1!* 1!* 1.2!0 1.1? 1.1!* 1!* 0!1"
	lost   = "0? 2? 2!1 1? 1.1? 1? 1.2=1 2? 2!* 1.2!* 1!* 1.1!* 1!* 0!*"
)

// read returns the arena with a text.
func read(t *testing.T, s string) api.Arena {
	t.Helper()
	a, e := arena.Read(s)
	if e != api.OK {
		t.Fatalf("%q is no arena", s)
	}
	return a
}

// word returns the word with a text, in another way than the program.
func word(t *testing.T, s string) api.Word {
	t.Helper()
	var w api.Word
	for _, x := range strings.Fields(s) {
		m, e := arena.Parse(x)
		if e != api.OK {
			t.Fatalf("%q is no move", x)
		}
		w = append(w, m)
	}
	return w
}

// text returns the text of a word, in another way than the program.
func text(w []api.Move) string {
	var s string
	for i, m := range w {
		if i > 0 {
			s += " "
		}
		x, e := arena.Text(m)
		if e != api.OK {
			x = "none"
		}
		s += x
	}
	return s
}

// many returns a word with another one so often behind it that it has some number of moves.
func many(t *testing.T, first, again string, length int) api.Word {
	t.Helper()
	w := word(t, first)
	for len(w) < length {
		w = append(w, word(t, again)...)
	}
	return w[:length]
}

// dice are numbers that look random and are the same in each run.
type dice uint64

func (d *dice) below(n int) int {
	*d = *d*6364136223846793005 + 1442695040888963407
	return int(uint64(*d)>>33) % n
}

// pick returns one of some values.
func pick[T any](d *dice, l ...T) T { return l[d.below(len(l))] }

// arenaTexts are arenas without jumps.
func arenaTexts() []string {
	return []string{
		"int 1", "cell 2", "int 2; int 2", "int 1; cell 1", "cell 1; int 1; int 1",
		"int 1; (int 1) -> int 1", "int 1; (cell 1) -> int 1", "int 2; (int 1) -> int 2; (cell 2) -> int 1",
		"cell 2; (int 2, int 1) -> int 2; cell 3; (cell 2) -> int 1", plain,
		"int 2; (int 1, int 2, cell 1, cell 2, int 3) -> int 2; int 1; int 2; cell 2; (int 2) -> int 1; (cell 2) -> int 1; int 3; (int 1, int 1) -> int 2",
	}
}

// arenas returns arenas of all sorts.
func arenas(t *testing.T) []api.Arena {
	t.Helper()
	var l []api.Arena
	for _, s := range arenaTexts() {
		l = append(l, read(t, s), read(t, s+"; jumps"))
	}
	return l
}

// talks are an arena, the model of it, and words that are legal in it.
type talks struct {
	model
	words []api.Word
}

// conversations returns arenas with words: all short ones, and long ones.
func conversations(t *testing.T) []talks {
	t.Helper()
	var l []talks
	d := dice(5)
	for _, a := range arenas(t) {
		x := modelOf(t, a)
		words := x.short(300)
		for range 12 {
			words = append(words, x.walk(&d, d.below(40)))
		}
		l = append(l, talks{x, words})
	}
	return l
}

// short returns the shortest words, at least some number if there are so many.
func (x model) short(least int) []api.Word {
	l := []api.Word{nil}
	for i := 0; i < len(l) && len(l) < least; i++ {
		for _, m := range x.next(l[i]) {
			l = append(l, slices.Concat(l[i], api.Word{m}))
		}
	}
	return l
}

// walk returns a word of at most some number of moves, that is less often over, and less often lost, than if each next move was as likely.
func (x model) walk(d *dice, length int) api.Word {
	var w api.Word
	for len(w) < length {
		l := x.next(w)
		if len(l) == 0 {
			break
		}
		m := pick(d, l...)
		if d.below(4) > 0 && (m.Id == 0 || m.N == api.Esc) {
			m = pick(d, l...)
		}
		w = append(w, m)
	}
	return w
}

// legal returns a word that must be legal.
func legal(t *testing.T, a api.Arena, s string) api.Word {
	t.Helper()
	w := word(t, s)
	if at, e := play.Check(a, w); at != 0 || e != api.OK {
		t.Fatalf("%s: %d, %v", s, at, e)
	}
	return w
}

// results calls all functions with an arena and a word, and returns what they return, and their errors.
func results(a api.Arena, w api.Word, ids []int) ([]any, []api.Errno) {
	var l []any
	var errors []api.Errno
	add := func(x any, e api.Errno) {
		l, errors = append(l, x), append(errors, e)
	}
	stand, e := play.Stand(a, w)
	add(stand, e)
	next, e := play.Next(a, w)
	add(api.Word(next), e)
	partners, e := play.Partners(a, w)
	add(partners, e)
	justifiers, e := play.Justifiers(a, w)
	add(justifiers, e)
	view, e := play.View(a, w)
	add(view, e)
	sight, e := play.Sight(a, w)
	add(sight, e)
	part, e := play.Part(a, w, ids)
	add(part, e)
	depth, e := play.Depth(a, w)
	add(depth, e)
	closed, e := play.Close(a, w)
	add(closed, e)
	cut, e := play.Cut(a, w)
	add(cut, e)
	return l, errors
}

// The places of the functions in what results returns, for which not all is alike.
const (
	ofView, ofSight  = 4, 5
	ofClose, ofCut   = 8, 9
	functionsOfWords = 10
)

// sameStand tells whether two stands are the same.
func sameStand(a, b api.Stand) bool {
	return a.Turn == b.Turn && slices.Equal(a.Open, b.Open) && a.Forced == b.Forced && a.Lost == b.Lost
}

// sameResult tells whether two results are the same.
func sameResult(a, b any) bool {
	switch x := a.(type) {
	case api.Stand:
		return sameStand(x, b.(api.Stand))
	case []int:
		return slices.Equal(x, b.([]int))
	case api.Word:
		return slices.Equal(x, b.(api.Word))
	}
	return a == b
}

// isZero tells whether a result is a zero value, or a list without elements.
func isZero(x any) bool {
	switch x := x.(type) {
	case api.Stand:
		return sameStand(x, api.Stand{})
	case []int:
		return len(x) == 0
	case api.Word:
		return len(x) == 0
	}
	return x == 0
}
