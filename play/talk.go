package play

import (
	"riposte/api"
	"riposte/arena"
)

// none is the partner, or the justifier, of a move that has none, and the top where no question is open.
const none = -1

// stack is the open questions of a word, by their numbers, and how many there were at most.
type stack struct {
	open  []int
	depth int
}

// talk is a legal word in an arena: its moves, which are its own, with their partners and justifiers, and whether it is lost.
type talk struct {
	api.Arena
	stack
	moves                api.Word
	partners, justifiers []int
	lost                 bool
}

// top returns the last open question.
func (s *stack) top() int {
	if len(s.open) == 0 {
		return none
	}
	return s.open[len(s.open)-1]
}

// push opens a question.
func (s *stack) push(n int) {
	s.open = append(s.open, n)
	s.depth = max(s.depth, len(s.open))
}

// pop takes the last open question away.
func (s *stack) pop() int {
	n := s.top()
	s.open = s.open[:len(s.open)-1]
	return n
}

// follow returns the longest beginning of a word that is legal.
func follow(a api.Arena, w api.Word) (*talk, api.Errno) {
	if e := arena.Check(a); e != api.OK {
		return nil, e
	}
	if len(w) > api.MaxWord {
		return nil, api.ErrLimit
	}
	t := &talk{Arena: a}
	for _, m := range w {
		if has, _ := arena.Has(a, m); !has || !t.canCome(m) {
			break
		}
		t.add(m)
	}
	return t, api.OK
}

// tell returns what is told of a word that must be legal.
func tell[T any](a api.Arena, w api.Word, what func(*talk) (T, api.Errno)) (T, api.Errno) {
	t, e := follow(a, w)
	if e == api.OK && len(t.moves) < len(w) {
		e = api.ErrOdd
	}
	if e != api.OK {
		var zero T
		return zero, e
	}
	return what(t)
}

// always returns what can be told of any legal word, as something that has no error.
func always[T any](what func(*talk) T) func(*talk) (T, api.Errno) {
	return func(t *talk) (T, api.Errno) { return what(t), api.OK }
}

// add adds a move that can come.
func (t *talk) add(m api.Move) {
	n := len(t.moves)
	t.lost = t.lost || isIdentifier(m) && m.N == api.Esc && !t.isForced(n)
	t.justifiers = append(t.justifiers, t.justifier(m))
	t.moves = append(t.moves, m)
	if isQuestion(m) {
		t.partners = append(t.partners, none)
		t.push(n)
		return
	}
	q := t.pop()
	t.partners[q] = n
	t.partners = append(t.partners, q)
}

// justifier returns the justifier of a move that can come.
func (t *talk) justifier(m api.Move) int {
	if isQuestion(m) && isIdentifier(m) {
		return 0
	}
	return t.top()
}

// stand returns where a word stands.
func (t *talk) stand() api.Stand {
	return api.Stand{Turn: t.turn(), Open: t.open, Forced: t.isForced(len(t.moves)), Lost: t.lost}
}

// turn returns whose turn it is.
func (t *talk) turn() uint8 {
	switch {
	case len(t.moves) == 0:
		return api.TurnOther
	case t.top() == none:
		return api.TurnOver
	case isIdentifier(t.moves[t.top()]):
		return api.TurnOther
	}
	return api.TurnProgram
}

// next returns the moves that can come, ascending.
func (t *talk) next() []api.Move {
	// The arena is right, and its moves ascend.
	all, _ := arena.Moves(t.Arena)
	return those(all, t.canCome)
}

// part returns the moves of some identifiers.
func (t *talk) part(ids []int) api.Word {
	is := map[int]bool{}
	for _, id := range ids {
		is[id] = true
	}
	return those(t.moves, func(m api.Move) bool { return is[m.Id] })
}

// closed returns the word with the simplest answers behind it, up to a complete one.
func (t *talk) closed() (api.Word, api.Errno) {
	if len(t.moves) == 0 {
		t.add(api.Move{Kind: api.MoveAsk})
	}
	if len(t.moves)+len(t.open) > api.MaxWord {
		return nil, api.ErrLimit
	}
	for t.top() != none {
		t.add(answer(t.moves[t.top()], t.simplest()))
	}
	return t.moves, api.OK
}
