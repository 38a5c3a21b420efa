package arena_test

import (
	"slices"

	"riposte/api"
)

// spot is a place as the chapter says it: its base type, whether it is one of an identifier, and whether Esc is among its answers.
type spot struct {
	base            api.Base
	identifier, esc bool
}

// spots returns the places of an arena.
func spots(a api.Arena) map[[2]int]spot {
	m := map[[2]int]spot{{0, 0}: {a.Root, false, a.Jumps}}
	for i, x := range a.Ids {
		m[[2]int{i + 1, 0}] = spot{x.Result, true, a.Jumps || len(x.Params) > 0}
		for j, b := range x.Params {
			m[[2]int{i + 1, j + 1}] = spot{b, false, true}
		}
	}
	return m
}

// model says of an arena what the chapter says, by a look at each move that there could be.
type model struct {
	spots map[[2]int]spot
	moves []api.Move // ascending
}

func modelOf(a api.Arena) model {
	x := model{spots: spots(a)}
	for m := range x.candidates {
		if x.has(m) {
			x.moves = append(x.moves, m)
		}
	}
	slices.SortFunc(x.moves, compare)
	return x
}

// candidates yields all moves of the arena, and more: with each number one less and one greater than there are, too, and with kinds that there are not.
func (x model) candidates(yield func(api.Move) bool) {
	ids, args, size := 0, 0, 0
	for at, s := range x.spots {
		ids, args, size = max(ids, at[0]), max(args, at[1]), max(size, s.base.N)
	}
	for id := -1; id <= ids+1; id++ {
		for arg := -1; arg <= args+1; arg++ {
			for kind := range uint8(5) {
				for n := -2; n <= size+1; n++ {
					if !yield(api.Move{Id: id, Arg: arg, Kind: kind, N: n}) {
						return
					}
				}
			}
		}
	}
}

// compare orders moves.
func compare(a, b api.Move) int {
	return slices.Compare([]int{a.Id, a.Arg, int(a.Kind), a.N}, []int{b.Id, b.Arg, int(b.Kind), b.N})
}

func (x model) at(m api.Move) (spot, bool) {
	s, ok := x.spots[[2]int{m.Id, m.Arg}]
	return s, ok
}

func (x model) has(m api.Move) bool {
	s, ok := x.at(m)
	if !ok {
		return false
	}
	isValue := m.N >= 0 && m.N < s.base.N
	switch m.Kind {
	case api.MoveAsk:
		return m.N == 0
	case api.MovePut:
		return s.base.Cell && isValue
	case api.MoveTell:
		return isValue || m.N == -1 && s.esc
	}
	return false
}

func (x model) isOther(m api.Move) bool {
	s, _ := x.at(m)
	if m.Kind == api.MoveTell {
		return s.identifier
	}
	return !s.identifier
}

// those returns the moves of which something is so.
func (x model) those(is func(m api.Move) bool) []api.Move {
	var l []api.Move
	for _, m := range x.moves {
		if is(m) {
			l = append(l, m)
		}
	}
	return l
}

// answers returns the answers of a question.
func (x model) answers(q api.Move) []api.Move {
	return x.those(func(m api.Move) bool {
		return m.Kind == api.MoveTell && m.Id == q.Id && m.Arg == q.Arg && (q.Kind == api.MoveAsk || m.N <= 0)
	})
}

// under returns the questions that a question allows.
func (x model) under(q api.Move) []api.Move {
	s, _ := x.at(q)
	return x.those(func(m api.Move) bool {
		if m.Kind == api.MoveTell {
			return false
		}
		if s.identifier {
			return m.Id == q.Id && m.Arg != 0
		}
		return m.Id != 0 && m.Arg == 0
	})
}

// errorOf returns the error of a function that needs a move, or a question, of the arena.
func (x model) errorOf(m api.Move, question bool) api.Errno {
	switch {
	case !x.has(m):
		return api.ErrNone
	case question && m.Kind == api.MoveTell:
		return api.ErrArg
	}
	return api.OK
}

// anyMoves returns moves of all sorts, also such as are in no arena.
func anyMoves() []api.Move {
	var l []api.Move
	for _, id := range []int{-1 << 63, -1, 0, 1, 8, 10, 1<<63 - 1} {
		for _, arg := range []int{-1 << 63, -1, 0, 1, 5, 12, 1<<63 - 1} {
			for _, kind := range []uint8{0, 1, 2, 3, 4, 255} {
				for _, n := range []int{-1 << 63, -2, -1, 0, 1, 9, 10, 64, 1<<63 - 1} {
					l = append(l, api.Move{Id: id, Arg: arg, Kind: kind, N: n})
				}
			}
		}
	}
	return l
}

// hasText tells whether a move has a text.
func hasText(m api.Move) bool {
	if m.Id < 0 || m.Arg < 0 {
		return false
	}
	switch m.Kind {
	case api.MoveAsk:
		return m.N == 0
	case api.MovePut:
		return m.N >= 0
	case api.MoveTell:
		return m.N >= -1
	}
	return false
}
