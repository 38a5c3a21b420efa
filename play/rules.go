package play

import "riposte/api"

// isQuestion tells whether a move is a question.
func isQuestion(m api.Move) bool { return m.Kind != api.MoveTell }

// isIdentifier tells whether the place of a move is that of an identifier.
func isIdentifier(m api.Move) bool { return m.Id > 0 && m.Arg == 0 }

// answer returns the answer of a question with a value.
func answer(q api.Move, n int) api.Move {
	return api.Move{Id: q.Id, Arg: q.Arg, Kind: api.MoveTell, N: n}
}

// isAnswer tells whether a move of the arena is an answer of a question.
func isAnswer(m, q api.Move) bool {
	return m == answer(q, m.N) && (q.Kind == api.MoveAsk || m.N <= 0)
}

// isUnder tells whether a question of the arena is allowed by another one.
func isUnder(m, q api.Move) bool {
	if isIdentifier(q) {
		return m.Id == q.Id && m.Arg > 0
	}
	return isIdentifier(m)
}

// those returns the moves of which something is so.
func those(l []api.Move, is func(api.Move) bool) []api.Move {
	var some []api.Move
	for _, m := range l {
		if is(m) {
			some = append(some, m)
		}
	}
	return some
}

// canCome tells whether a move of the arena can come next.
func (t *talk) canCome(m api.Move) bool {
	if t.top() == none {
		return len(t.moves) == 0 && isQuestion(m) && m.Id == 0
	}
	q := t.moves[t.top()]
	switch {
	case t.isBound():
		return m == answer(q, api.Esc)
	case isQuestion(m):
		return isUnder(m, q)
	}
	return isAnswer(m, q) && (m.N != api.Esc || t.mayEsc(q))
}

// isBound tells whether nothing but Esc can come.
func (t *talk) isBound() bool { return t.lost || t.isForced(len(t.moves)) }

// mayEsc tells whether who answers the top may do so with Esc, if there is more that can come.
func (t *talk) mayEsc(top api.Move) bool {
	return top.Arg > 0 || isIdentifier(top) && t.Jumps
}

// simplest returns the value of the simplest answer of the top.
func (t *talk) simplest() int {
	if t.isBound() {
		return api.Esc
	}
	return 0
}

// isForced tells whether the move with a number is forced, or will be.
func (t *talk) isForced(n int) bool {
	return n > 0 && t.moves[n-1].Arg > 0 && t.moves[n-1].N == api.Esc
}
