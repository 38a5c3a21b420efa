package run

import (
	"riposte/api"
	"riposte/play"
)

// other is the node from which moves of the other one come.
const other = -1

// execution is a program that follows a word: where it stands, from which nodes the moves came, and the cells of all NewNodes that are being evaluated.
type execution struct {
	*program
	api.Turn
	word   api.Word
	legal  int // with how many moves the word is legal
	picks  []int
	from   []int
	cells  []api.CellSeen
	labels int // how many LabelNodes have been evaluated
	e      api.Errno
}

// executed executes the program of a session along its word.
func executed(x api.Session) (*execution, api.Errno) {
	p, e := programOf(x)
	if e != api.OK {
		return nil, e
	}
	return p.follow(x.Word, x.Picks)
}

// follow executes a program along a word.
func (p *program) follow(w api.Word, picks []int) (*execution, api.Errno) {
	legal, _ := play.Cut(p.arena, w)
	x := &execution{program: p, word: w, legal: len(legal), picks: picks}
	x.converse()
	if x.e != api.OK {
		return nil, x.e
	}
	return x, api.OK
}

// converse is all of a conversation, as long as it goes on: the other one asks the export, which tells what comes of its term.
func (x *execution) converse() {
	q, ok := x.hear()
	if !ok {
		return
	}
	term := spot{execution: x, n: x.term}
	if end := term.evaluate(); end.how != stopped && x.say(end.answer(q), x.term) {
		x.rest(api.StateOver)
	}
}

// rest lets a conversation stand where nobody moves, in a state; if the word has a move there, that is odd.
func (x *execution) rest(state uint8) {
	if x.At < len(x.word) {
		state = api.StateOdd
	}
	x.State = state
}

// hear returns the next move of the other one, and whether there is one that can come.
func (x *execution) hear() (api.Move, bool) {
	if x.At == x.legal {
		x.rest(api.StateAsks)
		return api.Move{}, false
	}
	m := x.word[x.At]
	x.pass(other)
	return m, true
}

// say makes a move of the program, which comes from a node, and tells whether the word goes on with it.
func (x *execution) say(m api.Move, node int) bool {
	switch {
	case x.At == len(x.word):
		x.Moves = api.Word{m}
		x.from = append(x.from, node)
		x.rest(stateBehind(m))
		return false
	case x.word[x.At] != m:
		x.rest(api.StateOdd)
		return false
	}
	x.pass(node)
	return true
}

// stateBehind returns the state of a word that ends with a move of the program.
func stateBehind(m api.Move) uint8 {
	if m.Id == 0 {
		return api.StateOver
	}
	return api.StateAsks
}

// pass goes past a move of the word, which comes from a node.
func (x *execution) pass(node int) {
	x.from = append(x.from, node)
	x.At++
}

// pick takes the next pick.
func (x *execution) pick() int {
	n := x.Picks
	x.Picks++
	if n < len(x.picks) {
		return x.picks[n]
	}
	return 0
}
