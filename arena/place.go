package arena

import (
	"iter"
	"slices"

	"riposte/api"
)

// right is an arena that is right.
type right struct{ api.Arena }

// place is a place of an arena: its base type, its numbers, and whether its questions can be answered by a jump.
type place struct {
	api.Base
	id, arg int
	jumps   bool
}

// hasTooManyParams tells whether a type has more params than one may have.
func hasTooManyParams(x api.Type) bool { return len(x.Params) > api.MaxParams }

// isWrongBase tells whether a base type is not right.
func isWrongBase(b api.Base) bool { return b.N < 1 || b.N > api.MaxSize }

// isWrongType tells whether a type that has not too many params is not right.
func isWrongType(x api.Type) bool {
	return isWrongBase(x.Result) || slices.ContainsFunc(x.Params, isWrongBase) || x.Result.Cell && len(x.Params) > 0
}

// rightOf returns an arena that must be right.
func rightOf(a api.Arena) (right, api.Errno) {
	if e := Check(a); e != api.OK {
		return right{}, e
	}
	return right{a}, api.OK
}

// placeOf returns an arena that must be right, and the place of a move, which must be one of the arena's.
func placeOf(a api.Arena, m api.Move) (right, place, api.Errno) {
	r, e := rightOf(a)
	if e != api.OK {
		return right{}, place{}, e
	}
	p, ok := r.place(m.Id, m.Arg)
	if !ok || !p.has(m) {
		return right{}, place{}, api.ErrNone
	}
	return r, p, api.OK
}

// askedPlace returns an arena that must be right, and the place of a move, which must be a question of the arena.
func askedPlace(a api.Arena, m api.Move) (right, place, api.Errno) {
	r, p, e := placeOf(a, m)
	if e == api.OK && m.Kind == api.MoveTell {
		return right{}, place{}, api.ErrArg
	}
	return r, p, e
}

// place returns the place with two numbers, and whether there is one.
func (r right) place(id, arg int) (place, bool) {
	if id == 0 && arg == 0 {
		return place{r.Root, id, arg, r.Jumps}, true
	}
	if id < 1 || id > len(r.Ids) {
		return place{}, false
	}
	x := r.Ids[id-1]
	switch {
	case arg == 0:
		return place{x.Result, id, arg, r.Jumps || len(x.Params) > 0}, true
	case 1 <= arg && arg <= len(x.Params):
		return place{x.Params[arg-1], id, arg, true}, true
	}
	return place{}, false
}

// places yields all places of an arena, in the order of their moves.
func (r right) places(yield func(place) bool) {
	for id := range len(r.Ids) + 1 {
		p, ok := r.place(id, 0)
		for ok {
			if !yield(p) {
				return
			}
			p, ok = r.place(id, p.arg+1)
		}
	}
}

// placesThat yields the places of an arena of which something is so.
func (r right) placesThat(is func(place) bool) iter.Seq[place] {
	return func(yield func(place) bool) {
		for p := range r.places {
			if is(p) && !yield(p) {
				return
			}
		}
	}
}

// isIdentifier tells whether a place is that of an identifier.
func (p place) isIdentifier() bool { return p.id > 0 && p.arg == 0 }

// allowed returns what is so of the places whose questions are allowed by those of a place.
func (p place) allowed() func(place) bool {
	if !p.isIdentifier() {
		return place.isIdentifier
	}
	return func(q place) bool { return q.id == p.id && q.arg > 0 }
}

// ask returns the move that asks a place.
func (p place) ask() api.Move { return api.Move{Id: p.id, Arg: p.arg, Kind: api.MoveAsk} }

// put returns the move that puts a value to a place.
func (p place) put(n int) api.Move {
	return api.Move{Id: p.id, Arg: p.arg, Kind: api.MovePut, N: n}
}

// tell returns the move that tells a value at a place.
func (p place) tell(n int) api.Move {
	return api.Move{Id: p.id, Arg: p.arg, Kind: api.MoveTell, N: n}
}

// isValue tells whether a number is a value of a place.
func (p place) isValue(n int) bool { return 0 <= n && n < p.N }

// has tells whether a move is one of a place.
func (p place) has(m api.Move) bool {
	return m == p.ask() ||
		m == p.put(m.N) && p.Cell && p.isValue(m.N) ||
		m == p.tell(m.N) && (p.isValue(m.N) || p.jumps && m.N == api.Esc)
}

// questions yields the questions of a place, ascending.
func (p place) questions(yield func(api.Move) bool) {
	if !yield(p.ask()) || !p.Cell {
		return
	}
	for n := range p.N {
		if !yield(p.put(n)) {
			return
		}
	}
}

// answers yields the answers of the questions of a place, ascending. Those of a put are among those of an ask.
func (p place) answers(yield func(api.Move) bool) { p.tellBelow(p.N, yield) }

// putAnswers yields the answers of the puts to a place, ascending.
func (p place) putAnswers(yield func(api.Move) bool) { p.tellBelow(1, yield) }

// tellBelow yields the answers of a place whose values are less than a number, ascending.
func (p place) tellBelow(end int, yield func(api.Move) bool) {
	if p.jumps && !yield(p.tell(api.Esc)) {
		return
	}
	for n := range end {
		if !yield(p.tell(n)) {
			return
		}
	}
}

// moves yields all moves of a place, ascending.
func (p place) moves(yield func(api.Move) bool) {
	for m := range p.questions {
		if !yield(m) {
			return
		}
	}
	for m := range p.answers {
		if !yield(m) {
			return
		}
	}
}

// gather returns the list of all that is yielded of the elements of a row, one element after the other.
func gather[T, U any](row iter.Seq[T], of func(T, func(U) bool)) []U {
	var l []U
	for x := range row {
		of(x, func(y U) bool {
			l = append(l, y)
			return true
		})
	}
	return l
}

// listOf returns the list of what the elements of a list become.
func listOf[T, U any](l []T, of func(T) U) []U {
	var all []U
	for _, x := range l {
		all = append(all, of(x))
	}
	return all
}
