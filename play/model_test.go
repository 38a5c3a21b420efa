package play_test

import (
	"slices"
	"testing"

	"riposte/api"
	"riposte/arena"
)

// model says of words in an arena what the chapter says, from the start for each word.
type model struct {
	api.Arena
	all []api.Move
}

func modelOf(t *testing.T, a api.Arena) model {
	t.Helper()
	l, e := arena.Moves(a)
	if e != api.OK {
		t.Fatalf("%v: %v", a, e)
	}
	return model{a, l}
}

func isTell(m api.Move) bool { return m.Kind == api.MoveTell }

func isEsc(m api.Move) bool { return isTell(m) && m.N == -1 }

func isAt(a, b api.Move) bool { return a.Id == b.Id && a.Arg == b.Arg }

// partnersOf returns the partner of each move: of an answer the last question without one.
func partnersOf(w api.Word) []int {
	l := slices.Repeat([]int{-1}, len(w))
	for n, m := range w {
		for q := n - 1; q >= 0 && isTell(m); q-- {
			if !isTell(w[q]) && l[q] < 0 {
				l[q], l[n] = n, q
				break
			}
		}
	}
	return l
}

// openOf returns the open questions.
func openOf(w api.Word) []int {
	var l []int
	for n, p := range partnersOf(w) {
		if p < 0 {
			l = append(l, n)
		}
	}
	return l
}

// topOf returns the last open question; there must be one.
func topOf(w api.Word) int {
	l := openOf(w)
	return l[len(l)-1]
}

// justifiersOf returns the justifier of each move.
func justifiersOf(w api.Word) []int {
	var l []int
	for n, m := range w {
		switch {
		case isTell(m):
			l = append(l, partnersOf(w)[n])
		case m.Id == 0:
			l = append(l, -1)
		case m.Arg == 0:
			l = append(l, 0)
		default:
			l = append(l, topOf(w[:n]))
		}
	}
	return l
}

// isForced tells whether what comes after a word is forced.
func isForced(w api.Word) bool {
	return len(w) > 0 && isEsc(w[len(w)-1]) && w[len(w)-1].Arg > 0
}

// lostAt returns the number of the move from which on a word is lost, or -1.
func lostAt(w api.Word) int {
	for n, m := range w {
		if isEsc(m) && m.Id > 0 && m.Arg == 0 && !isForced(w[:n]) {
			return n
		}
	}
	return -1
}

// can tells whether a move of the arena can come after a legal word.
func (x model) can(w api.Word, m api.Move) bool {
	if len(w) == 0 {
		return m.Id == 0 && !isTell(m)
	}
	if len(openOf(w)) == 0 {
		return false
	}
	top := w[topOf(w)]
	if isForced(w) || lostAt(w) >= 0 {
		return isEsc(m) && isAt(m, top)
	}
	answers, _ := arena.Answers(x.Arena, top)
	isAnswer := slices.Contains(answers, m)
	if top.Id > 0 && top.Arg == 0 {
		return isAnswer && (!isEsc(m) || x.Jumps) || !isTell(m) && m.Id == top.Id && m.Arg > 0
	}
	return isAnswer && (!isEsc(m) || top.Arg > 0) || !isTell(m) && m.Id > 0 && m.Arg == 0
}

// next returns the moves that can come after a legal word, ascending.
func (x model) next(w api.Word) []api.Move {
	var l []api.Move
	for _, m := range x.all {
		if x.can(w, m) {
			l = append(l, m)
		}
	}
	return l
}

// stand returns where a legal word stands.
func (x model) stand(w api.Word) api.Stand {
	s := api.Stand{Open: openOf(w), Forced: isForced(w), Lost: lostAt(w) >= 0}
	switch {
	case len(w) == 0:
		s.Turn = api.TurnOther
	case len(s.Open) == 0:
		s.Turn = api.TurnOver
	default:
		// By turns: where the number of moves is odd, the other one made one more.
		s.Turn = api.TurnProgram
		if len(w)%2 == 0 {
			s.Turn = api.TurnOther
		}
	}
	return s
}

// viewOf returns the view of a legal word that ends with a move of the other one.
func viewOf(w api.Word) []int {
	t := len(w) - 1
	m := w[t]
	q := justifiersOf(w)[t]
	switch {
	case !isTell(m) && m.Id == 0:
		return []int{t}
	case isEsc(m) && m.Arg == 0 && isForced(w[:t]):
		return append(viewOf(w[:t-1]), t-1, t)
	}
	return append(viewOf(w[:q]), q, t)
}

// sightOf returns the other one's view of a legal word that ends with a move of the program.
func sightOf(w api.Word) []int {
	t := len(w) - 1
	m := w[t]
	if isTell(m) && m.Arg > 0 {
		q := partnersOf(w)[t]
		return append(sightOf(w[:q]), q, t)
	}
	return []int{0, t}
}

// depthOf returns how many questions were open at most.
func depthOf(w api.Word) int {
	most := 0
	for n := range len(w) + 1 {
		most = max(most, len(openOf(w[:n])))
	}
	return most
}

// closeOf returns the close of a legal word.
func (x model) closeOf(w api.Word) api.Word {
	w = slices.Clone(w)
	if len(w) == 0 {
		w = api.Word{{Kind: api.MoveAsk}}
	}
	for len(openOf(w)) > 0 {
		w = append(w, x.simplest(w))
	}
	return w
}

// simplest returns the answer of the top with the smallest value that is no Esc, or Esc where nothing else can come.
func (x model) simplest(w api.Word) api.Move {
	var esc api.Move
	top := w[topOf(w)]
	for _, m := range x.next(w) {
		switch {
		case !isTell(m) || !isAt(m, top):
		case isEsc(m):
			esc = m
		default:
			return m
		}
	}
	return esc
}

// partOf returns the moves of some identifiers.
func partOf(w api.Word, ids []int) api.Word {
	var part api.Word
	for _, m := range w {
		if slices.Contains(ids, m.Id) {
			part = append(part, m)
		}
	}
	return part
}

// firstOdd returns the number of the first move that cannot come, or -1.
func (x model) firstOdd(w api.Word) int {
	for n, m := range w {
		if !slices.Contains(x.all, m) || !x.can(w[:n], m) {
			return n
		}
	}
	return -1
}

// strange returns moves of all sorts, those of the arena among them, and with numbers one less and one greater.
func (x model) strange() []api.Move {
	args, size := 0, x.Root.N
	for _, y := range x.Ids {
		args, size = max(args, len(y.Params)), max(size, y.Result.N)
		for _, b := range y.Params {
			size = max(size, b.N)
		}
	}
	l := []api.Move{{Id: -1 << 63, Arg: 1<<63 - 1, Kind: 255, N: -1 << 63}, {Kind: api.MoveTell, N: 1<<63 - 1}}
	for id := -1; id <= len(x.Ids)+1; id++ {
		for arg := -1; arg <= args+1; arg++ {
			for kind := range uint8(5) {
				for n := -2; n <= size; n++ {
					l = append(l, api.Move{Id: id, Arg: arg, Kind: kind, N: n})
				}
			}
		}
	}
	return l
}
