package arena_test

import (
	"fmt"
	"regexp"
	"slices"
	"strconv"
	"strings"
	"testing"

	"riposte/api"
	"riposte/arena"
)

// base returns a base type.
func base(cell bool, n int) api.Base { return api.Base{Cell: cell, N: n} }

// plain returns a type without params.
func plain(b api.Base) api.Type { return api.Type{Result: b} }

// arrow returns a type with params.
func arrow(result api.Base, params ...api.Base) api.Type {
	return api.Type{Params: params, Result: result}
}

// arenaOf returns an arena without jumps.
func arenaOf(root api.Base, ids ...api.Type) api.Arena { return api.Arena{Ids: ids, Root: root} }

// jumping returns an arena in which the other one may jump.
func jumping(a api.Arena) api.Arena {
	a.Jumps = true
	return a
}

// example is the arena of the chapter's examples.
func example() api.Arena {
	return arenaOf(base(false, 2), arrow(base(false, 1), base(false, 3), base(true, 2)), plain(base(true, 2)))
}

// greatest is an arena that reaches all limits.
func greatest() api.Arena {
	great := arrow(base(false, 64), base(true, 64), base(false, 64), base(true, 64), base(false, 64), base(true, 64))
	return arenaOf(base(true, 64), slices.Repeat([]api.Type{great}, 8)...)
}

// dice are numbers that look random and are the same in each run.
type dice uint64

func (d *dice) below(n int) int {
	*d = *d*6364136223846793005 + 1442695040888963407
	return int(uint64(*d)>>33) % n
}

// pick returns one of some values.
func pick[T any](d *dice, l ...T) T { return l[d.below(len(l))] }

func (d *dice) base() api.Base { return base(d.below(3) == 0, pick(d, 1, 1, 2, 2, 3, 5)) }

func (d *dice) typ() api.Type {
	x := plain(d.base())
	for range d.below(6) * d.below(2) {
		x.Params = append(x.Params, d.base())
		x.Result.Cell = false
	}
	return x
}

func (d *dice) arena() api.Arena {
	a := api.Arena{Root: d.base(), Jumps: d.below(2) == 0}
	for range d.below(9) {
		a.Ids = append(a.Ids, d.typ())
	}
	return a
}

// arenas returns small arenas, and the greatest ones.
func arenas() []api.Arena {
	l := []api.Arena{
		arenaOf(base(false, 1)),
		arenaOf(base(true, 1)),
		arenaOf(base(false, 64)),
		arenaOf(base(true, 3), plain(base(false, 2)), plain(base(true, 3))),
		arenaOf(base(false, 2), arrow(base(false, 1), base(true, 1))),
		arenaOf(base(false, 2), plain(base(false, 2)), arrow(base(false, 1), base(false, 2)), plain(base(false, 2))),
		example(),
		greatest(),
	}
	for _, a := range slices.Clone(l) {
		l = append(l, jumping(a))
	}
	d := dice(4)
	for range 60 {
		l = append(l, d.arena())
	}
	return l
}

// sameType tells whether two types are the same.
func sameType(a, b api.Type) bool { return slices.Equal(a.Params, b.Params) && a.Result == b.Result }

// same tells whether two arenas are the same.
func same(a, b api.Arena) bool {
	return slices.EqualFunc(a.Ids, b.Ids, sameType) && a.Root == b.Root && a.Jumps == b.Jumps
}

// wrong is something that is not right, and its error.
type wrong[T any] struct {
	x T
	e api.Errno
}

// wrongArenas returns arenas that are not right, with their errors.
func wrongArenas() []wrong[api.Arena] {
	bit := base(false, 2)
	long := arrow(bit, slices.Repeat([]api.Base{bit}, 6)...)
	cellResult := arrow(base(true, 2), bit)
	var l []wrong[api.Arena]
	add := func(e api.Errno, root api.Base, ids ...api.Type) {
		l = append(l, wrong[api.Arena]{arenaOf(root, ids...), e}, wrong[api.Arena]{jumping(arenaOf(root, ids...)), e})
	}
	for _, n := range []int{0, -1, 65, 1 << 40, -1 << 63, 1<<63 - 1} {
		for _, cell := range []bool{false, true} {
			b := base(cell, n)
			add(api.ErrForm, b)
			add(api.ErrForm, b, plain(bit))
			add(api.ErrForm, bit, plain(b))
			add(api.ErrForm, bit, plain(bit), plain(b), plain(bit))
			add(api.ErrForm, bit, slices.Concat(slices.Repeat([]api.Type{plain(bit)}, 7), []api.Type{plain(b)})...)
			add(api.ErrForm, bit, arrow(bit, b))
			add(api.ErrForm, bit, arrow(bit, bit, b, bit))
			add(api.ErrForm, bit, arrow(bit, bit, bit, bit, bit, b))
			add(api.ErrForm, bit, arrow(b, bit))
			add(api.ErrLimit, b, long)
			add(api.ErrLimit, bit, plain(b), long)
			add(api.ErrLimit, bit, long, plain(b))
			add(api.ErrLimit, bit, arrow(b, long.Params...))
			add(api.ErrLimit, b, slices.Repeat([]api.Type{plain(b)}, 9)...)
		}
	}
	add(api.ErrForm, bit, cellResult)
	add(api.ErrForm, bit, plain(bit), cellResult)
	add(api.ErrForm, bit, arrow(base(true, 2), bit, bit, bit, bit, bit))
	add(api.ErrLimit, bit, long)
	add(api.ErrLimit, bit, slices.Concat(slices.Repeat([]api.Type{plain(bit)}, 7), []api.Type{long})...)
	add(api.ErrLimit, bit, cellResult, long)
	add(api.ErrLimit, bit, arrow(base(true, 2), long.Params...))
	add(api.ErrLimit, bit, arrow(bit, slices.Repeat([]api.Base{bit}, 1000)...))
	add(api.ErrLimit, bit, slices.Repeat([]api.Type{plain(bit)}, 9)...)
	add(api.ErrLimit, bit, slices.Repeat([]api.Type{cellResult}, 9)...)
	add(api.ErrLimit, api.Base{}, make([]api.Type, 1000)...)
	return l
}

// movePattern is the form of the text of a move: the number of the identifier, that of its parameter, the sign, and the value.
var movePattern = regexp.MustCompile(`^(0|[1-9][0-9]*)(?:\.([1-9][0-9]*))?(?:(\?)|(=)(0|[1-9][0-9]*)|(!)(\*|0|[1-9][0-9]*))$`)

// said returns the move with a text, and whether there is one, in another way than the program.
func said(s string) (api.Move, bool) {
	l := movePattern.FindStringSubmatch(s)
	if l == nil {
		return api.Move{}, false
	}
	var m api.Move
	ok := true
	number := func(s string) int {
		if s == "" {
			return 0
		}
		n, err := strconv.ParseInt(s, 10, 64)
		ok = ok && err == nil
		return int(n)
	}
	m.Id, m.Arg = number(l[1]), number(l[2])
	switch l[3] + l[4] + l[6] {
	case "?":
		m.Kind = api.MoveAsk
	case "=":
		m.Kind, m.N = api.MovePut, number(l[5])
	case "!":
		m.Kind, m.N = api.MoveTell, api.Esc
		if l[7] != "*" {
			m.N = number(l[7])
		}
	}
	if !ok {
		return api.Move{}, false
	}
	return m, true
}

// move returns the move with a text, which must be one.
func move(t *testing.T, s string) api.Move {
	t.Helper()
	m, ok := said(s)
	if !ok {
		t.Fatalf("%q is no move", s)
	}
	return m
}

// moves returns the moves with some texts, with blanks between.
func moves(t *testing.T, s string) []api.Move {
	t.Helper()
	var l []api.Move
	for _, x := range strings.Fields(s) {
		l = append(l, move(t, x))
	}
	return l
}

// moveText returns the text of a move that has one.
func moveText(m api.Move) string {
	at := strconv.Itoa(m.Id)
	if m.Arg > 0 {
		at = fmt.Sprintf("%d.%d", m.Id, m.Arg)
	}
	switch {
	case m.Kind == api.MoveAsk:
		return at + "?"
	case m.Kind == api.MovePut:
		return fmt.Sprintf("%s=%d", at, m.N)
	case m.N < 0:
		return at + "!*"
	}
	return fmt.Sprintf("%s!%d", at, m.N)
}

// texts returns the texts of moves that have some, with blanks between.
func texts(l []api.Move) string {
	var all []string
	for _, m := range l {
		all = append(all, moveText(m))
	}
	return strings.Join(all, " ")
}

// show returns the text of an arena that must be right.
func show(t *testing.T, a api.Arena) string {
	t.Helper()
	s, e := arena.Show(a)
	if e != api.OK {
		t.Fatalf("Show of %v: %v", a, e)
	}
	return s
}
