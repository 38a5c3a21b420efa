package arena_test

import (
	"slices"
	"testing"

	"riposte/api"
	"riposte/arena"
)

// P4.1: arenas that are right, each limit reached.
func TestRightArenas(t *testing.T) {
	bit, cell := base(false, 2), base(true, 2)
	l := append(arenas(),
		arenaOf(base(false, 1)), arenaOf(base(false, api.MaxSize)), arenaOf(base(true, 1)), arenaOf(base(true, api.MaxSize)),
		arenaOf(bit, plain(base(false, 1)), plain(base(false, api.MaxSize)), plain(base(true, 1)), plain(base(true, api.MaxSize))),
		arenaOf(bit, arrow(base(false, 1), base(false, 1), base(true, 1)), arrow(base(false, api.MaxSize), base(false, api.MaxSize), base(true, api.MaxSize))),
		arenaOf(cell, plain(cell), arrow(bit, cell, cell, cell, cell, cell)),
		arenaOf(bit, slices.Repeat([]api.Type{plain(cell)}, api.MaxIds)...),
		arenaOf(bit, slices.Repeat([]api.Type{arrow(bit, slices.Repeat([]api.Base{bit}, api.MaxParams)...)}, api.MaxIds)...))
	for _, a := range l {
		for _, a := range []api.Arena{a, jumping(a)} {
			if e := arena.Check(a); e != api.OK {
				t.Errorf("%v: %v", a, e)
			}
		}
	}
}

// P4.1: arenas that are not right, each limit passed; too many come before all else that is wrong.
func TestWrongArenas(t *testing.T) {
	for _, x := range wrongArenas() {
		if e := arena.Check(x.x); e != x.e {
			t.Errorf("%v: %v instead of %v", x.x, e, x.e)
		}
	}
	if e := arena.Check(api.Arena{}); e != api.ErrForm {
		t.Errorf("no arena: %v", e)
	}
}

// P4.1: each base of the greatest arena counts.
func TestEachBase(t *testing.T) {
	for i := range 8 {
		for j := range 6 {
			for _, n := range []int{0, 1, 64, 65} {
				a := greatest()
				a.Ids = slices.Clone(a.Ids)
				params := slices.Clone(a.Ids[i].Params)
				if j == 0 {
					a.Ids[i].Result.N = n
				} else {
					params[j-1].N = n
				}
				a.Ids[i].Params = params
				want := api.OK
				if n < 1 || n > 64 {
					want = api.ErrForm
				}
				if e := arena.Check(a); e != want {
					t.Errorf("%d at %d, %d: %v", n, i+1, j, e)
				}
			}
		}
	}
}
