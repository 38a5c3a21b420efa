package arena_test

import (
	"slices"
	"testing"

	"riposte/api"
	"riposte/arena"
)

// P4.6: the base types of places, and what is no place.
func TestPlace(t *testing.T) {
	for _, x := range []struct {
		id, arg int
		want    api.Base
		e       api.Errno
	}{
		{0, 0, base(false, 2), api.OK},
		{1, 0, base(false, 1), api.OK},
		{1, 1, base(false, 3), api.OK},
		{1, 2, base(true, 2), api.OK},
		{2, 0, base(true, 2), api.OK},
		{0, 1, api.Base{}, api.ErrNone},
		{0, -1, api.Base{}, api.ErrNone},
		{1, 3, api.Base{}, api.ErrNone},
		{1, -1, api.Base{}, api.ErrNone},
		{2, 1, api.Base{}, api.ErrNone},
		{3, 0, api.Base{}, api.ErrNone},
		{3, 1, api.Base{}, api.ErrNone},
		{-1, 0, api.Base{}, api.ErrNone},
		{-1, 1, api.Base{}, api.ErrNone},
		{1<<63 - 1, 0, api.Base{}, api.ErrNone},
		{-1 << 63, 0, api.Base{}, api.ErrNone},
		{1, 1<<63 - 1, api.Base{}, api.ErrNone},
		{1, -1 << 63, api.Base{}, api.ErrNone},
	} {
		if b, e := arena.Place(example(), x.id, x.arg); b != x.want || e != x.e {
			t.Errorf("%d, %d: %v, %v", x.id, x.arg, b, e)
		}
	}
}

// P4.6: all places of arenas.
func TestPlaces(t *testing.T) {
	for _, a := range arenas() {
		l := spots(a)
		for id := -1; id <= 10; id++ {
			for arg := -1; arg <= 7; arg++ {
				s, ok := l[[2]int{id, arg}]
				want := api.OK
				if !ok {
					want = api.ErrNone
				}
				if b, e := arena.Place(a, id, arg); b != s.base || e != want {
					t.Errorf("%v: %d, %d: %v, %v", a, id, arg, b, e)
				}
			}
		}
	}
}

// P4.6: what stands for an identifier has an arena.
func TestInner(t *testing.T) {
	com, cell := base(false, 1), base(true, 2)
	for _, x := range []struct {
		a    api.Arena
		id   int
		want api.Arena
		e    api.Errno
	}{
		{example(), 1, jumping(arenaOf(com, plain(base(false, 3)), plain(cell))), api.OK},
		{example(), 2, arenaOf(cell), api.OK},
		{jumping(example()), 1, jumping(arenaOf(com, plain(base(false, 3)), plain(cell))), api.OK},
		{jumping(example()), 2, jumping(arenaOf(cell)), api.OK},
		{arenaOf(cell, plain(com)), 1, arenaOf(com), api.OK},
		{example(), 0, api.Arena{}, api.ErrNone},
		{example(), -1, api.Arena{}, api.ErrNone},
		{example(), 3, api.Arena{}, api.ErrNone},
		{example(), 1<<63 - 1, api.Arena{}, api.ErrNone},
		{example(), -1 << 63, api.Arena{}, api.ErrNone},
		{jumping(arenaOf(com)), 0, api.Arena{}, api.ErrNone},
		{jumping(arenaOf(com)), 1, api.Arena{}, api.ErrNone},
		{greatest(), 9, api.Arena{}, api.ErrNone},
	} {
		if a, e := arena.Inner(x.a, x.id); !same(a, x.want) || e != x.e {
			t.Errorf("%v: %d: %v, %v", x.a, x.id, a, e)
		}
	}
	a, e := arena.Inner(greatest(), 8)
	if len(a.Ids) != 5 || a.Ids[4].Result != base(true, 64) || a.Root != base(false, 64) || !a.Jumps || e != api.OK {
		t.Errorf("the greatest: %v, %v", a, e)
	}
}

// P4.6: arenas with further types behind their identifiers.
func TestAdd(t *testing.T) {
	com, cell := base(false, 1), base(true, 2)
	coms := func(n int) []api.Type { return slices.Repeat([]api.Type{plain(com)}, n) }
	for _, x := range []struct {
		a    api.Arena
		l    []api.Type
		want api.Arena
		e    api.Errno
	}{
		{example(), nil, example(), api.OK},
		{example(), []api.Type{}, example(), api.OK},
		{arenaOf(com), nil, arenaOf(com), api.OK},
		{arenaOf(com), []api.Type{plain(cell)}, arenaOf(com, plain(cell)), api.OK},
		{jumping(arenaOf(cell, plain(com))), []api.Type{arrow(com, cell), plain(cell)}, jumping(arenaOf(cell, plain(com), arrow(com, cell), plain(cell))), api.OK},
		{arenaOf(com, arrow(com, cell)), []api.Type{arrow(com, com, com)}, arenaOf(com, arrow(com, cell), arrow(com, com, com)), api.OK},
		{arenaOf(com), coms(8), arenaOf(com, coms(8)...), api.OK},
		{arenaOf(com, coms(7)...), coms(1), arenaOf(com, coms(8)...), api.OK},
		{greatest(), nil, greatest(), api.OK},
		{arenaOf(com), greatest().Ids, arenaOf(com, greatest().Ids...), api.OK},
		{greatest(), coms(1), api.Arena{}, api.ErrLimit},
		{arenaOf(com), coms(9), api.Arena{}, api.ErrLimit},
		{arenaOf(com, coms(4)...), coms(5), api.Arena{}, api.ErrLimit},
		{arenaOf(com, coms(8)...), []api.Type{{}}, api.Arena{}, api.ErrLimit},
		{example(), []api.Type{arrow(com, slices.Repeat([]api.Base{com}, 6)...)}, api.Arena{}, api.ErrLimit},
		{example(), []api.Type{{}, arrow(com, slices.Repeat([]api.Base{com}, 6)...)}, api.Arena{}, api.ErrLimit},
		{example(), []api.Type{{}}, api.Arena{}, api.ErrForm},
		{example(), []api.Type{plain(com), plain(base(false, 65))}, api.Arena{}, api.ErrForm},
		{example(), []api.Type{arrow(cell, com)}, api.Arena{}, api.ErrForm},
		{example(), []api.Type{arrow(com, com, base(true, 0))}, api.Arena{}, api.ErrForm},
	} {
		if a, e := arena.Add(x.a, x.l); !same(a, x.want) || e != x.e {
			t.Errorf("%v, %v: %v, %v", x.a, x.l, a, e)
		}
	}
}

// P4.6: the types of an arena are added one after the other as well as all at once.
func TestAddAll(t *testing.T) {
	for _, a := range arenas() {
		b := api.Arena{Root: a.Root, Jumps: a.Jumps}
		for _, x := range a.Ids {
			c, e := arena.Add(b, []api.Type{x})
			if e != api.OK {
				t.Fatalf("%v, %v: %v", b, x, e)
			}
			b = c
		}
		if !same(a, b) {
			t.Errorf("%v instead of %v", b, a)
		}
		for n := range len(a.Ids) + 1 {
			some := api.Arena{Ids: a.Ids[:n], Root: a.Root, Jumps: a.Jumps}
			if b, e := arena.Add(some, a.Ids[n:]); !same(a, b) || e != api.OK {
				t.Errorf("%v instead of %v, %v", b, a, e)
			}
		}
	}
}
