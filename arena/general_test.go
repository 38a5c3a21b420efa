package arena_test

import (
	"reflect"
	"slices"
	"testing"

	"riposte/api"
	"riposte/arena"
)

// results calls all functions with an arena, and returns what they return, and their errors.
func results(a api.Arena, m api.Move, id, arg int, types []api.Type) ([]any, []api.Errno) {
	var l []any
	var errors []api.Errno
	add := func(x any, e api.Errno) {
		l, errors = append(l, x), append(errors, e)
	}
	moves, e := arena.Moves(a)
	add(moves, e)
	has, e := arena.Has(a, m)
	add(has, e)
	other, e := arena.IsOther(a, m)
	add(other, e)
	answers, e := arena.Answers(a, m)
	add(answers, e)
	under, e := arena.Under(a, m)
	add(under, e)
	place, e := arena.Place(a, id, arg)
	add(place, e)
	inner, e := arena.Inner(a, id)
	add(inner, e)
	more, e := arena.Add(a, types)
	add(more, e)
	text, e := arena.Show(a)
	add(text, e)
	return l, errors
}

// isZero tells whether a result is a zero value, or has only lists without elements.
func isZero(x any) bool {
	switch x := x.(type) {
	case []api.Move:
		return len(x) == 0
	case api.Arena:
		return same(x, api.Arena{})
	}
	return reflect.ValueOf(x).IsZero()
}

// P1, R1, R2, R8: the errors of an arena come in front of all others, in all functions, with zero values.
func TestErrorsOfArenas(t *testing.T) {
	for _, x := range wrongArenas() {
		for _, m := range []api.Move{{}, {Kind: api.MoveAsk}, {Kind: api.MoveTell}, {Id: 1, Kind: api.MoveAsk}, {Id: -1 << 63, Arg: 1<<63 - 1, Kind: 255, N: -1}} {
			l, errors := results(x.x, m, m.Id, m.Arg, nil)
			for i := range l {
				if errors[i] != x.e || !isZero(l[i]) {
					t.Errorf("%v: function %d of %v: %v, %v", x.x, i, m, l[i], errors[i])
				}
			}
		}
		// Types that cannot be added do not matter, if there is no limit that they pass.
		if a, e := arena.Add(x.x, []api.Type{{}}); len(x.x.Ids) < 8 && (e != x.e || !isZero(a)) {
			t.Errorf("%v: Add: %v, %v", x.x, a, e)
		}
	}
}

// R2: with an error all results are zero values.
func TestZeroWithErrors(t *testing.T) {
	for _, a := range []api.Arena{example(), jumping(example()), jumping(arenaOf(base(true, 1))), arenaOf(base(false, 64), plain(base(true, 2)))} {
		for _, m := range anyMoves() {
			l, errors := results(a, m, m.Id, m.Arg, []api.Type{{}})
			for i := range l {
				if errors[i] != api.OK && !isZero(l[i]) {
					t.Fatalf("%v: function %d of %v: %v, %v", a, i, m, l[i], errors[i])
				}
			}
		}
	}
}

// R3: nil lists and empty lists are the same.
func TestNilAndEmpty(t *testing.T) {
	com := base(false, 1)
	none := api.Arena{Ids: []api.Type{}, Root: com}
	empty := arenaOf(com, api.Type{Params: []api.Base{}, Result: base(true, 2)})
	for _, x := range [][2]api.Arena{{none, arenaOf(com)}, {empty, arenaOf(com, plain(base(true, 2)))}} {
		for _, m := range moves(t, "0? 0!0 0!* 1? 1=1 1!0 1!* 1.1?") {
			l, e := results(x[0], m, m.Id, m.Arg, nil)
			k, f := results(x[1], m, m.Id, m.Arg, []api.Type{})
			if !slices.Equal(e, f) {
				t.Errorf("%v: %v: %v, %v", x, m, e, f)
			}
			for i := range l {
				if !sameResult(l[i], k[i]) {
					t.Errorf("%v: function %d of %v: %v, %v", x, i, m, l[i], k[i])
				}
			}
		}
		if e := arena.Check(x[0]); e != api.OK {
			t.Errorf("%v: %v", x[0], e)
		}
	}
}

// sameResult tells whether two results are the same.
func sameResult(a, b any) bool {
	switch x := a.(type) {
	case []api.Move:
		return slices.Equal(x, b.([]api.Move))
	case api.Arena:
		return same(x, b.(api.Arena))
	}
	return a == b
}

// roomy returns an arena with the same value, whose lists have spare room with something in it, and all types that lie in this memory.
func roomy(a api.Arena) (api.Arena, []api.Type) {
	all := slices.Concat(a.Ids, []api.Type{arrow(base(true, -7), base(false, 77))})
	for i := range all {
		params := slices.Concat(all[i].Params, []api.Base{base(true, -1), base(false, 99)})
		all[i].Params = params[:len(params)-2]
	}
	a.Ids = all[:len(all)-1]
	return a, all
}

// snapshot returns all that types have, with what lies behind the ends of their params.
func snapshot(l []api.Type) []api.Type {
	l = slices.Clone(l)
	for i := range l {
		l[i].Params = slices.Clone(l[i].Params[:cap(l[i].Params)])
	}
	return l
}

// P2, R4: results are equal for equal arguments, which stay as they are, with their spare room; what is written into results changes nothing.
func TestNothingIsShared(t *testing.T) {
	for _, a := range arenas() {
		b, all := roomy(a)
		was := snapshot(all)
		for _, m := range moves(t, "0? 0!0 1? 1!* 1.1? 1.2=1 2? 3?") {
			types, more := roomy(arenaOf(base(false, 1), arrow(base(false, 2), base(true, 3), base(false, 1)), plain(base(true, 1))))
			wasMore := snapshot(more)
			want, wantE := results(a, m, m.Id, m.Arg, types.Ids)
			got, e := results(b, m, m.Id, m.Arg, types.Ids)
			for i := range got {
				if !sameResult(got[i], want[i]) || e[i] != wantE[i] {
					t.Fatalf("%v: function %d of %v: %v, %v instead of %v, %v", a, i, m, got[i], e[i], want[i], wantE[i])
				}
				spoil(got[i])
				spoil(want[i])
			}
			if !reflect.DeepEqual(snapshot(all), was) || !reflect.DeepEqual(snapshot(more), wasMore) {
				t.Fatalf("%v: %v: an argument was changed: %v, %v", a, m, all, more)
			}
		}
	}
}

// spoil writes into all lists of a result, and into their spare room.
func spoil(x any) {
	switch x := x.(type) {
	case []api.Move:
		x = x[:cap(x)]
		for i := range x {
			x[i] = api.Move{Id: -9, Kind: 99}
		}
	case api.Arena:
		x.Ids = x.Ids[:cap(x.Ids)]
		for i := range x.Ids {
			spoilParams(x.Ids[i])
			x.Ids[i] = plain(base(true, -9))
		}
	}
}

// spoilParams writes into the params of a type, and into their spare room.
func spoilParams(x api.Type) {
	l := x.Params[:cap(x.Params)]
	for i := range l {
		l[i] = base(true, -9)
	}
}

// R4: no two types of a result share memory, even if those that were passed do.
func TestTypesAreApart(t *testing.T) {
	x := arrow(base(false, 1), base(false, 2), base(true, 3))
	for i := range 8 {
		a, e := arena.Add(arenaOf(base(false, 1), x, x, x, x), []api.Type{x, x, x, x})
		b, f := arena.Read("int 1; (int 2, cell 3) -> int 1; (int 2, cell 3) -> int 1; (int 2, cell 3) -> int 1; (int 2, cell 3) -> int 1; (int 2, cell 3) -> int 1; (int 2, cell 3) -> int 1; (int 2, cell 3) -> int 1; (int 2, cell 3) -> int 1")
		if e != api.OK || f != api.OK || len(a.Ids) != 8 || len(b.Ids) != 8 {
			t.Fatalf("%v, %v; %v, %v", a, e, b, f)
		}
		spoilParams(a.Ids[i])
		spoilParams(b.Ids[i])
		for k := range 8 {
			if k != i && (!sameType(a.Ids[k], x) || !sameType(b.Ids[k], x)) {
				t.Errorf("%d changed %d: %v, %v", i, k, a, b)
			}
		}
	}
	if !sameType(x, arrow(base(false, 1), base(false, 2), base(true, 3))) {
		t.Errorf("the argument was changed: %v", x)
	}
}

// P1: texts of all sorts are read without an end to it.
func TestAnyTexts(t *testing.T) {
	d := dice(1)
	for range 20000 {
		b := make([]byte, d.below(12))
		for i := range b {
			b[i] = byte(d.below(256))
		}
		s := string(b)
		m, e := arena.Parse(s)
		want, ok := said(s)
		a, f := arena.Read(s)
		if m != want || (e == api.OK) != ok || f != api.ErrForm || !same(a, api.Arena{}) {
			t.Fatalf("%q: %v, %v; %v, %v", s, m, e, a, f)
		}
	}
}
