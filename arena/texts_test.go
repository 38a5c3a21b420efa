package arena_test

import (
	"fmt"
	"regexp"
	"slices"
	"strings"
	"testing"

	"riposte/api"
	"riposte/arena"
)

// P4.7: the order of moves: by Id, then Arg, Kind, N.
func TestLess(t *testing.T) {
	l := []api.Move{{}, {N: 1}, {Kind: 1}, {Arg: 1}, {Id: 1}}
	for i, a := range l {
		for j, b := range l {
			if arena.Less(a, b) != (i < j) {
				t.Errorf("%v, %v", a, b)
			}
		}
	}
	for _, x := range []struct {
		a, b string
		want bool
	}{
		{"0?", "0?", false}, {"0?", "0!0", true}, {"0?", "0=0", true}, {"0=5", "0!0", true}, {"0!*", "0!0", true}, {"0!0", "0!1", true},
		{"0!9", "0!10", true}, {"0!9", "1?", true}, {"1!9", "1.1?", true}, {"1.9?", "1.10?", true}, {"1.2!3", "2?", true}, {"9?", "10?", true}, {"1?", "1.1!*", true},
	} {
		a, b := move(t, x.a), move(t, x.b)
		if arena.Less(a, b) != x.want || arena.Less(b, a) {
			t.Errorf("%s, %s: %v, %v", x.a, x.b, arena.Less(a, b), arena.Less(b, a))
		}
	}
}

// P4.7: the order of any moves.
func TestLessOfAny(t *testing.T) {
	l := anyMoves()
	for i, a := range l {
		// Not all pairs, since there are too many; but all that differ in one field, and many others.
		for k := i % 7; k < len(l); k += 7 {
			if arena.Less(a, l[k]) != (compare(a, l[k]) < 0) {
				t.Fatalf("%v, %v", a, l[k])
			}
		}
		for _, b := range []api.Move{{Id: a.Id + 1, Arg: a.Arg, Kind: a.Kind, N: a.N}, {Id: a.Id, Arg: a.Arg + 1, Kind: a.Kind, N: a.N}, {Id: a.Id, Arg: a.Arg, Kind: a.Kind + 1, N: a.N}, {Id: a.Id, Arg: a.Arg, Kind: a.Kind, N: a.N + 1}} {
			if arena.Less(a, b) != (compare(a, b) < 0) || arena.Less(b, a) != (compare(b, a) < 0) {
				t.Fatalf("%v, %v", a, b)
			}
		}
	}
}

// P4.8: texts of moves, there and back.
func TestMoveTexts(t *testing.T) {
	for s, m := range map[string]api.Move{
		"0?":                            {Kind: api.MoveAsk},
		"0=0":                           {Kind: api.MovePut},
		"0!0":                           {Kind: api.MoveTell},
		"0!*":                           {Kind: api.MoveTell, N: api.Esc},
		"7?":                            {Id: 7, Kind: api.MoveAsk},
		"10=20":                         {Id: 10, Kind: api.MovePut, N: 20},
		"1.2?":                          {Id: 1, Arg: 2, Kind: api.MoveAsk},
		"12.34=56":                      {Id: 12, Arg: 34, Kind: api.MovePut, N: 56},
		"12.34!56":                      {Id: 12, Arg: 34, Kind: api.MoveTell, N: 56},
		"12.34!*":                       {Id: 12, Arg: 34, Kind: api.MoveTell, N: api.Esc},
		"0.5?":                          {Arg: 5, Kind: api.MoveAsk},
		"0.10!100":                      {Arg: 10, Kind: api.MoveTell, N: 100},
		"9223372036854775807?":          {Id: 1<<63 - 1, Kind: api.MoveAsk},
		"1.9223372036854775807!*":       {Id: 1, Arg: 1<<63 - 1, Kind: api.MoveTell, N: api.Esc},
		"1.1=9223372036854775807":       {Id: 1, Arg: 1, Kind: api.MovePut, N: 1<<63 - 1},
		"1!9223372036854775807":         {Id: 1, Kind: api.MoveTell, N: 1<<63 - 1},
		"1000000000000.100!10000000000": {Id: 1000000000000, Arg: 100, Kind: api.MoveTell, N: 10000000000},
	} {
		if text, e := arena.Text(m); text != s || e != api.OK {
			t.Errorf("Text of %v: %q, %v", m, text, e)
		}
		if got, e := arena.Parse(s); got != m || e != api.OK {
			t.Errorf("Parse of %q: %v, %v", s, got, e)
		}
	}
}

// P4.8: moves without a text, and all others.
func TestTextOfAny(t *testing.T) {
	for _, m := range []api.Move{{Id: -1, Kind: api.MoveAsk}, {Arg: -1, Kind: api.MoveAsk}, {Id: -1, Kind: api.MoveTell}, {Kind: api.MoveAsk, N: 1}, {Kind: api.MoveAsk, N: -1}, {Kind: api.MovePut, N: -1}, {Kind: api.MoveTell, N: -2}, {}, {Kind: 4}, {Kind: 255}} {
		if s, e := arena.Text(m); s != "" || e != api.ErrForm {
			t.Errorf("%v: %q, %v", m, s, e)
		}
	}
	for _, m := range anyMoves() {
		want, f := "", api.ErrForm
		if hasText(m) {
			want, f = moveText(m), api.OK
		}
		if s, e := arena.Text(m); s != want || e != f {
			t.Errorf("%v: %q, %v instead of %q", m, s, e, want)
		}
	}
}

// P4.8, R9: what is no text of a move.
func TestNoMove(t *testing.T) {
	for _, s := range []string{
		"", "0", "1.1", "?", "!", "=", "!0", "=0", ".", ".?", ".1?", "1.?", "1.0?", "0.0?", "1.00?", "1.01?", "01?", "00?", "1.1.1?", "1..1?",
		"0?0", "0?1", "0?*", "0??", "0?!", "0?=", "?0", "0=", "0!", "0=*", "0!**", "0!*0", "0!0*", "0*", "*", "0!-1", "0!-0", "0=-0", "0=-1", "-1?", "-0?", "1.-1?", "1.-0?",
		"+1?", "1.+1?", "1!+1", "1=+1", "0!01", "0!00", "0=01", "0!0x1", "0!1_0", "1_0?", "0!1e1", "0x1?",
		" 0?", "0? ", "0 ?", "0! 0", "0!0 ", "0!0\n", "0?\n", "0?\x00", "\x000?", "0?0?", "0!0!0", "0=0=0", "0=0!0", "0!0=0", "0!0?", "0=0?", "0,1?", "1.1:0", "a?", "1.a?", "1!a", "a", "0!\u0661", "\uff10?", "0!\xff",
		"9223372036854775808?", "1.9223372036854775808?", "1!9223372036854775808", "1=9223372036854775808", "18446744073709551616?", "18446744073709551617!0", "1!18446744073709551615", "99999999999999999999999999999999?", "-9223372036854775808?", "1!-9223372036854775808",
		strings.Repeat("1", 10000) + "?", "1!" + strings.Repeat("0", 10000),
	} {
		if m, e := arena.Parse(s); m != (api.Move{}) || e != api.ErrForm {
			t.Errorf("%q: %v, %v", s, m, e)
		}
	}
}

// P4.8: texts that are made of parts at random are read as the chapter says.
func TestParseOfAny(t *testing.T) {
	parts := []string{"0", "1", "2", "10", "01", ".", ".", ".1", "?", "?", "=", "!", "!", "*", "!*", "-", "+", " ", "64", "9223372036854775807", "9223372036854775808"}
	d := dice(8)
	found := 0
	for range 60000 {
		s := ""
		for range 1 + d.below(5) {
			s += pick(&d, parts...)
		}
		want, ok := said(s)
		m, e := arena.Parse(s)
		if ok {
			found++
		}
		if m != want || (e == api.OK) != ok || !ok && e != api.ErrForm {
			t.Fatalf("%q: %v, %v", s, m, e)
		}
	}
	if found < 500 {
		t.Errorf("%d moves", found)
	}
}

// P4.9: texts of arenas, there and back.
func TestArenaTexts(t *testing.T) {
	com, cell := base(false, 1), base(true, 2)
	great := "(cell 64, int 64, cell 64, int 64, cell 64) -> int 64"
	for s, a := range map[string]api.Arena{
		"int 1":                       arenaOf(com),
		"int 2":                       arenaOf(base(false, 2)),
		"cell 2":                      arenaOf(cell),
		"int 64; jumps":               jumping(arenaOf(base(false, 64))),
		"cell 64; jumps":              jumping(arenaOf(base(true, 64))),
		"int 1; int 1":                arenaOf(com, plain(com)),
		"int 1; cell 2; int 1; jumps": jumping(arenaOf(com, plain(cell), plain(com))),
		"int 1; (int 1) -> int 1":     arenaOf(com, arrow(com, com)),
		"int 2; (int 3, cell 2) -> int 1; cell 2":             example(),
		"cell 2; (cell 2, cell 2) -> int 10; jumps":           jumping(arenaOf(cell, arrow(base(false, 10), cell, cell))),
		"int 1; (int 1) -> int 1; (cell 2) -> int 1":          arenaOf(com, arrow(com, com), arrow(com, cell)),
		"cell 64" + strings.Repeat("; "+great, 8):             greatest(),
		"cell 64" + strings.Repeat("; "+great, 8) + "; jumps": jumping(greatest()),
	} {
		if text, e := arena.Show(a); text != s || e != api.OK {
			t.Errorf("Show of %v: %q, %v", a, text, e)
		}
		if got, e := arena.Read(s); !same(got, a) || e != api.OK {
			t.Errorf("Read of %q: %v, %v", s, got, e)
		}
	}
}

// P4.9, R9: what is no text of a right arena.
func TestNoArena(t *testing.T) {
	many := func(n int, s string) string { return strings.Repeat(s, n) }
	for _, s := range []string{
		"", "int", "cell", "int ", "cell ", "2", " 2", "com", "bool", "Int 2", "ints 2", "in 2", "cells 2", "num 2", " int 2", "int 2 ", "int  2", "int\t2", "int 2\n", "int2", "int 2 2", "int 2, int 2",
		"int 0", "int 65", "int -1", "int +1", "int 01", "int 1.0", "int x", "int 9223372036854775808", "int 18446744073709551618", "cell 0", "cell 65", "cell 02",
		"jumps", "; jumps", "int 2;", "int 2; ", "; int 2", "int 2;; int 2", "int 2; ; int 2", "int 2;int 2", "int 2 ; int 2", "int 2;  int 2", "int 2, jumps", "int 2;jumps", "int 2; jumps ", "int 2; jumps;", "int 2; Jumps", "int 2; jump", "int 2; jumps; jumps", "int 2; jumps; int 2", "int 2; jumps; int 2; jumps",
		"int 2; ()", "int 2; () -> int 2", "int 2; (int 2)", "int 2; (int 2) ->", "int 2; (int 2) -> ", "int 2; (int 2) int 2", "int 2; (int 2)-> int 2", "int 2; (int 2) ->int 2", "int 2; (int 2)  -> int 2", "int 2; int 2 -> int 2", "int 2; int 2) -> int 2", "int 2; (int 2 -> int 2", "int 2; ((int 2) -> int 2", "int 2; ((int 2)) -> int 2", "int 2; (int 2) -> (int 2)", "int 2; (int 2) -> int 2)", "int 2; (int 2) -> (int 2) -> int 2", "int 2; ((int 2) -> int 2) -> int 2", "int 2; (int 2,int 2) -> int 2", "int 2; (int 2; int 2) -> int 2", "int 2; (int 2,  int 2) -> int 2", "int 2; (int 2 , int 2) -> int 2", "int 2; (, int 2) -> int 2", "int 2; (int 2, ) -> int 2", "int 2; ( int 2) -> int 2", "int 2; (int 2 ) -> int 2",
		"int 2; (int 2) -> cell 2", "int 2; (int 0) -> int 2", "int 2; (int 2) -> int 0", "int 2; (int 65) -> int 2", "int 2; (int 2) -> int 65", "int 2; (jumps) -> int 2",
		"(int 2) -> int 2", "(int 2) -> int 2; int 2", "(int 2)", "int 2" + many(9, "; int 2"), "int 2" + many(9, "; int 2") + "; jumps", "int 2; (int 2" + many(5, ", int 2") + ") -> int 2", "int 2" + many(100000, "; int 2"), "int 2; " + many(10000, "("), "int 2\x00", "\xff", "int \u0662",
	} {
		if a, e := arena.Read(s); !same(a, api.Arena{}) || e != api.ErrForm {
			t.Errorf("%q: %v, %v", s, a, e)
		}
	}
}

// typePattern is the form of the text of a type, but for the limits of numbers; a cell has no params.
const typePattern = `(?:\((?:int|cell) \d+(?:, (?:int|cell) \d+){0,4}\) -> int \d+|(?:int|cell) \d+)`

var (
	arenaPattern  = regexp.MustCompile(`^(?:int|cell) \d+(?:; ` + typePattern + `){0,8}(?:; jumps)?$`)
	digitsPattern = regexp.MustCompile(`\d+`)
	sizePattern   = regexp.MustCompile(`^(?:[1-9]|[1-5]\d|6[0-4])$`)
)

// isArenaText tells whether a text is that of a right arena, in another way than the program.
func isArenaText(s string) bool {
	return arenaPattern.MatchString(s) && !slices.ContainsFunc(digitsPattern.FindAllString(s, -1), func(n string) bool { return !sizePattern.MatchString(n) })
}

// shown returns the text of an arena, in another way than the program.
func shown(a api.Arena) string {
	ofBase := func(b api.Base) string {
		return fmt.Sprintf("%s %d", map[bool]string{false: "int", true: "cell"}[b.Cell], b.N)
	}
	s := ofBase(a.Root)
	for _, x := range a.Ids {
		s += "; "
		for j, b := range x.Params {
			s += map[bool]string{false: ", ", true: "("}[j == 0] + ofBase(b)
			if j == len(x.Params)-1 {
				s += ") -> "
			}
		}
		s += ofBase(x.Result)
	}
	if a.Jumps {
		s += "; jumps"
	}
	return s
}

// P4.9: texts that are nearly those of arenas are read just if they are those of some; what is read has this text.
func TestReadOfAny(t *testing.T) {
	parts := []string{"int ", "cell ", "0", "1", "2", "64", "65", "; ", "; int 2", ", ", "(", ") -> ", "; (int 2) -> int 1", "jumps", "; jumps", " ", ";", ","}
	d := dice(9)
	found := 0
	for range 40000 {
		a := d.arena()
		s := shown(a)
		if text, e := arena.Show(a); text != s || e != api.OK {
			t.Fatalf("Show of %v: %q, %v", a, text, e)
		}
		for range d.below(3) {
			from := d.below(len(s) + 1)
			to := min(len(s), from+d.below(9)*d.below(2))
			s = s[:from] + pick(&d, append(parts, "")...) + s[to:]
		}
		got, e := arena.Read(s)
		if !isArenaText(s) {
			if !same(got, api.Arena{}) || e != api.ErrForm {
				t.Fatalf("%q: %v, %v", s, got, e)
			}
			continue
		}
		found++
		if e != api.OK || shown(got) != s {
			t.Fatalf("%q: %v, %v", s, got, e)
		}
	}
	if found < 5000 || found > 35000 {
		t.Errorf("%d arenas", found)
	}
}
