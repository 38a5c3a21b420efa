package play_test

import (
	"slices"
	"strings"
	"testing"

	"riposte/api"
	"riposte/arena"
	"riposte/play"
)

// P5.9: texts of words, also of such as are legal nowhere, and there and back.
func TestTexts(t *testing.T) {
	for _, x := range []struct {
		w    api.Word
		want string
	}{
		{nil, ""},
		{api.Word{}, ""},
		{api.Word{{Kind: api.MoveAsk}}, "0?"},
		{api.Word{{Kind: api.MoveAsk}, {Id: 1, Kind: api.MoveAsk}, {Id: 1, Arg: 2, Kind: api.MovePut, N: 1}, {Id: 1, Arg: 2, Kind: api.MoveTell, N: -1}, {Id: 1, Kind: api.MoveTell, N: -1}, {Kind: api.MoveTell, N: 12}}, "0? 1? 1.2=1 1.2!* 1!* 0!12"},
		{api.Word{{Id: 100, Arg: 1<<63 - 1, Kind: api.MovePut}, {Arg: 7, Kind: api.MoveTell, N: 1 << 40}}, "100.9223372036854775807=0 0.7!1099511627776"},
		{slices.Repeat(api.Word{{Kind: api.MoveAsk}}, 400), strings.Repeat("0? ", 399) + "0?"},
	} {
		s, e := play.Text(x.w)
		w, f := play.Parse(s)
		if s != x.want || e != api.OK || !slices.Equal(w, x.w) || f != api.OK {
			t.Errorf("%v: %q, %v; %v, %v", x.w, s, e, w, f)
		}
	}
}

// P5.9: words without texts; too many moves come first.
func TestWordsWithoutTexts(t *testing.T) {
	ask := api.Word{{Kind: api.MoveAsk}}
	for _, m := range []api.Move{{}, {Kind: 4}, {Id: -1, Kind: api.MoveAsk}, {Arg: -1, Kind: api.MoveAsk}, {Kind: api.MoveAsk, N: 1}, {Kind: api.MovePut, N: -1}, {Kind: api.MoveTell, N: -2}} {
		for _, w := range []api.Word{{m}, {ask[0], m}, {m, ask[0]}, append(slices.Repeat(ask, 399), m)} {
			if s, e := play.Text(w); s != "" || e != api.ErrForm {
				t.Errorf("%d moves, %v: %q, %v", len(w), m, s, e)
			}
		}
		for _, n := range []int{400, 1000} {
			if s, e := play.Text(append(slices.Repeat(ask, n), m)); s != "" || e != api.ErrLimit {
				t.Errorf("%d moves, %v: %q, %v", n+1, m, s, e)
			}
		}
	}
	if s, e := play.Text(slices.Repeat(ask, 401)); s != "" || e != api.ErrLimit {
		t.Errorf("401 moves: %q, %v", s, e)
	}
}

// P5.9: texts of no word.
func TestNoWords(t *testing.T) {
	for _, s := range []string{
		" ", "  ", "0? ", " 0?", "0?  1?", "0?\n1?", "0?\t1?", "0?\n", "\n", "0?,1?", "0?, 1?", "0?1?", "x", "0? x 0!1", "0? 01?", "0? +1?", "0? -1?", "0? 1.0?", "0? 1.?", "0? .1?", "0? 1", "0? 1?? 0!1", "0? 1!", "0? 1!-1", "0? 1!**", "0? 1=*", "0? 1.1.1?", "0? 1!01", "?", "0\u00a0?", "0?\u00a01?", "0? 9223372036854775808?", "0? 1!9223372036854775808", "\x00", "0?\x00", "\xff",
		strings.Repeat(" ", 399), strings.Repeat("x ", 399) + "x", strings.Repeat("0? ", 399), strings.Repeat("0? ", 399) + "x", strings.Repeat("0?\n", 500) + "0?", strings.Repeat("?", 100000),
	} {
		if w, e := play.Parse(s); len(w) > 0 || e != api.ErrForm {
			t.Errorf("%.60q: %v, %v", s, w, e)
		}
	}
}

// P5.9, R7: a text has less than MaxWord blanks; too many come first.
func TestLongTexts(t *testing.T) {
	s := strings.Repeat("0? ", 399) + "0?"
	if w, e := play.Parse(s); !slices.Equal(w, slices.Repeat(api.Word{{Kind: api.MoveAsk}}, 400)) || e != api.OK {
		t.Errorf("%d moves, %v", len(w), e)
	}
	for _, x := range []string{s + " 0?", s + " ", " " + s, s + " x", strings.Repeat(" ", 400), "x" + strings.Repeat(" ", 5000), strings.Repeat("0? ", 400) + "0?"} {
		if w, e := play.Parse(x); len(w) > 0 || e != api.ErrLimit {
			t.Errorf("%.20q: %d moves, %v", x, len(w), e)
		}
	}
}

// P5.9: texts of all sorts are words just if all that stands between blanks is moves.
func TestAnyTexts(t *testing.T) {
	d := dice(9)
	words := 0
	for range 60000 {
		var s string
		for range d.below(5) {
			s += pick(&d, "0?", "1?", "1.1?", "2=1", "1!*", "0!1", "0! 1", "x", "", "1", "00?")
			s += pick(&d, " ", " ", " ", " ", "", "  ", "\n")
		}
		if d.below(3) > 0 {
			s = strings.TrimSuffix(s, " ")
		}
		want, ok := wordOf(s)
		w, e := play.Parse(s)
		if !slices.Equal(w, want) || (e == api.OK) != ok || !ok && e != api.ErrForm {
			t.Fatalf("%q: %v, %v", s, w, e)
		}
		if back, f := play.Text(w); ok && (back != s || f != api.OK) {
			t.Fatalf("%q: %q, %v", s, back, f)
		}
		if ok && len(w) > 1 {
			words++
		}
	}
	if words < 1000 {
		t.Errorf("only %d words", words)
	}
}

// wordOf returns the word with a text, and whether there is one, in another way than the program.
func wordOf(s string) (api.Word, bool) {
	var w api.Word
	for s != "" {
		n := strings.IndexByte(s+" ", ' ')
		m, e := arena.Parse(s[:n])
		if e != api.OK || n == len(s)-1 {
			return nil, false
		}
		w = append(w, m)
		s = s[min(len(s), n+1):]
	}
	return w, true
}
