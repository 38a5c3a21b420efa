package lex_test

import (
	"slices"
	"strings"
	"testing"

	"riposte/api"
	"riposte/lex"
)

// P1.5, P1.6: Apply and Undo.
func TestApply(t *testing.T) {
	for _, x := range []struct {
		s    string
		l    []api.Splice
		want string
		undo []api.Splice
	}{
		{"", nil, "", nil}, {"abc", nil, "abc", nil}, {"abc", []api.Splice{}, "abc", nil},
		{"abc", []api.Splice{splice(1, 2, "xy")}, "axyc", []api.Splice{splice(1, 3, "b")}},
		{"", []api.Splice{splice(0, 0, "~ \n")}, "~ \n", []api.Splice{splice(0, 3, "")}},
		{"abc", []api.Splice{splice(0, 3, "")}, "", []api.Splice{splice(0, 0, "abc")}},
		{"abc", []api.Splice{splice(3, 3, "d")}, "abcd", []api.Splice{splice(3, 4, "")}},
		{"abc", []api.Splice{splice(1, 1, "")}, "abc", []api.Splice{splice(1, 1, "")}},
		{"abcdef", []api.Splice{splice(0, 1, "xyz"), splice(2, 4, ""), splice(4, 4, "m"), splice(5, 6, "F")}, "xyzbmeF", []api.Splice{splice(0, 3, "a"), splice(4, 4, "cd"), splice(4, 5, ""), splice(6, 7, "f")}},
		{"ab", []api.Splice{splice(1, 1, "1"), splice(1, 1, "2"), splice(1, 2, "3"), splice(2, 2, "4")}, "a1234", []api.Splice{splice(1, 2, ""), splice(2, 3, ""), splice(3, 4, "b"), splice(4, 5, "")}},
		{"A 01", []api.Splice{splice(0, 1, ">")}, "> 01", []api.Splice{splice(0, 1, "A")}},
	} {
		if s, e := lex.Apply(x.s, x.l); s != x.want || e != api.OK {
			t.Errorf("%q, %v: Apply: %q, %v", x.s, x.l, s, e)
		}
		if u, e := lex.Undo(x.s, x.l); !slices.Equal(u, x.undo) || e != api.OK {
			t.Errorf("%q, %v: Undo: %v, %v", x.s, x.l, u, e)
		}
	}
}

// wrongSplices are calls with the errors of a text and of splices.
func wrongSplices() []struct {
	s string
	l []api.Splice
	e api.Errno
} {
	least, most := -1<<63, 1<<63-1
	type call = struct {
		s string
		l []api.Splice
		e api.Errno
	}
	r := []call{
		{"abc", slices.Repeat([]api.Splice{splice(0, 0, "")}, 41), api.ErrLimit}, {"abc", slices.Repeat([]api.Splice{splice(9, 0, "\t")}, 41), api.ErrLimit},
		{"abc", []api.Splice{splice(-1, 2, "")}, api.ErrRange}, {"abc", []api.Splice{splice(2, 1, "")}, api.ErrRange}, {"abc", []api.Splice{splice(2, 4, "")}, api.ErrRange}, {"abc", []api.Splice{splice(4, 4, "")}, api.ErrRange},
		{"abc", []api.Splice{splice(2, 3, ""), splice(1, 2, "")}, api.ErrRange}, {"abc", []api.Splice{splice(0, 2, ""), splice(1, 3, "")}, api.ErrRange}, {"abc", []api.Splice{splice(1, 2, ""), splice(2, 3, ""), splice(2, 2, "")}, api.ErrRange},
		{"abc", []api.Splice{splice(0, most, "")}, api.ErrRange}, {"abc", []api.Splice{splice(least, 0, "")}, api.ErrRange}, {"abc", []api.Splice{splice(least, most, "")}, api.ErrRange}, {"abc", []api.Splice{splice(most, least, "")}, api.ErrRange},
		{"abc", []api.Splice{splice(0, 1, "\t"), splice(0, 1, "")}, api.ErrRange}, {"abc", []api.Splice{splice(3, 3, long()+"\t"), splice(4, 4, "")}, api.ErrRange},
		{"abc", []api.Splice{splice(0, 1, "\t")}, api.ErrArg}, {"abc", []api.Splice{splice(0, 1, ""), splice(1, 2, "x\x80")}, api.ErrArg}, {"abc", []api.Splice{splice(0, 0, long()+"~"), splice(0, 0, "\x7f")}, api.ErrArg},
		{"abc", []api.Splice{splice(3, 3, long()[2:])}, api.ErrLimit}, {"abc", []api.Splice{splice(0, 3, long()+"~")}, api.ErrLimit}, {long(), []api.Splice{splice(7, 7, "x")}, api.ErrLimit}, {long(), []api.Splice{splice(0, 1, ""), splice(5, 6, "abc")}, api.ErrLimit}, {"", slices.Repeat([]api.Splice{splice(0, 0, long()[:63])}, 40), api.ErrLimit},
	}
	for s, e := range wrongTexts() {
		r = append(r, call{s, nil, e}, call{s, []api.Splice{splice(0, 0, "")}, e}, call{s, []api.Splice{splice(0, 99999, "\t")}, e}, call{s, slices.Repeat([]api.Splice{splice(0, 0, "")}, 41), e}, call{s, []api.Splice{splice(0, 1, "")}, e})
	}
	return r
}

// P1.5, P1.6, P1.8: the errors of a text and of splices, in all functions that have them.
func TestSpliceErrors(t *testing.T) {
	for _, x := range wrongSplices() {
		if s, e := lex.Apply(x.s, x.l); s != "" || e != x.e {
			t.Errorf("%q, %v: Apply: %q, %v; wanted %v", x.s, x.l, s, e, x.e)
		}
		for _, n := range []int{0, -1, 99999} {
			if to, e := lex.Moved(x.s, x.l, n); to != 0 || e != x.e {
				t.Errorf("%q, %v: Moved of %d: %d, %v; wanted %v", x.s, x.l, n, to, e, x.e)
			}
		}
		if u, e := lex.Undo(x.s, x.l); len(u) != 0 || e != x.e {
			t.Errorf("%q, %v: Undo: %v, %v; wanted %v", x.s, x.l, u, e, x.e)
		}
		if len(x.l) == 1 {
			if a, b, e := lex.Kept(x.s, x.l[0]); a != 0 || b != 0 || e != x.e {
				t.Errorf("%q, %v: Kept: %d, %d, %v; wanted %v", x.s, x.l, a, b, e, x.e)
			}
		}
	}
}

// P1.5, P1.6: the limits are reached, by all splices together.
func TestSpliceLimits(t *testing.T) {
	l := slices.Repeat([]api.Splice{splice(1, 1, "abc")}, 40)
	if s := apply(t, "xy", l); s != "x"+strings.Repeat("abc", 40)+"y" {
		t.Errorf("40 splices: %q", s)
	}
	if u, e := lex.Undo("xy", l); len(u) != 40 || u[39] != splice(118, 121, "") || e != api.OK {
		t.Errorf("40 splices: %v, %v", u, e)
	}
	if s := apply(t, "ab", []api.Splice{splice(0, 2, long())}); s != long() {
		t.Errorf("a long text: %d bytes", len(s))
	}
	if s := apply(t, long(), []api.Splice{splice(0, 0, "abc"), splice(9, 12, "")}); len(s) != api.MaxText {
		t.Errorf("too long in between: %d bytes", len(s))
	}
	if s := apply(t, long(), []api.Splice{splice(0, api.MaxText, "")}); s != "" {
		t.Errorf("all is taken out: %q", s)
	}
}

// P1.5: Moved, with its errors.
func TestMoved(t *testing.T) {
	l := []api.Splice{splice(1, 2, "xy"), splice(3, 3, "z"), splice(4, 6, "")}
	for at, want := range []int{0, -1, 3, 5, -1, -1, 6} {
		n, e := lex.Moved("abcdef", l, at)
		if want < 0 && (n != 0 || e != api.ErrNone) || want >= 0 && (n != want || e != api.OK) {
			t.Errorf("%d: %d, %v", at, n, e)
		}
	}
	for _, x := range []struct {
		s        string
		l        []api.Splice
		at, want int
	}{
		{"", nil, 0, 0}, {"abc", nil, 3, 3}, {"abc", nil, 1, 1}, {"", []api.Splice{splice(0, 0, "ab")}, 0, 2}, {"abc", []api.Splice{splice(0, 3, "")}, 3, 0}, {"abc", []api.Splice{splice(0, 3, "xyzu")}, 3, 4},
		{"abc", []api.Splice{splice(0, 0, "x"), splice(0, 0, "yz")}, 0, 3}, {"abc", []api.Splice{splice(1, 2, ""), splice(2, 2, "uv")}, 2, 3}, {"abc", []api.Splice{splice(3, 3, "uv")}, 3, 5}, {"abc", []api.Splice{splice(3, 3, "uv")}, 2, 2}, {long(), nil, api.MaxText, api.MaxText},
	} {
		if n, e := lex.Moved(x.s, x.l, x.at); n != x.want || e != api.OK {
			t.Errorf("%q, %v, %d: %d, %v", x.s, x.l, x.at, n, e)
		}
	}
	for _, n := range []int{-1, 7, -1 << 63, 1<<63 - 1} {
		if to, e := lex.Moved("abcdef", l, n); to != 0 || e != api.ErrRange {
			t.Errorf("%d: %d, %v", n, to, e)
		}
	}
}

// P1.7: Diff, with its errors.
func TestDiff(t *testing.T) {
	for _, x := range []struct {
		a, b string
		want []api.Splice
	}{
		{"", "", nil}, {"x", "x", nil}, {long(), long(), nil}, {"", "x", []api.Splice{splice(0, 0, "x")}}, {"x", "", []api.Splice{splice(0, 1, "")}},
		{"aab", "ab", []api.Splice{splice(1, 2, "")}}, {"ab", "aab", []api.Splice{splice(1, 1, "a")}}, {"aa", "a", []api.Splice{splice(1, 2, "")}}, {"aa", "aaaa", []api.Splice{splice(2, 2, "aa")}},
		{"abc", "axc", []api.Splice{splice(1, 2, "x")}}, {"abcabc", "abc", []api.Splice{splice(3, 6, "")}}, {"abxab", "abab", []api.Splice{splice(2, 3, "")}}, {"aba", "abaXaba", []api.Splice{splice(3, 3, "Xaba")}}, {"abc", "xyz", []api.Splice{splice(0, 3, "xyz")}},
		{"A", "01\n", []api.Splice{splice(0, 1, "01\n")}}, {long(), long()[1:], []api.Splice{splice(api.MaxText-1, api.MaxText, "")}},
	} {
		if l, e := lex.Diff(x.a, x.b); !slices.Equal(l, x.want) || e != api.OK {
			t.Errorf("%q, %q: %v, %v", x.a, x.b, l, e)
		}
	}
	for s, want := range wrongTexts() {
		for _, r := range []string{"", "abc", s} {
			if l, e := lex.Diff(s, r); len(l) != 0 || e != want {
				t.Errorf("%q, %q: %v, %v", s, r, l, e)
			}
			if l, e := lex.Diff(r, s); len(l) != 0 || e != want {
				t.Errorf("%q, %q: %v, %v", r, s, l, e)
			}
		}
	}
	for _, x := range []struct {
		a, b string
		want api.Errno
	}{{"\t", long() + "a", api.ErrArg}, {long() + "a", "\t", api.ErrLimit}} {
		if l, e := lex.Diff(x.a, x.b); len(l) != 0 || e != x.want {
			t.Errorf("which error: %v, %v", l, e)
		}
	}
}

// P1.7: among all splices that lead there, From is as great as can be, then To as small as can be.
func TestDiffIsBest(t *testing.T) {
	d := dice(17)
	for range 4000 {
		a, b := d.text(d.below(7), []string{"a", "b"}), d.text(d.below(7), []string{"a", "b"})
		l, e := lex.Diff(a, b)
		if e != api.OK || (a == b) != (len(l) == 0) || len(l) > 1 {
			t.Fatalf("%q, %q: %v, %v", a, b, l, e)
		}
		if a == b {
			continue
		}
		var best api.Splice
		for from := range len(a) + 1 {
			for to := len(a); to >= from; to-- {
				n := len(b) - len(a) + to
				if n >= from && a[:from]+b[from:n]+a[to:] == b {
					best = splice(from, to, b[from:n])
				}
			}
		}
		if l[0] != best {
			t.Fatalf("%q, %q: %v; wanted %v", a, b, l, best)
		}
	}
}

// P1.8: Kept.
func TestKept(t *testing.T) {
	for _, x := range []struct {
		s          string
		x          api.Splice
		head, tail int
	}{
		{"", splice(0, 0, ""), 0, 0}, {"", splice(0, 0, "a b"), 0, 0}, {"a b", splice(0, 3, ""), 0, 0}, {"a b c", splice(0, 0, ""), 3, 0}, {"a b c", splice(2, 3, "b"), 3, 0},
		{"a b c", splice(2, 3, "d e"), 1, 1}, {"a b c", splice(1, 2, ""), 0, 1}, {"a b c", splice(5, 5, "~"), 3, 0}, {"a b c", splice(5, 5, "d"), 2, 0}, {"a b c", splice(0, 0, "d"), 0, 2}, {"a b c", splice(0, 0, " "), 0, 3},
		{"a a a", splice(0, 2, ""), 2, 0}, {"a a a", splice(0, 0, "a "), 3, 0}, {"a b a b", splice(0, 4, ""), 2, 0}, {"a  a", splice(1, 2, ""), 1, 1}, {";;;", splice(0, 1, ""), 2, 0}, {";;;", splice(0, 0, ";"), 3, 0},
		{"a b\nc", splice(1, 1, "~"), 1, 1}, {"~a b\nc", splice(0, 1, ""), 0, 1}, {"a\n~b\nc", splice(1, 2, ""), 1, 1}, {"x: =1", splice(2, 3, ""), 1, 1}, {"if x", splice(0, 2, "as"), 0, 1}, {"a-b", splice(2, 2, "->"), 2, 1}, {"a-b", splice(2, 2, ">"), 1, 1}, {"a 1 b", splice(2, 3, "c"), 1, 1},
	} {
		if a, b, e := lex.Kept(x.s, x.x); a != x.head || b != x.tail || e != api.OK {
			t.Errorf("%q, %v: %d, %d, %v", x.s, x.x, a, b, e)
		}
	}
}

// P1.8: the errors of the tokens of both texts.
func TestKeptErrors(t *testing.T) {
	many := strings.Repeat(";", 900)
	for _, x := range []struct {
		s string
		x api.Splice
		e api.Errno
	}{
		{"a A", splice(0, 1, "b"), api.ErrForm}, {"A", splice(0, 1, ""), api.ErrForm}, {"1000001", splice(0, 1, ""), api.ErrRange}, {many + ";", splice(0, 1, ""), api.ErrLimit},
		{"a", splice(0, 1, "A"), api.ErrForm}, {"a", splice(0, 1, "01"), api.ErrForm}, {"1", splice(1, 1, "a"), api.ErrForm}, {"a", splice(0, 1, "1000001"), api.ErrRange}, {many, splice(0, 0, ";"), api.ErrLimit},
		{"1000001", splice(0, 7, "A"), api.ErrRange}, {"A", splice(0, 1, "1000001"), api.ErrForm}, {"A", splice(0, 2, ""), api.ErrRange}, {"A", splice(0, 1, "\t"), api.ErrArg}, {"A" + long()[2:], splice(0, 0, "~~"), api.ErrLimit},
	} {
		if a, b, e := lex.Kept(x.s, x.x); a != 0 || b != 0 || e != x.e {
			t.Errorf("%q, %v: %d, %d, %v", x.s, x.x, a, b, e)
		}
	}
	if a, b, e := lex.Kept(many, splice(0, 1, "a")); a != 0 || b != 899 || e != api.OK {
		t.Errorf("900 tokens: %d, %d, %v", a, b, e)
	}
}

// P1.8: Kept says what the tokens of both texts say.
func TestKeptByTokens(t *testing.T) {
	d := dice(23)
	for range 4000 {
		s := d.text(d.below(12), rightParts())
		x := d.splices(len(s), 1, rightParts())[0]
		after := apply(t, s, []api.Splice{x})
		l, _, e := lex.Tokens(s)
		r, _, f := lex.Tokens(after)
		a, b, g := lex.Kept(s, x)
		if e != api.OK || f != api.OK {
			if a != 0 || b != 0 || g == api.OK {
				t.Fatalf("%q, %v: %d, %d, %v", s, x, a, b, g)
			}
			continue
		}
		head, tail := 0, 0
		for i := range min(len(l), len(r)) {
			if slices.Equal(l[:i+1], r[:i+1]) {
				head = i + 1
			}
		}
		for i := range min(len(l), len(r)) - head {
			p, q := l[len(l)-1-i], r[len(r)-1-i]
			if p.Kind != q.Kind || p.Text != q.Text || len(s)-p.At != len(after)-q.At {
				break
			}
			tail = i + 1
		}
		if a != head || b != tail || g != api.OK {
			t.Fatalf("%q, %v: %d, %d, %v; wanted %d, %d", s, x, a, b, g, head, tail)
		}
	}
}

// P1.9: Rename, with its errors.
func TestRename(t *testing.T) {
	for _, x := range []struct{ s, old, name, want string }{
		{"x + xs", "x", "y", "y + xs"}, {"x", "x", "abcdefghijkl", "abcdefghijkl"}, {"abcdefghijkl", "abcdefghijkl", "x", "x"}, {"x~x\nx", "x", "y", "y~x\ny"}, {"x ~y", "x", "y", "y ~y"},
		{"x(x)x1 ax xX", "x", "y", "y(y)x1 ax xX"}, {"if:=fi", "fi", "g", "if:=g"}, {strings.Repeat("x ", 100), "x", "yz", strings.Repeat("yz ", 100)},
	} {
		if s, e := lex.Rename(x.s, x.old, x.name); s != x.want || e != api.OK {
			t.Errorf("%q, %q, %q: %q, %v", x.s, x.old, x.name, s, e)
		}
	}
	for _, x := range []struct {
		s, old, name string
		e            api.Errno
	}{
		{"x 01", "x", "if", api.ErrForm}, {"X", "x", "y", api.ErrForm}, {"1000001", "if", "y", api.ErrRange}, {strings.Repeat(";", 901), "x", "y", api.ErrLimit},
		{"x", "if", "y", api.ErrArg}, {"x", "x", "if", api.ErrArg}, {"x", "", "y", api.ErrArg}, {"x", "x", "", api.ErrArg}, {"x", "x", "Y", api.ErrArg}, {"x", "X", "y", api.ErrArg}, {"x", "x", "1", api.ErrArg}, {"1", "1", "y", api.ErrArg}, {"x", "x", "y z", api.ErrArg}, {"x", "x", " y", api.ErrArg}, {"x", "x", "y~", api.ErrArg}, {"x", "x", "abcdefghijklm", api.ErrArg}, {"x", "x", "y\x80", api.ErrArg}, {"y", "x", "if", api.ErrArg}, {"x y", "(", "y", api.ErrArg},
		{"x", "y", "z", api.ErrNone}, {"", "y", "z", api.ErrNone}, {"y", "x", "y", api.ErrNone}, {"~x", "x", "y", api.ErrNone}, {"xs", "x", "y", api.ErrNone}, {"y", "x", "x", api.ErrNone},
		{"x + xs", "x", "xs", api.ErrTwice}, {"x", "x", "x", api.ErrTwice}, {strings.Repeat("x ", 400) + "abcdefghijkl", "x", "abcdefghijkl", api.ErrTwice},
		{strings.Repeat("x ", 250), "x", "abcdefghijkl", api.ErrLimit}, {"x" + long()[1:], "x", "yz", api.ErrLimit},
	} {
		if s, e := lex.Rename(x.s, x.old, x.name); s != "" || e != x.e {
			t.Errorf("%q, %q, %q: %q, %v; wanted %v", x.s, x.old, x.name, s, e, x.e)
		}
	}
	for s, want := range wrongTexts() {
		if r, e := lex.Rename(s, "a", "if"); r != "" || e != want {
			t.Errorf("%q: %q, %v", s, r, e)
		}
	}
	if s, e := lex.Rename("x"+long()[2:], "x", "yz"); s != "yz"+long()[2:] || e != api.OK {
		t.Errorf("a long text: %d bytes, %v", len(s), e)
	}
}
