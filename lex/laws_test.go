package lex_test

import (
	"slices"
	"strings"
	"testing"

	"riposte/api"
	"riposte/lex"
)

// P1.3, P1.10: Tight leads back to the tokens, and no blank can go.
func TestBack(t *testing.T) {
	d := dice(31)
	for range 3000 {
		s := d.text(d.below(25), rightParts())
		l, _, e := lex.Tokens(s)
		if e != api.OK {
			continue
		}
		tight, e := lex.Tight(l)
		if e != api.OK || len(tight) > len(s) {
			t.Fatalf("%q: %q, %v", s, tight, e)
		}
		back := tokens(t, tight)
		if !slices.Equal(bare(back), bare(l)) {
			t.Fatalf("%q: %q has other tokens", s, tight)
		}
		for i := range len(back) - min(1, len(back)) {
			if back[i].At >= back[i+1].At {
				t.Fatalf("%q: places do not rise: %v", tight, back)
			}
		}
		if strings.Contains(tight, "\n") || strings.Contains(tight, "~") {
			t.Fatalf("%q: %q", s, tight)
		}
		for i := range len(tight) {
			if tight[i] != ' ' {
				continue
			}
			if r, _, e := lex.Tokens(tight[:i] + tight[i+1:]); e == api.OK && slices.Equal(bare(r), bare(l)) {
				t.Fatalf("%q: %q has a blank too many at %d", s, tight, i)
			}
		}
	}
}

// P1.4: a pair is one from both sides, and pairs do not cross.
func TestPairsLaws(t *testing.T) {
	d := dice(37)
	for range 3000 {
		l := tokens(t, d.text(d.below(9), []string{"(", ")", "(", ")", "{", "}", "x "}))
		r, n, e := lex.Pairs(l)
		if want, at := reduce(l); (e == api.OK) != (want == api.OK) || n != at {
			t.Fatalf("%v: %v, %d, %v; wanted %d, %v", l, r, n, e, at, want)
		}
		for i, p := range r {
			if p >= 0 && (r[p] != i || l[min(i, p)].Text+l[max(i, p)].Text != "()" && l[min(i, p)].Text+l[max(i, p)].Text != "{}") {
				t.Fatalf("%v: %v", l, r)
			}
			if (p < 0) != (l[i].Kind == api.TokName) {
				t.Fatalf("%v: %v", l, r)
			}
			for j := i + 1; j < p; j++ {
				if r[j] > p || r[j] >= 0 && r[j] < i {
					t.Fatalf("%v: %v", l, r)
				}
			}
		}
	}
}

// reduce finds the bracket without a partner by taking out pairs that stand side by side.
func reduce(l []api.Token) (api.Errno, int) {
	for n := 1; n <= len(l); n++ {
		if left := leftOf(l[:n]); len(left) > 0 && (l[left[len(left)-1]].Text == ")" || l[left[len(left)-1]].Text == "}") {
			return api.ErrForm, n - 1
		}
	}
	if left := leftOf(l); len(left) > 0 {
		return api.ErrForm, left[0]
	}
	return api.OK, 0
}

// leftOf returns the brackets that are left when pairs side by side are taken out, again and again.
func leftOf(l []api.Token) []int {
	var left []int
	for i, t := range l {
		if t.Kind == api.TokSign {
			left = append(left, i)
		}
	}
	for i := 0; i+1 < len(left); {
		if s := l[left[i]].Text + l[left[i+1]].Text; s == "()" || s == "{}" {
			left = slices.Delete(left, i, i+2)
			i = 0
		} else {
			i++
		}
	}
	return left
}

// P1.2, P1.11: Spot and At lead back, and places that rise have spots that rise.
func TestPlaces(t *testing.T) {
	d := dice(41)
	for range 500 {
		s := d.text(d.below(20), []string{"a", "b c", "\n", "\n\n", "~ x", "A"})
		spots := map[api.Spot]int{}
		last, longest := api.Spot{}, 0
		for i := range len(s) + 1 {
			p, e := lex.Spot(s, i)
			if e != api.OK || p.Line < last.Line || p.Line == last.Line && p.Column <= last.Column {
				t.Fatalf("%q, %d: %v behind %v, %v", s, i, p, last, e)
			}
			last, longest = p, max(longest, p.Column)
			spots[p] = i
		}
		for line := -1; line < last.Line+2; line++ {
			for column := -1; column < longest+2; column++ {
				p := api.Spot{Line: line, Column: column}
				want, is := spots[p]
				if n, e := lex.At(s, p); n != want || is != (e == api.OK) || !is && e != api.ErrNone {
					t.Fatalf("%q, %v: %d, %v", s, p, n, e)
				}
			}
		}
	}
}

// P1.12: tokens far away from a splice stay, and Kept counts them.
func TestFarAway(t *testing.T) {
	d := dice(43)
	tried := 0
	for range 4000 {
		s := d.text(d.below(20), rightParts())
		x := d.splices(len(s), 1, rightParts())[0]
		after := apply(t, s, []api.Splice{x})
		l, _, e := lex.Tokens(s)
		r, _, f := lex.Tokens(after)
		if e != api.OK || f != api.OK {
			continue
		}
		tried++
		before, behind := 0, 0
		for _, k := range l {
			if k.At+len(k.Text) < x.From {
				before++
			}
			if i := strings.IndexByte(s[x.To:], '\n'); i >= 0 && k.At > x.To+i {
				behind++
				k.At += len(after) - len(s)
				if !slices.Contains(r, k) {
					t.Fatalf("%q, %v: %v does not stay", s, x, k)
				}
			}
		}
		if before > len(r) || !slices.Equal(l[:before], r[:before]) {
			t.Fatalf("%q, %v: the first %d do not stay", s, x, before)
		}
		a, b, _ := lex.Kept(s, x)
		if a < before || a+b < min(len(l), len(r), before+behind) {
			t.Fatalf("%q, %v: %d and %d are kept, %d and %d stay", s, x, a, b, before, behind)
		}
	}
	if tried < 1000 {
		t.Errorf("only %d texts were tried", tried)
	}
}

// P1.5, P1.6, P1.13: Undo leads back, and bytes that stay are found where Moved says.
func TestUndone(t *testing.T) {
	d := dice(47)
	for range 3000 {
		s := d.text(d.below(12), rightParts())
		l := d.splices(len(s), d.below(5), rightParts())
		after := apply(t, s, l)
		back, e := lex.Undo(s, l)
		if e != api.OK || len(back) != len(l) || apply(t, after, back) != s {
			t.Fatalf("%q, %v: %v, %v", s, l, back, e)
		}
		for i, x := range back {
			if after[x.From:x.To] != l[i].Text || x.Text != s[l[i].From:l[i].To] {
				t.Fatalf("%q, %v: %v", s, l, back)
			}
		}
		if again, e := lex.Undo(after, back); e != api.OK || !slices.Equal(again, l) {
			t.Fatalf("%q, %v: %v, %v", s, l, again, e)
		}
		last := -1
		for i := range len(s) + 1 {
			n, e := lex.Moved(s, l, i)
			out := slices.ContainsFunc(l, func(x api.Splice) bool { return x.From <= i && i < x.To })
			if out != (e == api.ErrNone) || !out && e != api.OK {
				t.Fatalf("%q, %v, %d: %d, %v", s, l, i, n, e)
			}
			if out {
				continue
			}
			if n <= last || i < len(s) && after[n] != s[i] || i == len(s) && n != len(after) {
				t.Fatalf("%q, %v, %d: %d", s, l, i, n)
			}
			if m, e := lex.Moved(after, back, n); m != i || e != api.OK {
				t.Fatalf("%q, %v, %d: back to %d, %v", s, l, i, m, e)
			}
			last = n
		}
	}
}

// P1.7, P1.14: Diff leads from one text to the other, and the other way round it is Undo.
func TestDifference(t *testing.T) {
	d := dice(53)
	for range 3000 {
		a := d.text(d.below(12), rightParts())
		b := d.text(d.below(12), rightParts())
		if d.below(2) == 0 {
			b = apply(t, a, d.splices(len(a), 1, rightParts()))
		}
		there, e := lex.Diff(a, b)
		back, f := lex.Diff(b, a)
		if e != api.OK || f != api.OK || apply(t, a, there) != b {
			t.Fatalf("%q, %q: %v, %v", a, b, there, e)
		}
		if u, e := lex.Undo(a, there); e != api.OK || !slices.Equal(u, back) {
			t.Fatalf("%q, %q: %v, %v; wanted %v", a, b, u, e, back)
		}
	}
}

// P1.9, P1.15: a renamed text has the same kinds, and is renamed back.
func TestNames(t *testing.T) {
	d := dice(59)
	tried := 0
	for range 4000 {
		s := d.text(d.below(20), rightParts())
		old, other := d.text(1, []string{"a", "xs", "x"}), d.text(1, []string{"z", "abcdefghijkl", "x"})
		r, e := lex.Rename(s, old, other)
		if e != api.OK {
			continue
		}
		tried++
		if back, e := lex.Rename(r, other, old); back != s || e != api.OK {
			t.Fatalf("%q, %q, %q: %q, %v", s, old, other, back, e)
		}
		l := bare(tokens(t, s))
		for i := range l {
			if l[i] == name(old) {
				l[i] = name(other)
			}
		}
		if !slices.Equal(bare(tokens(t, r)), l) {
			t.Fatalf("%q, %q, %q: %q", s, old, other, r)
		}
		before, _ := lex.Notes(s)
		if after, _ := lex.Notes(r); !slices.Equal(bare(before), bare(after)) {
			t.Fatalf("%q, %q, %q: %q", s, old, other, r)
		}
	}
	if tried < 500 {
		t.Errorf("only %d texts were tried", tried)
	}
}

// roomy returns a list with elements behind its end, and all of its memory.
func roomy[T any](l []T, x T) ([]T, []T) {
	all := append(slices.Clone(l), x, x)
	return all[:len(l)], all
}

// P1, P2, R2, R4: any arguments have equal results twice, and stay as they are; with an error all other results are zero values, but places.
func TestAnyArguments(t *testing.T) {
	d := dice(61)
	places := []int{0, 1, 2, 3, 5, 8, -1, 40, 2500, -1 << 63, 1<<63 - 1}
	for range 5000 {
		s, r := d.text(d.below(10), anyParts()), d.text(d.below(10), anyParts())
		place := places[d.below(len(places))]
		var marks []api.Splice
		for range d.below(4) {
			marks = append(marks, splice(places[d.below(len(places))], places[d.below(len(places))], d.text(d.below(2), anyParts())))
		}
		var row []api.Token
		for range d.below(5) {
			row = append(row, api.Token{Kind: uint8(d.below(7)), Text: d.text(1, anyParts()), At: place})
		}
		row, rowAll := roomy(row, sign("("))
		marks, marksAll := roomy(marks, splice(1, 2, "x"))
		rowWas, marksWas := slices.Clone(rowAll), slices.Clone(marksAll)
		first, second := all(t, s, r, place, row, marks), all(t, s, r, place, row, marks)
		if first != second {
			t.Fatalf("not the same twice: %q, %q, %d, %v, %v", s, r, place, row, marks)
		}
		if !slices.Equal(rowAll, rowWas) || !slices.Equal(marksAll, marksWas) {
			t.Fatalf("an argument was changed: %v, %v", row, marks)
		}
	}
}

// all calls every function, and returns what they say as a text.
func all(t *testing.T, s, r string, place int, row []api.Token, marks []api.Splice) string {
	t.Helper()
	x := splice(place, place, r)
	if len(marks) > 0 {
		x = marks[0]
	}
	var b strings.Builder
	say := func(e api.Errno, zero bool, parts ...string) {
		if e != api.OK && !zero {
			t.Fatalf("a result with an error: %v, %q, %q, %d, %v, %v", e, s, r, place, row, marks)
		}
		b.WriteByte(byte(e))
		for _, p := range parts {
			b.WriteString(p)
			b.WriteByte(0)
		}
	}
	l, n, e := lex.Tokens(s)
	say(e, len(l) == 0, shown(l), digits(n))
	l, e = lex.Notes(s)
	say(e, len(l) == 0, shown(l))
	p, e := lex.Spot(s, place)
	say(e, p == api.Spot{}, digits(p.Line), digits(p.Column))
	n, e = lex.At(s, api.Spot{Line: place, Column: len(r)})
	say(e, n == 0, digits(n))
	q, e := lex.Tight(row)
	say(e, q == "", q)
	m, n, e := lex.Pairs(row)
	say(e, len(m) == 0 && (n == 0 || e == api.ErrForm), digits(m...), digits(n))
	q, e = lex.Apply(s, marks)
	say(e, q == "", q)
	n, e = lex.Moved(s, marks, place)
	say(e, n == 0, digits(n))
	u, e := lex.Undo(s, marks)
	say(e, len(u) == 0, shownSplices(u))
	u, e = lex.Diff(s, r)
	say(e, len(u) == 0, shownSplices(u))
	n, k, e := lex.Kept(s, x)
	say(e, n == 0 && k == 0, digits(n, k))
	q, e = lex.Rename(s, r, "x")
	say(e, q == "", q)
	return b.String()
}
