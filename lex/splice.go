package lex

import (
	"strings"

	"riposte/api"
)

// edit is a splice that knows what it does to a text.
type edit struct {
	api.Splice
	old   string // what it takes out
	place int    // where its Text begins in the text after all splices
}

// grows returns how many bytes an edit adds.
func (x edit) grows() int { return len(x.Text) - len(x.old) }

// editsOf returns what splices that are right do to a text.
func editsOf(s string, l []api.Splice) []edit {
	var r []edit
	grown := 0
	for _, x := range l {
		d := edit{Splice: x, old: s[x.From:x.To], place: x.From + grown}
		grown += d.grows()
		r = append(r, d)
	}
	return r
}

// areRight tells whether splices are right for a text of n bytes.
func areRight(n int, l []api.Splice) bool {
	at := 0
	for _, x := range l {
		if x.From < at || x.To < x.From || x.To > n {
			return false
		}
		at = x.To
	}
	return true
}

// edits returns what splices do to a text; with an error of the text or of the splices, nothing.
func edits(s string, l []api.Splice) ([]edit, api.Errno) {
	if _, e := textError(s); e != api.OK {
		return nil, e
	}
	if len(l) > api.MaxSplices {
		return nil, api.ErrLimit
	}
	if !areRight(len(s), l) {
		return nil, api.ErrRange
	}
	for _, x := range l {
		if strayByte(x.Text) >= 0 {
			return nil, api.ErrArg
		}
	}
	r := editsOf(s, l)
	n := len(s)
	for _, x := range r {
		n += x.grows()
	}
	if n > api.MaxText {
		return nil, api.ErrLimit
	}
	return r, api.OK
}

// edited returns the text after edits.
func edited(s string, l []edit) string {
	var b strings.Builder
	at := 0
	for _, x := range l {
		b.WriteString(s[at:x.From])
		b.WriteString(x.Text)
		at = x.To
	}
	b.WriteString(s[at:])
	return b.String()
}

// Apply returns the text after splices.
func Apply(s string, l []api.Splice) (string, api.Errno) {
	r, e := edits(s, l)
	if e != api.OK {
		return "", e
	}
	return edited(s, r), api.OK
}

// Moved returns where a byte, or the end, of a text stands after splices.
func Moved(s string, l []api.Splice, at int) (int, api.Errno) {
	r, e := edits(s, l)
	if e != api.OK {
		return 0, e
	}
	if at < 0 || at > len(s) {
		return 0, api.ErrRange
	}
	to := at
	for _, x := range r {
		if x.To <= at {
			to += x.grows()
		} else if x.From <= at {
			return 0, api.ErrNone
		}
	}
	return to, api.OK
}

// Undo returns the splices that lead from the text after splices to the one before.
func Undo(s string, l []api.Splice) ([]api.Splice, api.Errno) {
	r, e := edits(s, l)
	if e != api.OK {
		return nil, e
	}
	var back []api.Splice
	for _, x := range r {
		back = append(back, api.Splice{From: x.place, To: x.place + len(x.Text), Text: x.old})
	}
	return back, api.OK
}

// common returns how many elements of two lists, one after the other as at counts them, are the same.
func common[T any](a, b []T, at func(l []T, i int) T, same func(x, y T) bool) int {
	n := 0
	for n < min(len(a), len(b)) && same(at(a, n), at(b, n)) {
		n++
	}
	return n
}

// fromStart returns an element, counted from the first one.
func fromStart[T any](l []T, i int) T { return l[i] }

// fromEnd returns an element, counted from the last one.
func fromEnd[T any](l []T, i int) T { return l[len(l)-1-i] }

// Diff returns the splice that leads from a text to another one; none if they are the same.
func Diff(a, b string) ([]api.Splice, api.Errno) {
	for _, s := range []string{a, b} {
		if _, e := textError(s); e != api.OK {
			return nil, e
		}
	}
	if a == b {
		return nil, api.OK
	}
	same := func(x, y byte) bool { return x == y }
	head := common([]byte(a), []byte(b), fromStart, same)
	// What the beginnings have in common is not counted again at the ends.
	tail := common([]byte(a[head:]), []byte(b[head:]), fromEnd, same)
	return []api.Splice{{From: head, To: len(a) - tail, Text: b[head : len(b)-tail]}}, api.OK
}

// Kept returns how many tokens at the beginning of a text stay where they are when it is spliced, and how many of the others at its end stay as far from the end.
func Kept(s string, x api.Splice) (int, int, api.Errno) {
	after, e := Apply(s, []api.Splice{x})
	if e != api.OK {
		return 0, 0, e
	}
	old, _, e := Tokens(s)
	if e != api.OK {
		return 0, 0, e
	}
	now, _, e := Tokens(after)
	if e != api.OK {
		return 0, 0, e
	}
	grown := len(after) - len(s)
	head := common(old, now, fromStart, func(x, y api.Token) bool { return x == y })
	tail := common(old[head:], now[head:], fromEnd, func(x, y api.Token) bool {
		x.At += grown
		return x == y
	})
	return head, tail, api.OK
}

// Rename returns a text in which all names old are another name.
func Rename(s, old, name string) (string, api.Errno) {
	l, _, e := Tokens(s)
	if e != api.OK {
		return "", e
	}
	if !isName(old) || !isName(name) {
		return "", api.ErrArg
	}
	olds := placesOf(l, old, name)
	if len(olds) == 0 {
		return "", api.ErrNone
	}
	if len(placesOf(l, name, name)) > 0 {
		return "", api.ErrTwice
	}
	// A name can stand more than MaxSplices times in a text, so that Apply does not do here.
	after := edited(s, editsOf(s, olds))
	if len(after) > api.MaxText {
		return "", api.ErrLimit
	}
	return after, api.OK
}

// placesOf returns the splices that put name in the place of each name old.
func placesOf(l []api.Token, old, name string) []api.Splice {
	var r []api.Splice
	for _, t := range l {
		if t.Text == old {
			r = append(r, api.Splice{From: t.At, To: t.At + len(old), Text: name})
		}
	}
	return r
}
