package lex_test

import (
	"slices"
	"strconv"
	"strings"
	"testing"

	"riposte/api"
	"riposte/lex"
)

// dice are numbers that look random and are the same in each run.
type dice uint64

func (d *dice) below(n int) int {
	*d = *d*6364136223846793005 + 1442695040888963407
	return int(uint64(*d)>>33) % n
}

// text joins as many of the parts as n says.
func (d *dice) text(n int, parts []string) string {
	var b strings.Builder
	for range n {
		b.WriteString(parts[d.below(len(parts))])
	}
	return b.String()
}

// rightParts make texts whose tokens are right mostly, and brackets seldom.
func rightParts() []string {
	return []string{"a", "b ", "xs", "x", " y", "if ", "in", "int", " 1 ", "20", " 0 ", ":", "=", ":=", "-", "->", "<", "*", "!", ".", "(", ")", "{", "}", ",", ";", " ", " ", "\n", "\n", "~", "~ x\n"}
}

// anyParts make texts with all that can be wrong.
func anyParts() []string {
	return append(rightParts(), "A", "01", "1a", ">", "#", "1000001", "abcdefghijklm", "\t", "\x7f", "\x80", "\x00")
}

// splices returns splices that are right for a text of n bytes.
func (d *dice) splices(n, many int, parts []string) []api.Splice {
	var places []int
	for range 2 * many {
		places = append(places, d.below(n+1))
	}
	slices.Sort(places)
	var l []api.Splice
	for i := range many {
		l = append(l, api.Splice{From: places[2*i], To: places[2*i+1], Text: d.text(d.below(3), parts)})
	}
	return l
}

func splice(from, to int, s string) api.Splice { return api.Splice{From: from, To: to, Text: s} }

func name(s string) api.Token { return api.Token{Kind: api.TokName, Text: s} }

func number(s string) api.Token { return api.Token{Kind: api.TokNumber, Text: s} }

func word(s string) api.Token { return api.Token{Kind: api.TokWord, Text: s} }

func sign(s string) api.Token { return api.Token{Kind: api.TokSign, Text: s} }

func at(t api.Token, n int) api.Token {
	t.At = n
	return t
}

// bare returns tokens without their places.
func bare(l []api.Token) []api.Token {
	l = slices.Clone(l)
	for i := range l {
		l[i].At = 0
	}
	return l
}

// tokens returns the tokens of a text that must have some.
func tokens(t *testing.T, s string) []api.Token {
	t.Helper()
	l, n, e := lex.Tokens(s)
	if n != 0 || e != api.OK {
		t.Fatalf("Tokens of %q: %d, %v", s, n, e)
	}
	return l
}

// apply returns a text after splices that must be right.
func apply(t *testing.T, s string, l []api.Splice) string {
	t.Helper()
	r, e := lex.Apply(s, l)
	if e != api.OK {
		t.Fatalf("Apply of %q, %v: %v", s, l, e)
	}
	return r
}

// long has the greatest length of a text.
func long() string { return strings.Repeat("~", api.MaxText) }

// wrongTexts are texts with the errors of a text.
func wrongTexts() map[string]api.Errno {
	return map[string]api.Errno{
		long() + "~":            api.ErrLimit,
		long() + "\t":           api.ErrLimit,
		"\t" + long():           api.ErrLimit,
		"\t":                    api.ErrArg,
		"a\r":                   api.ErrArg,
		"a\x1f":                 api.ErrArg,
		"a\x7f":                 api.ErrArg,
		"a\x80":                 api.ErrArg,
		"~\u00e9":               api.ErrArg,
		"a\x00":                 api.ErrArg,
		long()[1:] + "\x0b":     api.ErrArg,
		"abcdefghijklm 01 \xff": api.ErrArg,
	}
}

// digits returns numbers as a text.
func digits(l ...int) string {
	var b strings.Builder
	for _, n := range l {
		b.WriteString(strconv.Itoa(n))
		b.WriteByte(' ')
	}
	return b.String()
}

// shown returns tokens as a text.
func shown(l []api.Token) string {
	var b strings.Builder
	for _, t := range l {
		b.WriteString(digits(int(t.Kind), t.At) + t.Text)
	}
	return b.String()
}

// shownSplices returns splices as a text.
func shownSplices(l []api.Splice) string {
	var b strings.Builder
	for _, x := range l {
		b.WriteString(digits(x.From, x.To) + x.Text)
	}
	return b.String()
}
