// Package lex is layer 1, texts: their tokens and comments, the places in them, and how they change.
package lex

import (
	"strings"

	"riposte/api"
)

// Tokens returns the tokens of a text and 0; with an error, no tokens and where it is.
func Tokens(s string) ([]api.Token, int, api.Errno) {
	if at, e := textError(s); e != api.OK {
		return nil, at, e
	}
	var l []api.Token
	for t, e := range pieces(s) {
		if t.Kind == api.TokNote {
			continue
		}
		if e == api.OK && len(l) == api.MaxTokens {
			e = api.ErrLimit
		}
		if e != api.OK {
			return nil, t.At, e
		}
		l = append(l, t)
	}
	return l, 0, api.OK
}

// Notes returns the comments of a text, without the ~, at the place of the ~. The text's tokens may be wrong.
func Notes(s string) ([]api.Token, api.Errno) {
	if _, e := textError(s); e != api.OK {
		return nil, e
	}
	var l []api.Token
	for t := range pieces(s) {
		if t.Kind == api.TokNote {
			l = append(l, t)
		}
	}
	return l, api.OK
}

// Spot returns the line and the column of a place.
func Spot(s string, at int) (api.Spot, api.Errno) {
	if _, e := textError(s); e != api.OK {
		return api.Spot{}, e
	}
	if at < 0 || at > len(s) {
		return api.Spot{}, api.ErrRange
	}
	before := s[:at]
	return api.Spot{Line: strings.Count(before, "\n") + 1, Column: at - strings.LastIndexByte(before, '\n')}, api.OK
}

// At returns the place of a line and a column.
func At(s string, p api.Spot) (int, api.Errno) {
	if _, e := textError(s); e != api.OK {
		return 0, e
	}
	start := 0
	for i, line := range strings.Split(s, "\n") {
		// The column behind a line's last byte is that of its line feed, or of the end.
		if i+1 == p.Line && 1 <= p.Column && p.Column-1 <= len(line) {
			return start + p.Column - 1, api.OK
		}
		start += len(line) + 1
	}
	return 0, api.ErrNone
}

// Tight returns the shortest text that has these tokens, in this order.
func Tight(l []api.Token) (string, api.Errno) {
	if e := tokensError(l); e != api.OK {
		return "", e
	}
	var b strings.Builder
	for i, t := range l {
		if i > 0 && growTogether(l[i-1], t) {
			b.WriteByte(' ')
		}
		b.WriteString(t.Text)
	}
	if b.Len() > api.MaxText {
		return "", api.ErrLimit
	}
	return b.String(), api.OK
}

// growTogether tells whether two tokens would be read as another one without a blank between them.
func growTogether(x, y api.Token) bool {
	return x.Kind != api.TokSign && y.Kind != api.TokSign || x.Text == ":" && y.Text == "="
}

// Pairs returns for each token the number of the bracket that belongs to it, or -1, and 0; with ErrForm, the number of the token that has no partner.
func Pairs(l []api.Token) ([]int, int, api.Errno) {
	if e := tokensError(l); e != api.OK {
		return nil, 0, e
	}
	partners := make([]int, len(l))
	var open []int
	for i, t := range l {
		partners[i] = -1
		switch t.Text {
		case "(", "{":
			open = append(open, i)
		case ")", "}":
			last := len(open) - 1
			if last < 0 || l[open[last]].Text != opener(t.Text) {
				return nil, i, api.ErrForm
			}
			partners[i], partners[open[last]] = open[last], i
			open = open[:last]
		}
	}
	if len(open) > 0 {
		return nil, open[0], api.ErrForm
	}
	return partners, 0, api.OK
}

// opener returns the bracket that a closing one closes.
func opener(s string) string {
	if s == ")" {
		return "("
	}
	return "{"
}
