package lex

import (
	"iter"
	"slices"
	"strconv"
	"strings"

	"riposte/api"
)

// signs are the bytes with which signs begin; each of them is a sign by itself too.
const signs = "=<+-*!(){},;:."

// wordList has all keywords.
const wordList = "and as bool cell choose com def do else export false fn get hang if import in int jump label new not notice of or put skip then true while"

// class says what a byte can be in a text.
type class uint8

const (
	stray   class = iota // it stands in no text
	odd                  // it stands in comments alone
	blank                // it stands between tokens
	tilde                // it begins a comment
	small                // it begins a keyword or a name
	capital              // it stands in keywords, names and numbers, but not first
	digit                // it begins a number
	sign                 // it begins a sign
)

func classOf(c byte) class {
	switch {
	case c == ' ' || c == '\n':
		return blank
	case c == '~':
		return tilde
	case 'a' <= c && c <= 'z':
		return small
	case 'A' <= c && c <= 'Z':
		return capital
	case '0' <= c && c <= '9':
		return digit
	case strings.IndexByte(signs, c) >= 0:
		return sign
	case ' ' < c && c < '~':
		return odd
	}
	return stray
}

// isOf tells whether a byte is of one of the classes.
func isOf(c byte, l ...class) bool { return slices.Contains(l, classOf(c)) }

// keywords returns the set of all keywords.
func keywords() map[string]bool {
	m := map[string]bool{}
	for _, w := range strings.Fields(wordList) {
		m[w] = true
	}
	return m
}

// strayByte returns the place of the first byte that is none of a text, or -1.
func strayByte(s string) int {
	for i := range len(s) {
		if isOf(s[i], stray) {
			return i
		}
	}
	return -1
}

// textError returns the error of a text, and where it is.
func textError(s string) (int, api.Errno) {
	if len(s) > api.MaxText {
		return 0, api.ErrLimit
	}
	if i := strayByte(s); i >= 0 {
		return i, api.ErrArg
	}
	return 0, api.OK
}

// runEnd returns where the bytes from a place on that are as ok says end.
func runEnd(s string, at int, ok func(c byte) bool) int {
	for at < len(s) && ok(s[at]) {
		at++
	}
	return at
}

// pieceEnd returns where the comment or token that begins at a place ends.
func pieceEnd(s string, at int) int {
	switch classOf(s[at]) {
	case tilde:
		return runEnd(s, at, func(c byte) bool { return c != '\n' })
	case small, digit:
		return runEnd(s, at, func(c byte) bool { return isOf(c, small, capital, digit) })
	case sign:
		if strings.HasPrefix(s[at:], ":=") || strings.HasPrefix(s[at:], "->") {
			return at + 2
		}
	}
	return at + 1
}

// kindOf returns the kind of a comment or token, and what is wrong with it. It needs the ~ of a comment.
func kindOf(piece string, words map[string]bool) (uint8, api.Errno) {
	switch classOf(piece[0]) {
	case tilde:
		return api.TokNote, api.OK
	case small:
		if words[piece] {
			return api.TokWord, api.OK
		}
		if len(piece) <= api.MaxName {
			return api.TokName, api.OK
		}
	case digit:
		return api.TokNumber, numberError(piece)
	case sign:
		return api.TokSign, api.OK
	}
	return 0, api.ErrForm
}

// numberError returns what is wrong with a number.
func numberError(s string) api.Errno {
	if s[0] == '0' && len(s) > 1 || runEnd(s, 0, func(c byte) bool { return isOf(c, digit) }) < len(s) {
		return api.ErrForm
	}
	if n, err := strconv.Atoi(s); err != nil || n > api.MaxNumber {
		return api.ErrRange
	}
	return api.OK
}

// pieces yields the comments and tokens of a text from left to right, each with what is wrong with it. A byte with which nothing begins is a piece of its own, so that the comments behind it are found.
func pieces(s string) iter.Seq2[api.Token, api.Errno] {
	return func(yield func(api.Token, api.Errno) bool) {
		words := keywords()
		for at := 0; at < len(s); {
			if isOf(s[at], blank) {
				at++
				continue
			}
			end := pieceEnd(s, at)
			kind, e := kindOf(s[at:end], words)
			if !yield(api.Token{Kind: kind, Text: strings.TrimPrefix(s[at:end], "~"), At: at}, e) {
				return
			}
			at = end
		}
	}
}

// isRight tells whether a token is one as it stands alone.
func isRight(t api.Token, words map[string]bool) bool {
	if t.Kind == api.TokNote || t.Text == "" || pieceEnd(t.Text, 0) < len(t.Text) {
		return false
	}
	kind, e := kindOf(t.Text, words)
	return e == api.OK && kind == t.Kind
}

// isName tells whether a text is a name.
func isName(s string) bool {
	return isRight(api.Token{Kind: api.TokName, Text: s}, keywords())
}

// tokensError returns the error of a list of tokens that were not read from a text.
func tokensError(l []api.Token) api.Errno {
	if len(l) > api.MaxTokens {
		return api.ErrLimit
	}
	words := keywords()
	if slices.ContainsFunc(l, func(t api.Token) bool { return !isRight(t, words) }) {
		return api.ErrArg
	}
	return api.OK
}
