package lex_test

import (
	"regexp"
	"slices"
	"strconv"
	"strings"
	"testing"

	"riposte/api"
	"riposte/lex"
)

// P1.1: each kind of token, the longest ones, and their places.
func TestTokens(t *testing.T) {
	for s, want := range map[string][]api.Token{
		"":               nil,
		" \n  \n":        nil,
		"~a\n~b":         nil,
		"x:=1 ~a":        {at(name("x"), 0), at(sign(":="), 1), at(number("1"), 3)},
		"x~y\nz":         {at(name("x"), 0), at(name("z"), 4)},
		"~:= 01 A # \nz": {at(name("z"), 12)},
		"aZ9 a0":         {at(name("aZ9"), 0), at(name("a0"), 4)},
		"iffy if ifA":    {at(name("iffy"), 0), at(word("if"), 5), at(name("ifA"), 8)},
		"abcdefghijkl":   {at(name("abcdefghijkl"), 0)},
		"0 7 1000000":    {at(number("0"), 0), at(number("7"), 2), at(number("1000000"), 4)},
		"::==:-->-":      {at(sign(":"), 0), at(sign(":="), 1), at(sign("="), 3), at(sign(":"), 4), at(sign("-"), 5), at(sign("->"), 6), at(sign("-"), 8)},
		": = - ":         {at(sign(":"), 0), at(sign("="), 2), at(sign("-"), 4)},
		"f(1)":           {at(name("f"), 0), at(sign("("), 1), at(number("1"), 2), at(sign(")"), 3)},
	} {
		if l, n, e := lex.Tokens(s); !slices.Equal(l, want) || n != 0 || e != api.OK {
			t.Errorf("%q: %v, %d, %v", s, l, n, e)
		}
	}
	for i := range len("=<+-*!(){},;:.") {
		s := "=<+-*!(){},;:."[i : i+1]
		if l := tokens(t, s); !slices.Equal(l, []api.Token{sign(s)}) {
			t.Errorf("%q: %v", s, l)
		}
	}
}

// P1.1: the keywords, and no other words.
func TestKeywords(t *testing.T) {
	words := strings.Fields("and as bool cell choose com def do else export false fn get hang if import in int jump label new not notice of or put skip then true while")
	if len(words) != 30 {
		t.Fatal(len(words))
	}
	for _, w := range words {
		if l := tokens(t, w); !slices.Equal(l, []api.Token{word(w)}) {
			t.Errorf("%q: %v", w, l)
		}
		for _, s := range []string{w + "1", w + "A", w + "x", "x" + w} {
			if l := tokens(t, s); !slices.Equal(l, []api.Token{name(s)}) {
				t.Errorf("%q: %v", s, l)
			}
		}
	}
	for _, s := range []string{"a", "begin", "var", "ref", "is"} {
		if l := tokens(t, s); !slices.Equal(l, []api.Token{name(s)}) {
			t.Errorf("%q: %v", s, l)
		}
	}
}

// P1.1: each error of the tokens, where it is, and which one comes first.
func TestTokensErrors(t *testing.T) {
	for _, x := range []struct {
		s  string
		at int
		e  api.Errno
	}{
		{"def Ab", 4, api.ErrForm}, {"a > b", 2, api.ErrForm}, {"a-_", 2, api.ErrForm}, {"\"", 0, api.ErrForm}, {"a/b", 1, api.ErrForm},
		{"x abcdefghijklm", 2, api.ErrForm}, {"abcdefghijkl1", 0, api.ErrForm}, {"notice1234567", 0, api.ErrForm},
		{"a 01", 2, api.ErrForm}, {"00", 0, api.ErrForm}, {"1a", 0, api.ErrForm}, {"x=1A", 2, api.ErrForm}, {"0x", 0, api.ErrForm}, {"09999999999999999999999", 0, api.ErrForm}, {"99999999999999999999999a", 0, api.ErrForm},
		{"1000001", 0, api.ErrRange}, {"a 9999999", 2, api.ErrRange}, {"9223372036854775808", 0, api.ErrRange}, {"a\n" + strings.Repeat("9", 500), 2, api.ErrRange},
		{"1000001 A", 0, api.ErrRange}, {"A 1000001", 0, api.ErrForm}, {"~A\nA", 3, api.ErrForm},
		{"A \t", 2, api.ErrArg}, {"1000001\r1", 7, api.ErrArg}, {"a\x80\x7f", 1, api.ErrArg}, {"~\x7f", 1, api.ErrArg}, {"~\u00e9", 1, api.ErrArg},
		{long() + "a", 0, api.ErrLimit}, {"\t" + long(), 0, api.ErrLimit}, {"A" + long(), 0, api.ErrLimit},
		{strings.Repeat(";", 901), 900, api.ErrLimit}, {strings.Repeat("a ", 900) + "~\n b", 1803, api.ErrLimit}, {strings.Repeat(";", 901) + "A", 900, api.ErrLimit},
		{strings.Repeat(";", 900) + "A", 900, api.ErrForm}, {strings.Repeat(";", 900) + " 1000001", 901, api.ErrRange}, {strings.Repeat(";", 901) + "\t", 901, api.ErrArg},
	} {
		if l, n, e := lex.Tokens(x.s); len(l) != 0 || n != x.at || e != x.e {
			t.Errorf("%q: %v, %d, %v; wanted %d, %v", x.s, l, n, e, x.at, x.e)
		}
	}
}

// P1.1: the limits are reached.
func TestTokensLimits(t *testing.T) {
	if l := tokens(t, strings.Repeat("; ", 900)); len(l) != api.MaxTokens || l[899] != at(sign(";"), 1798) {
		t.Errorf("%d tokens", len(l))
	}
	if l := tokens(t, strings.Repeat(";", 900)+" ~;"); len(l) != api.MaxTokens {
		t.Errorf("%d tokens", len(l))
	}
	if l := tokens(t, strings.Repeat(" ", api.MaxText-1)+"x"); !slices.Equal(l, []api.Token{at(name("x"), api.MaxText-1)}) {
		t.Errorf("a long text: %v", l)
	}
	if l := tokens(t, long()); len(l) != 0 {
		t.Errorf("a long comment: %v", l)
	}
}

// byTable reads one token as the chapter's table says it; it is another way than that of lex.
func byTable(s string) (string, uint8, api.Errno) {
	p := regexp.MustCompile(`^(?:[a-z0-9][A-Za-z0-9]*|:=|->|[-=<+*!(){},;:.])`).FindString(s)
	switch {
	case p == "":
		return s[:1], 0, api.ErrForm
	case regexp.MustCompile(`^(and|as|bool|cell|choose|com|def|do|else|export|false|fn|get|hang|if|import|in|int|jump|label|new|not|notice|of|or|put|skip|then|true|while)$`).MatchString(p):
		return p, api.TokWord, api.OK
	case p[0] >= 'a' && p[0] <= 'z':
		if len(p) > 12 {
			return p, 0, api.ErrForm
		}
		return p, api.TokName, api.OK
	case p[0] >= '0' && p[0] <= '9':
		if !regexp.MustCompile(`^(0|[1-9][0-9]*)$`).MatchString(p) {
			return p, 0, api.ErrForm
		}
		if n, err := strconv.ParseUint(p, 10, 64); err != nil || n > 1000000 {
			return p, 0, api.ErrRange
		}
		return p, api.TokNumber, api.OK
	}
	return p, api.TokSign, api.OK
}

// allByTable reads a text as Tokens and Notes do.
func allByTable(s string) (l, notes []api.Token, wrong int, e api.Errno) {
	start := 0
	for _, line := range strings.SplitAfter(s, "\n") {
		body, note, has := strings.Cut(line, "~")
		if has {
			notes = append(notes, api.Token{Kind: api.TokNote, Text: strings.TrimSuffix(note, "\n"), At: start + len(body)})
		}
		for i := 0; i < len(body) && e == api.OK; {
			if body[i] == ' ' || body[i] == '\n' {
				i++
				continue
			}
			p, kind, f := byTable(body[i:])
			if f != api.OK {
				wrong, e = start+i, f
				break
			}
			l = append(l, api.Token{Kind: kind, Text: p, At: start + i})
			i += len(p)
		}
		start += len(line)
	}
	if e != api.OK {
		l = nil
	}
	return l, notes, wrong, e
}

// P1.1: texts of all sorts are read as the table says.
func TestTokensByTable(t *testing.T) {
	d := dice(11)
	parts := slices.DeleteFunc(anyParts(), func(p string) bool { return wrongByte(p) >= 0 })
	for range 4000 {
		s := d.text(d.below(12), parts)
		want, wantNotes, wantAt, wantE := allByTable(s)
		if l, n, e := lex.Tokens(s); !slices.Equal(l, want) || n != wantAt || e != wantE {
			t.Fatalf("%q: Tokens: %v, %d, %v; wanted %v, %d, %v", s, l, n, e, want, wantAt, wantE)
		}
		if l, e := lex.Notes(s); !slices.Equal(l, wantNotes) || e != api.OK {
			t.Fatalf("%q: Notes: %v, %v; wanted %v", s, l, e, wantNotes)
		}
	}
}

// wrongByte returns the place of the first byte that is none of a text, or -1.
func wrongByte(s string) int {
	for i := range len(s) {
		if s[i] != '\n' && (s[i] < 32 || s[i] > 126) {
			return i
		}
	}
	return -1
}

// P1.1: which bytes there are in texts.
func TestBytes(t *testing.T) {
	for c := range 256 {
		s := "~ab" + string([]byte{byte(c)})
		want, place := api.OK, 0
		if wrongByte(s) >= 0 {
			want, place = api.ErrArg, 3
		}
		if l, n, e := lex.Tokens(s); len(l) != 0 || n != place || e != want {
			t.Errorf("%q: %v, %d, %v", s, l, n, e)
		}
		if _, e := lex.Notes(s); e != want {
			t.Errorf("%q: Notes: %v", s, e)
		}
	}
}

// P1.1: the comments, in texts with wrong tokens too.
func TestNotes(t *testing.T) {
	note := func(s string, n int) api.Token { return api.Token{Kind: api.TokNote, Text: s, At: n} }
	for s, want := range map[string][]api.Token{
		"":                                 nil,
		"x := 1":                           nil,
		"~":                                {note("", 0)},
		"x ~a":                             {note("a", 2)},
		"~a\n ~b \n\n~~c~\n~":              {note("a", 0), note("b ", 4), note("~c~", 9), note("", 14)},
		"A~a\n01~b\n>~c":                   {note("a", 1), note("b", 6), note("c", 10)},
		"abcdefghijklm~1\n9999999~2\n1a~3": {note("1", 13), note("2", 23), note("3", 28)},
		strings.Repeat(";", 901) + "~z":    {note("z", 901)},
		long():                             {note(long()[1:], 0)},
	} {
		if l, e := lex.Notes(s); !slices.Equal(l, want) || e != api.OK {
			t.Errorf("%q: %v, %v", s, l, e)
		}
	}
	for s, want := range wrongTexts() {
		if l, e := lex.Notes(s); len(l) != 0 || e != want {
			t.Errorf("%q: %v, %v", s, l, e)
		}
	}
}

// P1.2: Spot, with its errors.
func TestSpot(t *testing.T) {
	for _, x := range []struct {
		s       string
		at      int
		line, c int
	}{
		{"", 0, 1, 1}, {"a", 0, 1, 1}, {"a", 1, 1, 2}, {"a\nbc", 1, 1, 2}, {"a\nbc", 2, 2, 1}, {"a\nbc", 3, 2, 2}, {"a\nbc", 4, 2, 3},
		{"\n", 0, 1, 1}, {"\n", 1, 2, 1}, {"\n\n\n", 3, 4, 1}, {"A ~\n01", 6, 2, 3}, {long(), api.MaxText, 1, api.MaxText + 1},
	} {
		if p, e := lex.Spot(x.s, x.at); p != (api.Spot{Line: x.line, Column: x.c}) || e != api.OK {
			t.Errorf("%q, %d: %v, %v", x.s, x.at, p, e)
		}
	}
	for _, n := range []int{-1, 3, 4, -1 << 63, 1<<63 - 1} {
		if p, e := lex.Spot("a\n", n); p != (api.Spot{}) || e != api.ErrRange {
			t.Errorf("%d: %v, %v", n, p, e)
		}
	}
	for s, want := range wrongTexts() {
		for _, n := range []int{0, -1, 99999} {
			if p, e := lex.Spot(s, n); p != (api.Spot{}) || e != want {
				t.Errorf("%q, %d: %v, %v", s, n, p, e)
			}
		}
	}
}

// P1.2: At, with its errors.
func TestAt(t *testing.T) {
	for _, x := range []struct {
		s             string
		line, c, want int
	}{
		{"", 1, 1, 0}, {"a", 1, 1, 0}, {"a", 1, 2, 1}, {"a\nbc", 1, 2, 1}, {"a\nbc", 2, 1, 2}, {"a\nbc", 2, 3, 4}, {"a\n", 2, 1, 2}, {"\n\n", 2, 1, 1}, {"\n\n", 3, 1, 2}, {long(), 1, api.MaxText + 1, api.MaxText},
	} {
		if n, e := lex.At(x.s, api.Spot{Line: x.line, Column: x.c}); n != x.want || e != api.OK {
			t.Errorf("%q, %d, %d: %d, %v", x.s, x.line, x.c, n, e)
		}
	}
	least, most := -1<<63, 1<<63-1
	for _, p := range []api.Spot{{}, {Line: 1}, {Column: 1}, {Line: 1, Column: 3}, {Line: 2, Column: 4}, {Line: 3, Column: 1}, {Line: -1, Column: 1}, {Line: 1, Column: -1}, {Line: 1, Column: least}, {Line: 1, Column: most}, {Line: 2, Column: most}, {Line: most, Column: 1}, {Line: least, Column: least}, {Line: 2, Column: least}} {
		if n, e := lex.At("a\nbc", p); n != 0 || e != api.ErrNone {
			t.Errorf("%v: %d, %v", p, n, e)
		}
	}
	for s, want := range wrongTexts() {
		for _, p := range []api.Spot{{}, {Line: 1, Column: 1}} {
			if n, e := lex.At(s, p); n != 0 || e != want {
				t.Errorf("%q, %v: %d, %v", s, p, n, e)
			}
		}
	}
}

// wrongTokens are no tokens, each for a reason of its own.
func wrongTokens() []api.Token {
	return []api.Token{
		{}, {Kind: api.TokName}, {Kind: api.TokSign}, {Kind: api.TokNote}, {Kind: api.TokNote, Text: "x"}, {Kind: api.TokNote, Text: "~x"}, {Text: "x"}, {Kind: 6, Text: "x"}, {Kind: 255, Text: "("},
		name("if"), word("x"), number("x"), sign("x"), name("1"), name("("), number("("), word("("), sign("1"), sign("if"),
		name("x "), name(" x"), name("x y"), name("x("), name("X"), name("abcdefghijklm"), name("x\n"), name("x~"), name("\xc3\xa9"), name("x\x80"),
		number("01"), number("00"), number("1a"), number("-1"), number("1000001"), number("99999999999999999999999"), number(" 1"), number(""), number("1.0"),
		sign(">"), sign("=="), sign("-->"), sign("- >"), sign(": ="), sign(":=="), sign("()"), sign(" "), sign("\n"), sign("~"), sign("#"), word("if "), word("IF"), word(""),
	}
}

// P1.3: Tight, with its errors.
func TestTight(t *testing.T) {
	for _, x := range []struct {
		l    []api.Token
		want string
	}{
		{nil, ""}, {[]api.Token{}, ""},
		{[]api.Token{name("x"), sign(":"), sign("="), word("in"), sign("(")}, "x: =in("},
		{[]api.Token{name("a"), name("b"), number("1"), number("2"), word("if"), word("in"), number("3"), name("c"), word("do")}, "a b 1 2 if in 3 c do"},
		{[]api.Token{sign(":"), sign(":="), sign("="), sign("="), sign("-"), sign("->"), sign("-"), sign("="), sign(":")}, "::===-->-=:"},
		{[]api.Token{sign("="), sign(":"), sign("("), sign("=")}, "=:(="},
		{[]api.Token{sign(":"), sign("="), sign(":"), sign("=")}, ": =: ="},
		{[]api.Token{number("1000000"), sign("+"), name("abcdefghijkl")}, "1000000+abcdefghijkl"},
		{[]api.Token{at(name("x"), -7), at(name("y"), 1<<62)}, "x y"},
	} {
		if s, e := lex.Tight(x.l); s != x.want || e != api.OK {
			t.Errorf("%v: %q, %v", x.l, s, e)
		}
	}
	for _, w := range wrongTokens() {
		for _, l := range [][]api.Token{{w}, {name("x"), w}, {w, sign("(")}, append(slices.Repeat([]api.Token{name("abcdefghijkl")}, 899), w)} {
			if s, e := lex.Tight(l); s != "" || e != api.ErrArg {
				t.Errorf("%v: %q, %v", w, s, e)
			}
		}
		if s, e := lex.Tight(slices.Repeat([]api.Token{w}, 901)); s != "" || e != api.ErrLimit {
			t.Errorf("%v, too often: %q, %v", w, s, e)
		}
	}
}

// P1.3: the limits of Tight.
func TestTightLimits(t *testing.T) {
	// 192 names of 12 bytes, with the blanks between them, have 2495 bytes.
	row := slices.Repeat([]api.Token{name("abcdefghijkl")}, 192)
	for n, want := range map[int]api.Errno{1: api.OK, 4: api.OK, 5: api.ErrLimit, 12: api.ErrLimit} {
		s, e := lex.Tight(append(slices.Clone(row), name("abcdefghijkl"[:n])))
		if e != want || e == api.OK && len(s) != 2496+n || e != api.OK && s != "" {
			t.Errorf("%d: %d bytes, %v", n, len(s), e)
		}
	}
	for n, want := range map[int]api.Errno{899: api.OK, 900: api.OK, 901: api.ErrLimit} {
		s, e := lex.Tight(slices.Repeat([]api.Token{sign("->")}, n))
		if e != want || e == api.OK && s != strings.Repeat("->", n) || e != api.OK && s != "" {
			t.Errorf("%d tokens: %d bytes, %v", n, len(s), e)
		}
	}
}

// P1.4: Pairs, with the brackets that have no partner.
func TestPairs(t *testing.T) {
	for s, want := range map[string][]int{
		"": nil, "x + 1": {-1, -1, -1}, "()": {1, 0}, "{}": {1, 0}, "f({x}())": {-1, 7, 4, -1, 2, 6, 5, 1}, "(a)(b)": {2, -1, 0, 5, -1, 3}, "((a){})": {6, 3, -1, 1, 5, 4, 0},
	} {
		if l, n, e := lex.Pairs(tokens(t, s)); !slices.Equal(l, want) || n != 0 || e != api.OK {
			t.Errorf("%q: %v, %d, %v", s, l, n, e)
		}
	}
	for s, want := range map[string]int{
		"(": 0, ")": 0, "}": 0, "a{": 1, "f(x){": 4, "(}": 1, "{)": 1, "({": 0, "(()": 0, "()(": 2, "(){(": 2, "({)}": 2, "())(": 2, "((}": 2, "(a{b(c": 0, "{}(()": 2,
	} {
		if l, n, e := lex.Pairs(tokens(t, s)); len(l) != 0 || n != want || e != api.ErrForm {
			t.Errorf("%q: %v, %d, %v", s, l, n, e)
		}
	}
	for _, w := range wrongTokens() {
		for _, l := range [][]api.Token{{w}, {name("x"), w}, {sign(")"), w}} {
			if r, n, e := lex.Pairs(l); len(r) != 0 || n != 0 || e != api.ErrArg {
				t.Errorf("%v: %v, %d, %v", w, r, n, e)
			}
		}
		if r, n, e := lex.Pairs(slices.Repeat([]api.Token{w}, 901)); len(r) != 0 || n != 0 || e != api.ErrLimit {
			t.Errorf("%v, too often: %v, %d, %v", w, r, n, e)
		}
	}
	deep := append(slices.Repeat([]api.Token{sign("(")}, 450), slices.Repeat([]api.Token{sign(")")}, 450)...)
	if l, n, e := lex.Pairs(deep); len(l) != 900 || l[0] != 899 || l[449] != 450 || l[899] != 0 || n != 0 || e != api.OK {
		t.Errorf("deep: %d, %d, %v", len(l), n, e)
	}
	if l, n, e := lex.Pairs(append(deep, sign(")"))); len(l) != 0 || n != 0 || e != api.ErrLimit {
		t.Errorf("too many: %v, %d, %v", l, n, e)
	}
}
