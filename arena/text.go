package arena

import (
	"strconv"
	"strings"

	"riposte/api"
)

// Texts are read without a look at their form: each one says some move, or arena, whatever it is. It has the form if this has the same text.

// signs returns the signs of all kinds of moves.
func signs() map[uint8]string {
	return map[uint8]string{api.MoveAsk: "?", api.MovePut: "=", api.MoveTell: "!"}
}

// placeText returns the text of the place of a move.
func placeText(m api.Move) string {
	if m.Arg == 0 {
		return strconv.Itoa(m.Id)
	}
	return strconv.Itoa(m.Id) + "." + strconv.Itoa(m.Arg)
}

// valueText returns what stands behind the sign of a move, and whether its kind can have its value.
func valueText(m api.Move) (string, bool) {
	switch {
	case m.Kind == api.MoveAsk:
		return "", m.N == 0
	case m.Kind == api.MoveTell && m.N == api.Esc:
		return "*", true
	}
	return strconv.Itoa(m.N), m.N >= 0
}

// moveOf returns the move that a text says, if it is one of a kind.
func moveOf(s string, kind uint8, sign string) api.Move {
	at, value, _ := strings.Cut(s, sign)
	id, arg, _ := strings.Cut(at, ".")
	m := api.Move{Id: number(id), Arg: number(arg), Kind: kind, N: number(value)}
	if value == "*" {
		m.N = api.Esc
	}
	return m
}

// number returns the number that a text says, if it says one.
func number(s string) int {
	n, _ := strconv.Atoi(s)
	return n
}

// baseText returns the text of a base type.
func baseText(b api.Base) string {
	if b.Cell {
		return "cell " + strconv.Itoa(b.N)
	}
	return "int " + strconv.Itoa(b.N)
}

// baseOf returns the base type that a text says, if it says one.
func baseOf(s string) api.Base {
	kind, n, _ := strings.Cut(s, " ")
	return api.Base{Cell: kind == "cell", N: number(n)}
}

// typeText returns the text of a type.
func typeText(x api.Type) string {
	if len(x.Params) == 0 {
		return baseText(x.Result)
	}
	return "(" + strings.Join(listOf(x.Params, baseText), ", ") + ") -> " + baseText(x.Result)
}

// typeOf returns the type that a text says, if it says one.
func typeOf(s string) api.Type {
	params, result, ok := strings.Cut(strings.TrimPrefix(s, "("), ") -> ")
	if !ok {
		return api.Type{Result: baseOf(s)}
	}
	return api.Type{Params: listOf(strings.Split(params, ", "), baseOf), Result: baseOf(result)}
}

// arenaText returns the text of an arena.
func arenaText(a api.Arena) string {
	parts := append([]string{baseText(a.Root)}, listOf(a.Ids, typeText)...)
	if a.Jumps {
		parts = append(parts, "jumps")
	}
	return strings.Join(parts, "; ")
}

// arenaOf returns the arena that a text says, if it says one.
func arenaOf(s string) api.Arena {
	types, jumps := strings.CutSuffix(s, "; jumps")
	parts := strings.Split(types, "; ")
	return api.Arena{Ids: listOf(parts[1:], typeOf), Root: baseOf(parts[0]), Jumps: jumps}
}
