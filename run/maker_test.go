package run_test

import (
	"slices"
	"strings"
	"testing"

	"riposte/api"
	"riposte/check"
	"riposte/parse"
	"riposte/play"
	"riposte/run"
)

// entity is a name that a maker has in sight. What is called may have params of any types; a label has a result that nothing has.
type entity struct {
	name   string
	params []api.Type
	result api.Base
	isNew  bool
}

func (x entity) isCell() bool { return x.result.Cell && len(x.params) == 0 }

// fits tells whether an entity is of a type.
func (x entity) fits(y api.Type) bool {
	return x.result == y.Result && slices.EqualFunc(x.params, y.Params, func(a api.Type, b api.Base) bool {
		return len(a.Params) == 0 && a.Result == b
	})
}

// label is the result of labels.
var label = api.Base{N: -1}

// maker makes the texts of programs at random. Not all of them are without errors: what has no size, though it must, is sifted out.
type maker struct {
	*dice
	room  int // how many terms may still come in an item
	depth int // how many terms are around
	fresh int // how many names there are in an item
}

// makeProgram makes a program without an error, that exports m.
func makeProgram(d *dice) api.Tree {
	for {
		m := &maker{dice: d}
		t, _, e := parse.Parse(m.program())
		if e != api.OK {
			continue
		}
		if _, _, e := check.Arena(t, "m", false); e == api.OK {
			return t
		}
	}
}

func (m *maker) size() int { return pick(m.dice, 1, 1, 2, 2, 2, 3, 3, 4, 5) }

func (m *maker) base() api.Base { return api.Base{Cell: m.below(3) == 0, N: m.size()} }

// anyType makes a type, more often than not one with params.
func (m *maker) anyType() api.Type {
	x := api.Type{Result: m.base()}
	if m.below(5) > 1 {
		x.Result.Cell = false
		for range 1 + m.below(2) {
			x.Params = append(x.Params, m.base())
		}
	}
	return x
}

func baseText(x api.Base) string {
	if x.Cell {
		return "cell " + itoa(x.N)
	}
	return "int " + itoa(x.N)
}

func typeText(x api.Type) string {
	var l []string
	for _, p := range x.Params {
		l = append(l, baseText(p))
	}
	if len(l) == 0 {
		return baseText(x.Result)
	}
	return "(" + strings.Join(l, ",") + ")->" + baseText(x.Result)
}

// name makes a name that is new in its item.
func (m *maker) name() string {
	m.fresh++
	return "v" + itoa(m.fresh)
}

// entityOf returns the entity with a type.
func entityOf(name string, x api.Type) entity {
	y := entity{name: name, result: x.Result}
	for _, p := range x.Params {
		y.params = append(y.params, api.Type{Result: p})
	}
	return y
}

// program makes the text of a program: imports, definitions, and the export, behind which there may be more.
func (m *maker) program() string {
	var s string
	var seen []entity
	for i := range 1 + m.below(4) {
		x := m.anyType()
		seen = append(seen, entityOf("i"+itoa(i), x))
		s += "import i" + itoa(i) + ":" + typeText(x) + ";"
	}
	for i := range m.below(4) {
		x := entity{name: "d" + itoa(i), result: api.Base{N: m.size()}}
		params, term := m.item(&x, seen)
		s += "def " + x.name + "(" + params + "):" + baseText(x.result) + "=" + term + ";"
		seen = append(seen, x)
	}
	x := entity{result: api.Base{N: m.size()}}
	params, term := m.item(&x, seen)
	s += "export m(" + params + "):" + baseText(x.result) + "=" + term + ";"
	return s + pick(m.dice, "", "", "import late:int 2;", "export n():com=skip;")
}

// item makes the params of an item, and its term.
func (m *maker) item(x *entity, seen []entity) (string, string) {
	m.room, m.fresh = 20, 0
	var l []string
	seen = slices.Clone(seen)
	for range m.below(3) {
		y := m.anyType()
		p := entityOf(m.name(), y)
		x.params = append(x.params, y)
		seen = append(seen, p)
		l = append(l, p.name+":"+typeText(y))
	}
	return strings.Join(l, ","), "(" + m.call(1, seen) + ";" + m.term(x.result.N, seen) + ")"
}

// among returns the entities of which something is so.
func among(seen []entity, is func(x entity) bool) []entity {
	return slices.DeleteFunc(slices.Clone(seen), func(x entity) bool { return !is(x) })
}

// leaf makes a term without kids.
func (m *maker) leaf(s int, seen []entity) string {
	l := []string{itoa(m.below(s))}
	switch s {
	case 1:
		l = []string{"skip", "skip", "skip"}
		if m.below(8) == 0 {
			l = append(l, "hang")
		}
	case 2:
		l = append(l, "true", "false")
	}
	for _, x := range seen {
		switch {
		case x.result == label && s == 1:
			l = append(l, "jump "+x.name, "jump "+x.name)
		case x.result.N != s || len(x.params) > 0:
		case x.result.Cell:
			l = append(l, "!"+x.name, "!"+x.name)
		default:
			l = append(l, x.name, x.name)
		}
	}
	return pick(m.dice, l...)
}

// sized makes a term that most often has a size by itself.
func (m *maker) sized(seen []entity) string {
	if m.below(4) == 0 {
		return "(" + itoa(m.below(9)) + " as " + itoa(m.size()) + ")"
	}
	return m.term(pick(m.dice, 2, 2, m.size()), seen)
}

// term makes a term of a size, that may stand anywhere.
func (m *maker) term(s int, seen []entity) string {
	if m.room--; m.room < 0 || m.depth > 5 || m.below(7) < m.depth {
		return m.leaf(s, seen)
	}
	m.depth++
	defer func() { m.depth-- }()
	and := func(x entity) []entity { return append(slices.Clone(seen), x) }
	switch m.below(17) {
	case 0, 1:
		return "(" + m.term(1, seen) + ";" + m.term(s, seen) + ")"
	case 2:
		return "(if " + m.sized(seen) + " then " + m.term(s, seen) + " else " + m.term(s, seen) + ")"
	case 3, 4:
		x := entity{m.name(), nil, api.Base{Cell: true, N: 1 + m.size()}, true}
		return "(new " + x.name + ":" + itoa(x.result.N) + ":=" + itoa(m.below(x.result.N)) + " in " + m.term(s, and(x)) + ")"
	case 5, 6:
		x := entity{name: m.name(), result: label}
		return "(label " + x.name + " in " + m.term(s, and(x)) + " else " + m.term(s, seen) + ")"
	case 7:
		if l := among(seen, func(x entity) bool { return x.isNew }); len(l) > 0 {
			x := pick(m.dice, l...)
			return "(notice " + x.name + ":=" + itoa(m.below(x.result.N)) + " in " + m.term(s, seen) + ")"
		}
	case 8, 9:
		return "(choose " + m.term(s, seen) + " else " + m.term(s, seen) + ")"
	case 10:
		return "(" + m.sized(seen) + " as " + itoa(s) + ")"
	case 11:
		return "(" + m.term(s, seen) + pick(m.dice, "+", "-", "*") + m.term(s, seen) + ")"
	case 12, 13:
		return m.special(s, seen)
	}
	return m.call(s, seen)
}

// special makes a term that there is of one size alone.
func (m *maker) special(s int, seen []entity) string {
	switch s {
	case 1:
		l := among(seen, entity.isCell)
		if len(l) == 0 {
			return m.call(s, seen)
		}
		x := pick(m.dice, l...)
		if m.below(3) > 0 {
			return "(" + x.name + ":=" + m.term(x.result.N, seen) + ")"
		}
		return "(while !" + x.name + " do(" + x.name + ":=!" + x.name + "-1;" + m.term(1, seen) + "))"
	case 2:
		if m.below(2) == 0 {
			size := m.size()
			return "(" + m.term(size, seen) + pick(m.dice, "=", "<") + m.term(size, seen) + ")"
		}
		if m.below(3) == 0 {
			return "(not " + m.term(2, seen) + ")"
		}
		return "(" + m.term(2, seen) + pick(m.dice, " and ", " or ") + m.term(2, seen) + ")"
	}
	return m.call(s, seen)
}

// call makes a call of something that tells an integer of a size; if there is nothing of this size it makes one of another size.
func (m *maker) call(s int, seen []entity) string {
	l := among(seen, func(x entity) bool { return len(x.params) > 0 })
	if len(l) == 0 {
		return m.leaf(s, seen)
	}
	x := pick(m.dice, l...)
	if x.result.N != s {
		x = pick(m.dice, l...)
	}
	var args []string
	for _, p := range x.params {
		args = append(args, m.arg(p, seen))
	}
	call := x.name + "(" + strings.Join(args, ",") + ")"
	if x.result.N != s {
		return "(" + call + " as " + itoa(s) + ")"
	}
	return call
}

// arg makes an argument for a param of a type.
func (m *maker) arg(p api.Type, seen []entity) string {
	if len(p.Params) == 0 && !p.Result.Cell {
		return m.term(p.Result.N, seen)
	}
	if l := among(seen, func(x entity) bool { return x.fits(p) }); len(l) > 0 && m.below(3) > 0 {
		return pick(m.dice, l...).name
	}
	if len(p.Params) == 0 {
		get := m.term(p.Result.N, seen)
		v := entity{name: m.name(), result: api.Base{N: p.Result.N}}
		return "{get " + get + ";put " + v.name + "." + m.term(1, append(slices.Clone(seen), v)) + "}"
	}
	var names []string
	inner := slices.Clone(seen)
	for _, b := range p.Params {
		x := entity{name: m.name(), result: b}
		names = append(names, x.name)
		inner = append(inner, x)
	}
	return "fn(" + strings.Join(names, ",") + ")" + m.term(p.Result.N, inner)
}

// sessions calls something with sessions of many programs, whose words are what can be said, from the empty one on.
func sessions(t *testing.T, seed dice, many int, with func(d *dice, x api.Session)) {
	t.Helper()
	d := seed
	for range many {
		u := makeProgram(&d)
		for range 3 {
			x := api.Session{T: u, Export: "m", Jumps: d.below(3) == 0, Picks: d.picks(d.below(8))}
			walk(t, &d, x, func(x api.Session) { with(&d, x) })
		}
	}
}

// walk calls something with a session, and goes on with it by turns as long as it can and is not too long.
func walk(t *testing.T, d *dice, x api.Session, with func(x api.Session)) {
	t.Helper()
	a, e := run.Arena(x)
	if e != api.OK {
		t.Fatalf("%s: Arena: %v", program(x), e)
	}
	for length := d.below(40); ; {
		with(x)
		u, e := run.Next(x)
		if e != api.OK || u.State != api.StateAsks || len(x.Word) > length {
			return
		}
		w := slices.Concat(x.Word, u.Moves)
		l, e := play.Next(a, w)
		if e != api.OK {
			t.Fatalf("%s: after %s: Next: %v", program(x), text(w), e)
		}
		m := pick(d, l...)
		// Without this few arguments would be asked for, and many conversations would be lost.
		if m.Arg == 0 && d.below(3) > 0 {
			m = pick(d, l...)
		}
		x.Word = append(w, m)
	}
}
