package run

import "riposte/api"

// How an evaluation ends.
const (
	told    uint8 = iota // with a value
	jumped               // with a jump to a label
	lost                 // with a jump out of all
	stopped              // not at all: the conversation does not go on
)

// ending is how an evaluation ends, with the value, or the number of the label.
type ending struct {
	how uint8
	n   int
}

// value returns the ending with a value.
func value(n int) ending { return ending{how: told, n: n} }

// answer returns the answer of a question which an ending tells.
func (e ending) answer(q api.Move) api.Move {
	m := api.Move{Id: q.Id, Arg: q.Arg, Kind: api.MoveTell, N: api.Esc}
	if e.how == told {
		m.N = e.n
	}
	return m
}

// What a declaration can stand for.
const (
	aNode        uint8 = iota // a definition, or an argument
	anIdentifier              // by its number
	aCell                     // by its place among the cells that there are
	aValue
	aLabel // by its number
)

// thing is what a declaration stands for; a node with what declarations in sight there stand for.
type thing struct {
	kind  uint8
	n     int
	sight *sight
}

// sight is what the declarations in sight somewhere stand for, the last one first; without the identifiers and definitions, which stand for the same everywhere.
type sight struct {
	declared int
	what     thing
	before   *sight
}

// spot is a node that is evaluated, or that is an argument, and what the declarations in sight there stand for.
type spot struct {
	*execution
	n     int
	sight *sight
}

// evaluate evaluates a node, which is a step.
func (x spot) evaluate() ending {
	if x.Steps == api.MaxSteps {
		x.e = api.ErrLimit
		return ending{how: stopped}
	}
	x.Steps++
	return x.ways[x.node().Kind](x)
}

// node returns the node itself.
func (x spot) node() api.TreeNode { return x.Nodes[x.n] }

// at returns another node, in the same sight.
func (x spot) at(n int) spot { return spot{x.execution, n, x.sight} }

// kid returns a kid by its number among the kids.
func (x spot) kid(i int) spot { return x.at(x.kids[x.n][i]) }

// with returns the node where one more declaration stands for something.
func (x spot) with(declared int, what thing) spot {
	return spot{x.execution, x.n, &sight{declared, what, x.sight}}
}

// then evaluates a kid, and goes on with its value, if it ends with one.
func (x spot) then(kid int, next func(v int) ending) ending {
	e := x.kid(kid).evaluate()
	if e.how != told {
		return e
	}
	return next(e.n)
}

// meant returns what the name of the node stands for.
func (x spot) meant() thing {
	d := x.means[x.n]
	for s := x.sight; s != nil; s = s.before {
		if s.declared == d {
			return s.what
		}
	}
	if id, ok := x.ids[d]; ok {
		return thing{kind: anIdentifier, n: id}
	}
	return thing{kind: aNode, n: d}
}

// handed returns what a node stands for as an argument: a name that has no size for the same as the name, all else for itself.
func (x spot) handed() thing {
	if x.node().Kind == api.NameNode && x.size(x.n) == 0 {
		return x.meant()
	}
	return thing{aNode, x.n, x.sight}
}

// of returns the node for which a thing stands.
func (x spot) of(what thing) spot { return spot{x.execution, what.n, what.sight} }
