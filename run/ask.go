package run

import "riposte/api"

// ask asks what a thing is, with the kids of the node as arguments.
func (x spot) ask(what thing) ending {
	switch what.kind {
	case anIdentifier:
		return x.question(api.Move{Id: what.n, Kind: api.MoveAsk})
	case aCell:
		return value(x.cells[what.n].N)
	case aValue:
		return value(what.n)
	}
	y := x.of(what)
	switch y.node().Kind {
	case api.DefItem, api.FnNode:
		return x.call(y)
	case api.ObjectNode:
		return y.kid(0).evaluate()
	}
	return y.evaluate()
}

// set puts a value to a thing.
func (x spot) set(what thing, v int) ending {
	switch what.kind {
	case anIdentifier:
		return x.question(api.Move{Id: what.n, Kind: api.MovePut, N: v})
	case aCell:
		x.cells[what.n].N = v
		return value(0)
	}
	y := x.of(what)
	bind := y.kid(1).n
	return y.with(bind, thing{kind: aValue, n: v}).kid(2).evaluate()
}

// call evaluates the term of a definition, or of a FnNode, where its params stand for the kids of the node.
func (x spot) call(y spot) ending {
	params := y.kids[y.n]
	inner := y
	for i := range x.kids[x.n] {
		inner = inner.with(params[i], x.kid(i).handed())
	}
	return inner.at(y.last(y.n)).evaluate()
}

// question asks an identifier, whose arguments are the kids of the node, until the other one answers.
func (x spot) question(q api.Move) ending {
	if !x.say(q, x.n) {
		return ending{how: stopped}
	}
	for {
		m, ok := x.hear()
		switch {
		case !ok:
			return ending{how: stopped}
		case m.Arg > 0:
			if e := x.kid(m.Arg - 1).argument(m); e.how != told {
				return e
			}
		case m.N == api.Esc:
			return ending{how: lost}
		default:
			return value(m.N)
		}
	}
}

// argument tells the other one what it asks of a node that is an argument of an identifier. If it jumps the other one answers nothing but the same.
func (x spot) argument(q api.Move) ending {
	e := x.asked(q)
	if e.how == stopped || !x.say(e.answer(q), x.n) {
		return ending{how: stopped}
	}
	if e.how != told {
		if _, ok := x.hear(); !ok {
			return ending{how: stopped}
		}
	}
	return e
}

// asked does what the other one asks of a node that is an argument of an identifier.
func (x spot) asked(q api.Move) ending {
	if q.Kind == api.MovePut {
		return x.set(x.handed(), q.N)
	}
	return x.ask(x.handed())
}
