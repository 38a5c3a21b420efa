package run

import "riposte/api"

// way is how nodes of a kind are evaluated.
type way func(x spot) ending

// waysOfNodes returns how the nodes of each kind of terms are evaluated.
func waysOfNodes() map[uint8]way {
	return map[uint8]way{
		api.NumNode:    spot.number,
		api.TrueNode:   always(1),
		api.FalseNode:  always(0),
		api.SkipNode:   always(0),
		api.AsNode:     spot.cast,
		api.AddNode:    reckoned(func(a, b int) int { return a + b }),
		api.SubNode:    reckoned(func(a, b int) int { return a - b }),
		api.MulNode:    reckoned(func(a, b int) int { return a * b }),
		api.EqNode:     compared(func(a, b int) bool { return a == b }),
		api.LessNode:   compared(func(a, b int) bool { return a < b }),
		api.OrNode:     decidedBy(1),
		api.AndNode:    decidedBy(0),
		api.NotNode:    spot.not,
		api.SeqNode:    spot.all,
		api.IfNode:     spot.one,
		api.WhileNode:  spot.repeat,
		api.NewNode:    spot.newCell,
		api.NoticeNode: spot.notice,
		api.LabelNode:  spot.label,
		api.JumpNode:   spot.jump,
		api.ChooseNode: spot.choose,
		api.HangNode:   spot.hang,
		api.NameNode:   spot.use,
		api.CallNode:   spot.use,
		api.GetNode:    spot.use,
		api.PutNode:    spot.put,
	}
}

// always returns the way of nodes that have a certain value.
func always(v int) way {
	return func(spot) ending { return value(v) }
}

// pair evaluates both kids, and goes on with their values.
func (x spot) pair(next func(a, b int) ending) ending {
	return x.then(0, func(a int) ending {
		return x.then(1, func(b int) ending { return next(a, b) })
	})
}

// reckoned returns the way of nodes whose value is made of those of both kids, modulo the size.
func reckoned(of func(a, b int) int) way {
	return func(x spot) ending {
		return x.pair(func(a, b int) ending {
			s := x.size(x.n)
			return value((of(a, b) + s) % s)
		})
	}
}

// compared returns the way of nodes that are 1 if something is so of the values of both kids.
func compared(is func(a, b int) bool) way {
	return func(x spot) ending {
		return x.pair(func(a, b int) ending {
			if is(a, b) {
				return value(1)
			}
			return value(0)
		})
	}
}

// decidedBy returns the way of nodes whose second kid does not matter if the first one has a certain value.
func decidedBy(v int) way {
	return func(x spot) ending {
		return x.then(0, func(a int) ending {
			if a == v {
				return value(a)
			}
			return x.kid(1).evaluate()
		})
	}
}

// number is the way of a NumNode.
func (x spot) number() ending { return value(x.node().N) }

// cast is the way of an AsNode. A number has no size there, and is not evaluated.
func (x spot) cast() ending {
	s := x.node().N
	if k := x.kid(0).node(); k.Kind == api.NumNode {
		return value(k.N % s)
	}
	return x.then(0, func(v int) ending { return value(v % s) })
}

// not is the way of a NotNode.
func (x spot) not() ending {
	return x.then(0, func(v int) ending { return value(1 - v) })
}

// all is the way of a SeqNode.
func (x spot) all() ending {
	var e ending
	for i := range x.kids[x.n] {
		e = x.kid(i).evaluate()
		if e.how != told {
			break
		}
	}
	return e
}

// one is the way of an IfNode.
func (x spot) one() ending {
	return x.then(0, func(v int) ending {
		if v != 0 {
			return x.kid(1).evaluate()
		}
		return x.kid(2).evaluate()
	})
}

// repeat is the way of a WhileNode.
func (x spot) repeat() ending {
	for {
		e := x.kid(0).evaluate()
		if e.how != told || e.n == 0 {
			return e
		}
		if e := x.kid(1).evaluate(); e.how != told {
			return e
		}
	}
}

// newCell is the way of a NewNode. Where the conversation stands its cell is still there.
func (x spot) newCell() ending {
	c := len(x.cells)
	x.cells = append(x.cells, api.CellSeen{Node: x.n, N: x.node().M})
	e := x.with(x.n, thing{kind: aCell, n: c}).kid(0).evaluate()
	if e.how != stopped {
		x.cells = x.cells[:c]
	}
	return e
}

// notice is the way of a NoticeNode.
func (x spot) notice() ending {
	e := x.kid(0).evaluate()
	if e.how == jumped || e.how == lost {
		x.cells[x.meant().n].N = x.node().N
	}
	return e
}

// label is the way of a LabelNode.
func (x spot) label() ending {
	x.labels++
	l := x.labels
	e := x.with(x.n, thing{kind: aLabel, n: l}).kid(0).evaluate()
	if e.how == jumped && e.n == l {
		return x.kid(1).evaluate()
	}
	return e
}

// jump is the way of a JumpNode.
func (x spot) jump() ending { return ending{how: jumped, n: x.meant().n} }

// choose is the way of a ChooseNode.
func (x spot) choose() ending {
	if x.pick()%2 == 0 {
		return x.kid(0).evaluate()
	}
	return x.kid(1).evaluate()
}

// hang is the way of a HangNode.
func (x spot) hang() ending {
	x.rest(api.StateHangs)
	return ending{how: stopped}
}

// use is the way of a NameNode, a CallNode, and a GetNode.
func (x spot) use() ending { return x.ask(x.meant()) }

// put is the way of a PutNode.
func (x spot) put() ending {
	return x.then(0, func(v int) ending { return x.set(x.meant(), v) })
}
