package run_test

import (
	"maps"
	"slices"

	"riposte/api"
	"riposte/check"
	"riposte/parse"
	"riposte/play"
)

// model executes a session in another way than the program: what names stand for are functions of Go, found by the names, and jumps are panics of Go.
type model struct {
	api.Session
	arena api.Arena
	turn  api.Turn
	from  []int
	cells []*api.CellSeen
	limit bool
	whole map[int]bool // whether names as arguments are integers
	sizes map[int]int  // the sizes of terms
}

// meaning is what a name stands for: how it is asked, by a node and with arguments, and how something is put to it.
type meaning struct {
	ask  func(node int, args []argument) int
	put  func(node, v int) int
	cell *api.CellSeen
	exit *exit
}

// argument is what is handed over to an identifier, and its node.
type argument struct {
	node int
	meaning
}

// names says what the names in sight stand for.
type names map[string]meaning

// with returns the names with one more.
func (s names) with(name string, x meaning) names {
	s = maps.Clone(s)
	s[name] = x
	return s
}

// exit is the panic of a jump to a label; nil leads out of all.
type exit struct{ _ int }

// halt is the panic of an execution that goes no further.
type halt struct{}

// result is all that is known of a session.
type result struct {
	turn  api.Turn
	from  []int
	store []api.CellSeen
	e     api.Errno
}

// modelOf executes a session, which must have no errors but that of its execution.
func modelOf(x api.Session) result {
	a, l, e := check.Arena(x.T, x.Export, x.Jumps)
	if e != api.OK {
		return result{e: e}
	}
	m := &model{Session: x, arena: a, whole: map[int]bool{}, sizes: map[int]int{}}
	m.run(l)
	if m.limit {
		return result{e: api.ErrLimit}
	}
	r := result{turn: m.turn, from: m.from}
	for _, c := range m.cells {
		r.store = append(r.store, *c)
	}
	return r
}

// run is the whole conversation.
func (m *model) run(ids []api.Declared) {
	defer func() {
		if x := recover(); x != nil && x != (halt{}) {
			panic(x)
		}
	}()
	m.hear()
	s := names{}
	for i, d := range ids {
		s[d.Name] = m.identifier(i + 1)
	}
	for _, n := range m.kids(0) {
		if m.T.Nodes[n].Kind == api.DefItem {
			s[m.T.Nodes[n].Text] = m.definition(n, s)
		}
	}
	export, _ := parse.Find(m.T, m.Export)
	l := m.kids(export)
	term := l[len(l)-1]
	v, left := caught(func() int { return m.eval(term, s) })
	if left != nil {
		v = api.Esc
	}
	m.say(api.Move{Kind: api.MoveTell, N: v}, term)
	m.stand(api.StateOver)
}

// caught does something and returns its value, or the exit by which it was left.
func caught(do func() int) (v int, left **exit) {
	defer func() {
		switch x := recover().(type) {
		case nil:
		case *exit:
			left = &x
		default:
			panic(x)
		}
	}()
	return do(), nil
}

// stand ends the execution; if there is a move left it is odd.
func (m *model) stand(state uint8) {
	if m.turn.At < len(m.Word) {
		state = api.StateOdd
	}
	m.turn.State = state
	panic(halt{})
}

// hear returns the next move of the other one.
func (m *model) hear() api.Move {
	at := m.turn.At
	if at == len(m.Word) {
		m.stand(api.StateAsks)
	}
	if _, e := play.Check(m.arena, m.Word[:at+1]); e != api.OK {
		m.stand(api.StateOdd)
	}
	m.turn.At++
	m.from = append(m.from, -1)
	return m.Word[at]
}

// say makes a move of the program.
func (m *model) say(x api.Move, node int) {
	at := m.turn.At
	if at < len(m.Word) && m.Word[at] != x {
		m.stand(api.StateOdd)
	}
	m.from = append(m.from, node)
	if at < len(m.Word) {
		m.turn.At++
		return
	}
	m.turn.Moves = api.Word{x}
	if x.Id == 0 {
		m.stand(api.StateOver)
	}
	m.stand(api.StateAsks)
}

// identifier returns the meaning of an identifier.
func (m *model) identifier(id int) meaning {
	return meaning{
		ask: func(node int, args []argument) int {
			m.say(api.Move{Id: id, Kind: api.MoveAsk}, node)
			return m.wait(args)
		},
		put: func(node, v int) int {
			m.say(api.Move{Id: id, Kind: api.MovePut, N: v}, node)
			return m.wait(nil)
		},
	}
}

// wait serves the other one until it answers.
func (m *model) wait(args []argument) int {
	x := m.hear()
	for x.Arg > 0 {
		arg := args[x.Arg-1]
		v, left := caught(func() int {
			if x.Kind == api.MovePut {
				return arg.put(arg.node, x.N)
			}
			return arg.ask(arg.node, nil)
		})
		if left != nil {
			v = api.Esc
		}
		m.say(api.Move{Id: x.Id, Arg: x.Arg, Kind: api.MoveTell, N: v}, arg.node)
		x = m.hear()
		if left != nil {
			panic(*left)
		}
	}
	if x.N == api.Esc {
		var out *exit
		panic(out)
	}
	return x.N
}

// definition returns the meaning of a definition, in front of which some names are in sight.
func (m *model) definition(n int, s names) meaning {
	l := m.kids(n)
	s = maps.Clone(s)
	return meaning{ask: func(_ int, args []argument) int { return m.apply(l[:len(l)-2], l[len(l)-1], s, args) }}
}

// apply evaluates a term where some params stand for arguments.
func (m *model) apply(params []int, term int, s names, args []argument) int {
	s = maps.Clone(s)
	for i, p := range params {
		s[m.T.Nodes[p].Text] = args[i].meaning
	}
	return m.eval(term, s)
}

// kids returns the kids of a node.
func (m *model) kids(n int) []int {
	var l []int
	for k := n + 1; k < n+m.T.Nodes[n].Size; k += m.T.Nodes[k].Size {
		l = append(l, k)
	}
	return l
}

// isInteger tells whether a name means an integer.
func (m *model) isInteger(n int) bool {
	if _, ok := m.whole[n]; !ok {
		d, _ := check.Means(m.T, n)
		y, _ := check.Type(m.T, d)
		m.whole[n] = !y.Result.Cell && len(y.Params) == 0
	}
	return m.whole[n]
}

// size returns the size that a term is given.
func (m *model) size(n int) int {
	if m.sizes[n] == 0 {
		m.sizes[n], _ = check.Size(m.T, n)
	}
	return m.sizes[n]
}

// argumentOf returns what an argument stands for.
func (m *model) argumentOf(n int, s names) meaning {
	x := m.T.Nodes[n]
	switch x.Kind {
	case api.FnNode:
		l := m.kids(n)
		return meaning{ask: func(_ int, args []argument) int { return m.apply(l[:len(l)-1], l[len(l)-1], s, args) }}
	case api.ObjectNode:
		l := m.kids(n)
		return meaning{
			ask: func(int, []argument) int { return m.eval(l[0], s) },
			put: func(_, v int) int {
				bind := meaning{ask: func(int, []argument) int { return v }}
				return m.eval(l[2], s.with(m.T.Nodes[l[1]].Text, bind))
			},
		}
	case api.NameNode:
		if !m.isInteger(n) {
			return s[x.Text]
		}
	}
	return meaning{ask: func(int, []argument) int { return m.eval(n, s) }}
}

// eval evaluates a term.
func (m *model) eval(n int, s names) int {
	if m.turn.Steps++; m.turn.Steps > 20000 {
		m.limit = true
		panic(halt{})
	}
	x := m.T.Nodes[n]
	l := m.kids(n)
	kid := func(i int) int { return m.eval(l[i], s) }
	switch x.Kind {
	case api.NumNode:
		return x.N
	case api.AsNode:
		if y := m.T.Nodes[l[0]]; y.Kind == api.NumNode {
			return y.N % x.N
		}
		return kid(0) % x.N
	case api.SeqNode:
		for i := range l[1:] {
			kid(i)
		}
		return kid(len(l) - 1)
	case api.IfNode:
		if kid(0) == 0 {
			return kid(2)
		}
		return kid(1)
	case api.WhileNode:
		for kid(0) != 0 {
			kid(1)
		}
		return 0
	case api.NameNode, api.GetNode, api.CallNode:
		var args []argument
		for _, k := range l {
			args = append(args, argument{k, m.argumentOf(k, s)})
		}
		return s[x.Text].ask(n, args)
	case api.PutNode:
		v := kid(0)
		return s[x.Text].put(n, v)
	case api.ChooseNode:
		at := m.turn.Picks
		m.turn.Picks++
		if at < len(m.Picks) && m.Picks[at]&1 == 1 {
			return kid(1)
		}
		return kid(0)
	case api.HangNode:
		m.stand(api.StateHangs)
	case api.JumpNode:
		panic(s[x.Text].exit)
	case api.NewNode, api.NoticeNode, api.LabelNode:
		return m.scoped(x, n, l, s)
	}
	return m.reckon(x.Kind, n, kid)
}

// reckon evaluates a term that has nothing but a value.
func (m *model) reckon(kind uint8, n int, kid func(int) int) int {
	bit := map[bool]int{true: 1}
	switch kind {
	case api.TrueNode:
		return 1
	case api.FalseNode, api.SkipNode:
		return 0
	case api.NotNode:
		return bit[kid(0) == 0]
	case api.OrNode:
		return bit[kid(0) == 1 || kid(1) == 1]
	case api.AndNode:
		return bit[kid(0) == 1 && kid(1) == 1]
	}
	a := kid(0)
	b := kid(1)
	switch kind {
	case api.EqNode:
		return bit[a == b]
	case api.LessNode:
		return bit[a < b]
	case api.AddNode:
		return (a + b) % m.size(n)
	case api.SubNode:
		return (a + m.size(n) - b) % m.size(n)
	}
	return a * b % m.size(n)
}

// scoped evaluates a term in which there is something more, or that sees jumps.
func (m *model) scoped(x api.TreeNode, n int, l []int, s names) int {
	switch x.Kind {
	case api.NewNode:
		c := &api.CellSeen{Node: n, N: x.M}
		m.cells = append(m.cells, c)
		v, left := caught(func() int { return m.eval(l[0], s.with(x.Text, cellMeaning(c))) })
		m.cells = slices.DeleteFunc(m.cells, func(other *api.CellSeen) bool { return other == c })
		return orLeave(v, left)
	case api.NoticeNode:
		v, left := caught(func() int { return m.eval(l[0], s) })
		if left != nil {
			s[x.Text].cell.N = x.N
		}
		return orLeave(v, left)
	}
	here := &exit{}
	v, left := caught(func() int { return m.eval(l[0], s.with(x.Text, meaning{exit: here})) })
	if left != nil && *left == here {
		return m.eval(l[1], s)
	}
	return orLeave(v, left)
}

// orLeave returns a value, or goes on with an exit.
func orLeave(v int, left **exit) int {
	if left != nil {
		panic(*left)
	}
	return v
}

// cellMeaning returns the meaning of a cell.
func cellMeaning(c *api.CellSeen) meaning {
	return meaning{
		ask: func(int, []argument) int { return c.N },
		put: func(_, v int) int {
			c.N = v
			return 0
		},
		cell: c,
	}
}
