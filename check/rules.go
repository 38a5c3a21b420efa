package check

import "riposte/api"

// rule says of a kind of terms which own size they have, whether they fit a size that they are given, and how they hand on sizes to their kids.
type rule struct {
	own  func(f *fit, n int) int
	fits func(f *fit, n, s int) bool
	hand func(f *fit, n, s int)
}

// rules has a rule for each kind of terms.
type rules map[uint8]rule

// set sets the rule of some kinds.
func (r rules) set(x rule, kinds ...uint8) {
	for _, k := range kinds {
		r[k] = x
	}
}

// termRules returns the rules of all terms.
func termRules() rules {
	r := rules{}
	bit, com := ownSize(2), ownSize(1)
	r.set(rule{ownSize(0), (*fit).isNumberBelow, hand()}, api.NumNode)
	r.set(rule{bit, onlySize(2), hand()}, api.TrueNode, api.FalseNode)
	r.set(rule{com, onlySize(1), hand()}, api.SkipNode, api.HangNode, api.JumpNode)
	r.set(rule{(*fit).integerSize, (*fit).meansInteger, hand()}, api.NameNode)
	r.set(rule{(*fit).cellSize, (*fit).meansCell, hand()}, api.GetNode)
	r.set(rule{com, (*fit).canPut, (*fit).handCell}, api.PutNode)
	r.set(rule{(*fit).lastOwn, anySize, (*fit).handSeq}, api.SeqNode)
	r.set(rule{ownOfKids(1), anySize, hand((*fit).giveOwn, (*fit).give)}, api.IfNode)
	r.set(rule{com, onlySize(1), hand((*fit).giveOwn, giveSize(1))}, api.WhileNode)
	r.set(rule{ownOfKids(0), (*fit).canNotice, hand((*fit).give)}, api.NoticeNode)
	r.set(rule{ownOfKids(0), anySize, hand((*fit).give)}, api.NewNode, api.LabelNode, api.ChooseNode, api.AddNode, api.SubNode, api.MulNode)
	r.set(rule{bit, onlySize(2), hand(giveSize(2))}, api.OrNode, api.AndNode, api.NotNode)
	r.set(rule{bit, (*fit).canCompare, (*fit).handPair}, api.EqNode, api.LessNode)
	r.set(rule{(*fit).number, (*fit).isNumber, (*fit).handCast}, api.AsNode)
	r.set(rule{(*fit).resultSize, (*fit).canCall, (*fit).handArgs}, api.CallNode)
	return r
}

// ownSize returns a rule by which terms have a certain size.
func ownSize(s int) func(*fit, int) int {
	return func(*fit, int) int { return s }
}

// ownOfKids returns a rule by which terms have the size of the first kid that has one, from a certain kid on.
func ownOfKids(from int) func(*fit, int) int {
	return func(f *fit, n int) int { return f.firstOwn(f.list(n)[from:]...) }
}

// onlySize returns a rule by which terms fit one size alone.
func onlySize(only int) func(*fit, int, int) bool {
	return func(_ *fit, _, s int) bool { return s == only }
}

// anySize is the rule by which terms fit each size: what must fit are their kids.
func anySize(*fit, int, int) bool { return true }

// hand returns a rule by which kids get sizes, the first one as the first way says, and so on; all that are left as the last way says.
func hand(ways ...func(f *fit, k, s int)) func(*fit, int, int) {
	return func(f *fit, n, s int) {
		for i, k := range f.list(n) {
			ways[min(i, len(ways)-1)](f, k, s)
		}
	}
}

// giveSize returns a way by which a kid gets a certain size.
func giveSize(s int) func(*fit, int, int) {
	return func(f *fit, k, _ int) { f.give(k, s) }
}

// isNumberBelow tells whether the number of a node is less than a size.
func (f *fit) isNumberBelow(n, s int) bool { return f.Nodes[n].N < s }

// number returns the number of a node.
func (f *fit) number(n int) int { return f.Nodes[n].N }

// isNumber tells whether a size is the number of a node.
func (f *fit) isNumber(n, s int) bool { return f.Nodes[n].N == s }

// integerSize returns the size of the integer that a node means; 0 if it means none.
func (f *fit) integerSize(n int) int {
	if b, ok := f.meantBase(n); ok && !b.Cell {
		return b.N
	}
	return 0
}

// meansInteger tells whether a node means an integer of a size.
func (f *fit) meansInteger(n, s int) bool {
	return f.meansSame(n, api.Type{Result: api.Base{N: s}})
}

// cellSize returns the size of the cell that a node means; 0 if it means none.
func (f *fit) cellSize(n int) int {
	if b, ok := f.meantBase(n); ok && b.Cell {
		return b.N
	}
	return 0
}

// meansCell tells whether a node means a cell of a size.
func (f *fit) meansCell(n, s int) bool {
	return f.meansSame(n, api.Type{Result: api.Base{Cell: true, N: s}})
}

// canPut tells whether a PutNode fits.
func (f *fit) canPut(n, s int) bool {
	b, ok := f.meantBase(n)
	return ok && b.Cell && s == 1
}

// handCell gives the kid of a PutNode the size of the cell.
func (f *fit) handCell(n, _ int) { f.give(n+1, f.cellSize(n)) }

// lastOwn returns the own size of the last kid.
func (f *fit) lastOwn(n int) int { return f.own[f.last(n)] }

// handSeq gives the last kid the size of its node, and all others that of what tells nothing.
func (f *fit) handSeq(n, s int) {
	for k := range f.kids(n) {
		if f.end(k) < f.end(n) {
			f.give(k, 1)
		} else {
			f.give(k, s)
		}
	}
}

// canNotice tells whether a NoticeNode means a cell that is made here and can be what it becomes.
func (f *fit) canNotice(n, _ int) bool {
	d := f.meant[n]
	return f.is(d, api.NewNode) && f.Nodes[n].N < f.Nodes[d].N
}

// canCompare tells whether a comparison fits: one of its kids must say which size both have.
func (f *fit) canCompare(n, s int) bool { return s == 2 && f.firstOwn(f.list(n)...) != 0 }

// handPair gives both kids of a comparison the size that one of them has.
func (f *fit) handPair(n, _ int) {
	s := f.firstOwn(f.list(n)...)
	for k := range f.kids(n) {
		f.give(k, s)
	}
}

// handCast gives the kid of an AsNode its own size; but any number can be cast.
func (f *fit) handCast(n, s int) {
	if f.is(n+1, api.NumNode) {
		f.given[n+1] = s
		return
	}
	f.giveOwn(n+1, s)
}

// resultSize returns the size of what a call tells.
func (f *fit) resultSize(n int) int { return f.result(f.meant[n]).N }

// canCall tells whether a call has as many arguments as what it means has params, and tells what is needed.
func (f *fit) canCall(n, s int) bool {
	d := f.meant[n]
	return len(f.params(d)) == len(f.list(n)) && f.result(d).N == s
}

// handArgs looks at the arguments of a call.
func (f *fit) handArgs(n, _ int) {
	params := f.params(f.meant[n])
	for i, k := range f.list(n) {
		f.giveArg(k, params[i])
	}
}
