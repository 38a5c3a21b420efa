package check

import (
	"slices"

	"riposte/api"
)

// unsized is the size of what is given none.
const unsized = -1

// fit is a scope in which the terms of an item have got their sizes.
type fit struct {
	*scope
	item  int
	rules rules
	own   []int  // the own size of each term of the item; 0 if it has none
	given []int  // the size that each term of the item is given
	wrong []bool // whether a node of the item is not of the type that is needed
}

// fault is an error, and of which nodes of an item it is so.
type fault struct {
	e   api.Errno
	has func(n int) bool
}

// fitOf returns the fit of an item.
func fitOf(s *scope, item int) *fit {
	many := len(s.Nodes)
	f := &fit{scope: s, item: item, rules: termRules(), own: make([]int, many), given: make([]int, many), wrong: make([]bool, many)}
	size := s.Nodes[item].Size
	for i := range size {
		// The own size of a term hangs on those of its kids, which stand behind it.
		n := item + size - 1 - i
		if s.isTerm(n) {
			f.own[n] = f.rules[s.Nodes[n].Kind].own(f, n)
		}
		f.given[n] = unsized
	}
	if s.is(item, api.DefItem, api.ExportItem) {
		base := s.baseNode(item)
		f.wrong[base] = s.is(base, api.CellType)
		f.give(s.last(item), s.Nodes[base].N)
	}
	return f
}

// firstFault returns the first node of an item that has an error, and this.
func (f *fit) firstFault() (int, api.Errno) {
	faults := []fault{
		{api.ErrTwice, f.isTwice},
		{api.ErrRange, f.isOutOfRange},
		{api.ErrName, f.meansNothing},
		{api.ErrType, f.isWrong},
	}
	for _, x := range faults {
		for i := range f.Nodes[f.item].Size {
			if x.has(f.item + i) {
				return f.item + i, x.e
			}
		}
	}
	return 0, api.OK
}

// isTwice tells whether a node is a declaration whose name another one has, in front of it in its item or as an item. An item itself minds those in front of it alone.
func (f *fit) isTwice(n int) bool {
	return f.isDeclaration(n) && slices.ContainsFunc(f.named[f.Nodes[n].Text], func(d int) bool {
		if f.isItem(d) {
			return d < n || n != f.item
		}
		return f.item < d && d < n
	})
}

// isOutOfRange tells whether a node has a size, or a first value, that there is not.
func (f *fit) isOutOfRange(n int) bool {
	x := f.Nodes[n]
	if !f.is(n, api.IntType, api.CellType, api.NewNode, api.AsNode) {
		return false
	}
	return x.N < 1 || x.N > api.MaxSize || f.is(n, api.NewNode) && x.M >= x.N
}

// meansNothing tells whether a node is a name that nothing in sight has.
func (f *fit) meansNothing(n int) bool { return f.isName(n) && f.meant[n] == 0 }

// isWrong tells whether a node is not of the type that is needed.
func (f *fit) isWrong(n int) bool { return f.wrong[n] }

// give gives a term a size. What stands in a term that does not fit is not looked at.
func (f *fit) give(n, s int) {
	r := f.rules[f.Nodes[n].Kind]
	if !r.fits(f, n, s) {
		f.wrong[n] = true
		return
	}
	f.given[n] = s
	r.hand(f, n, s)
}

// giveOwn gives a term its own size, which it must have.
func (f *fit) giveOwn(n, _ int) {
	if f.own[n] == 0 {
		f.wrong[n] = true
		return
	}
	f.give(n, f.own[n])
}

// giveArg looks at an argument for a param of a type.
func (f *fit) giveArg(n int, x api.Type) {
	function := len(x.Params) > 0
	switch {
	case !function && !x.Result.Cell:
		f.giveInteger(n, x.Result.N)
	case f.is(n, api.NameNode):
		f.wrong[n] = !f.meansSame(n, x)
	case f.is(n, api.ObjectNode) && !function:
		f.give(n+1, x.Result.N)
		f.give(f.last(n), 1)
	case f.is(n, api.FnNode) && len(f.list(n)) == len(x.Params)+1:
		f.give(f.last(n), x.Result.N)
	default:
		f.wrong[n] = true
	}
}

// giveInteger looks at an argument for an integer.
func (f *fit) giveInteger(n, s int) {
	if !f.isTerm(n) {
		f.wrong[n] = true
		return
	}
	f.give(n, s)
}

// firstOwn returns the own size of the first one of some terms that has one; 0 if none has.
func (f *fit) firstOwn(terms ...int) int {
	for _, n := range terms {
		if f.own[n] != 0 {
			return f.own[n]
		}
	}
	return 0
}
