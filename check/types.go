package check

import (
	"slices"

	"riposte/api"
)

// typeOf returns the type of a declaration, and whether it has one; no other node has.
func (s *scope) typeOf(d int) (api.Type, bool) {
	switch s.Nodes[d].Kind {
	case api.ImportItem, api.ParamNode:
		return s.written(d + 1), true
	case api.NewNode:
		return api.Type{Result: api.Base{Cell: true, N: s.Nodes[d].N}}, true
	case api.DefItem, api.ExportItem:
		return s.itemType(d)
	case api.BindNode:
		b, ok := s.boundBase(d)
		return api.Type{Result: b}, ok
	}
	return api.Type{}, false
}

// written returns the type that a node of a type says.
func (s *scope) written(n int) api.Type {
	if !s.is(n, api.ArrowType) {
		return api.Type{Result: s.base(n)}
	}
	var l []api.Base
	for k := range s.kids(n) {
		l = append(l, s.base(k))
	}
	return api.Type{Params: slices.Clone(l[:len(l)-1]), Result: l[len(l)-1]}
}

// base returns the base type that a node of a base says.
func (s *scope) base(n int) api.Base {
	return api.Base{Cell: s.is(n, api.CellType), N: s.Nodes[n].N}
}

// baseNode returns the base of a def or an export: it stands in front of the term.
func (s *scope) baseNode(d int) int {
	l := s.list(d)
	return l[len(l)-2]
}

// itemType returns the type of a def or an export, and whether it has one: that is so if all its params are bases.
func (s *scope) itemType(d int) (api.Type, bool) {
	x := api.Type{Result: s.base(s.baseNode(d))}
	for _, p := range s.params(d) {
		if len(p.Params) > 0 {
			return api.Type{}, false
		}
		x.Params = append(x.Params, p.Result)
	}
	return x, true
}

// boundBase returns the base type of a BindNode, and whether it has one: this hangs on the call to which the node's argument is handed.
func (s *scope) boundBase(d int) (api.Base, bool) {
	arg := s.ups[d]
	call := s.ups[arg]
	params := s.params(s.meant[call])
	k := slices.Index(s.list(call), arg)
	if k >= len(params) {
		return api.Base{}, false
	}
	p := params[k]
	if s.is(arg, api.FnNode) {
		return s.boundParam(d, p.Params)
	}
	if len(p.Params) > 0 || !p.Result.Cell {
		return api.Base{}, false
	}
	return api.Base{N: p.Result.N}, true
}

// boundParam returns the param for which a BindNode of a FnNode stands, if they are as many.
func (s *scope) boundParam(d int, params []api.Base) (api.Base, bool) {
	binds := s.list(s.ups[d])
	binds = binds[:len(binds)-1]
	if len(binds) != len(params) {
		return api.Base{}, false
	}
	return params[slices.Index(binds, d)], true
}

// params returns the types of what a call of a declaration hands over.
func (s *scope) params(d int) []api.Type {
	var l []api.Type
	if s.is(d, api.DefItem, api.ExportItem) {
		for k := range s.kids(d) {
			if s.is(k, api.ParamNode) {
				l = append(l, s.written(k+1))
			}
		}
		return l
	}
	x, _ := s.typeOf(d)
	for _, b := range x.Params {
		l = append(l, api.Type{Result: b})
	}
	return l
}

// result returns the base type of what a call of a declaration tells.
func (s *scope) result(d int) api.Base {
	if s.is(d, api.DefItem) {
		return s.base(s.baseNode(d))
	}
	x, _ := s.typeOf(d)
	return x.Result
}

// meantBase returns the base type of what a node means, and whether that has one and no params.
func (s *scope) meantBase(n int) (api.Base, bool) {
	x, ok := s.typeOf(s.meant[n])
	return x.Result, ok && len(x.Params) == 0
}

// meansSame tells whether a node means something of a type.
func (s *scope) meansSame(n int, x api.Type) bool {
	y, ok := s.typeOf(s.meant[n])
	return ok && slices.Equal(x.Params, y.Params) && x.Result == y.Result
}
