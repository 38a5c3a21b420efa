package check

import "riposte/api"

// reach returns the definitions that an item uses, with those that these use.
func (s *scope) reach(item int) []int {
	used := make([]bool, len(s.Nodes))
	used[item] = true
	// An item uses nothing but what stands in front of it, so each one comes when all that use it have come.
	for i := range item {
		d := item - i
		if !used[d] {
			continue
		}
		for n := range len(s.Nodes) {
			if s.all(d).has(n) && s.is(s.meant[n], api.DefItem) {
				used[s.meant[n]] = true
			}
		}
	}
	return s.where(func(n int) bool { return used[n] && n != item })
}

// effectsIn returns the effects of the nodes of an item.
func (s *scope) effectsIn(item int) int {
	effects := map[uint8]int{
		api.NewNode:    api.EffCells,
		api.GetNode:    api.EffCells,
		api.PutNode:    api.EffCells,
		api.NoticeNode: api.EffCells,
		api.JumpNode:   api.EffJumps,
		api.ChooseNode: api.EffChoices,
		api.WhileNode:  api.EffLoops,
		api.HangNode:   api.EffHangs,
	}
	all := 0
	for i := range s.Nodes[item].Size {
		all |= effects[s.Nodes[item+i].Kind]
	}
	return all
}

// identifiers returns what an export can ask: all imports, in front of it and behind it, and its params.
func (s *scope) identifiers(export int) []api.Declared {
	var l []api.Declared
	for n := range s.kids(0) {
		if s.is(n, api.ImportItem) {
			l = append(l, s.declared(n))
		}
	}
	for n := range s.kids(export) {
		if s.is(n, api.ParamNode) {
			l = append(l, s.declared(n))
		}
	}
	return l
}

// declared returns the name of a declaration, and its type.
func (s *scope) declared(d int) api.Declared {
	x, _ := s.typeOf(d)
	return api.Declared{Name: s.Nodes[d].Text, Type: x}
}

// hasTooManyParams tells whether an identifier has more params than one may have.
func hasTooManyParams(d api.Declared) bool { return len(d.Type.Params) > api.MaxParams }
