package parse

import "riposte/api"

// kinds returns the kinds of nodes that are known by one keyword or sign.
func kinds() map[string]uint8 {
	return map[string]uint8{
		"int":   api.IntType,
		"com":   api.IntType,
		"bool":  api.IntType,
		"cell":  api.CellType,
		"or":    api.OrNode,
		"and":   api.AndNode,
		"=":     api.EqNode,
		"<":     api.LessNode,
		"+":     api.AddNode,
		"-":     api.SubNode,
		"*":     api.MulNode,
		"true":  api.TrueNode,
		"false": api.FalseNode,
		"skip":  api.SkipNode,
		"hang":  api.HangNode,
	}
}

// firsts returns how the terms are read that begin with a keyword and hold all that stands behind it.
func firsts() map[string]func(*reader) knot {
	return map[string]func(*reader) knot{
		"if":     (*reader).ifThen,
		"while":  (*reader).whileDo,
		"new":    (*reader).newCell,
		"label":  (*reader).label,
		"notice": (*reader).notice,
		"choose": (*reader).choose,
	}
}

// term reads a term.
func (r *reader) term() knot {
	parts := []knot{r.first()}
	t := r.ahead(0)
	for r.goesOn() {
		r.take(";")
		parts = append(parts, r.first())
	}
	if len(parts) == 1 {
		return parts[0]
	}
	return knotAt(api.SeqNode, t, parts...)
}

// goesOn tells whether a ; comes that belongs to a term.
func (r *reader) goesOn() bool {
	return r.sees(";") && r.next+1 < len(r.tokens) && !beginsItem(r.ahead(1))
}

// first reads a first of the grammar.
func (r *reader) first() knot {
	if read, ok := r.firsts[r.ahead(0).Text]; ok {
		return read(r)
	}
	if r.ahead(0).Kind == api.TokName && r.ahead(1).Text == ":=" {
		k := r.named(api.PutNode)
		k.kids = []knot{r.behind(":=")}
		return k
	}
	return r.or()
}

// behind reads a first behind a keyword or sign.
func (r *reader) behind(sign string) knot {
	r.take(sign)
	return r.first()
}

func (r *reader) ifThen() knot {
	t := r.ahead(0)
	return knotAt(api.IfNode, t, r.behind("if"), r.behind("then"), r.behind("else"))
}

func (r *reader) whileDo() knot {
	t := r.ahead(0)
	return knotAt(api.WhileNode, t, r.behind("while"), r.behind("do"))
}

func (r *reader) newCell() knot {
	k := r.headed(api.NewNode, "new")
	r.take(":")
	k.N = r.number()
	r.take(":=")
	k.M = r.number()
	k.kids = []knot{r.behind("in")}
	return k
}

func (r *reader) label() knot {
	k := r.headed(api.LabelNode, "label")
	k.kids = []knot{r.behind("in"), r.behind("else")}
	return k
}

func (r *reader) notice() knot {
	k := r.headed(api.NoticeNode, "notice")
	r.take(":=")
	k.N = r.number()
	k.kids = []knot{r.behind("in")}
	return k
}

func (r *reader) choose() knot {
	t := r.ahead(0)
	return knotAt(api.ChooseNode, t, r.behind("choose"), r.behind("else"))
}

func (r *reader) or() knot { return r.chain(r.and, "or") }

func (r *reader) and() knot { return r.chain(r.not, "and") }

func (r *reader) not() knot {
	if !r.sees("not") {
		return r.test()
	}
	t := r.take("not")
	return knotAt(api.NotNode, t, r.not())
}

func (r *reader) test() knot {
	k := r.sum()
	if !r.sees("=", "<") {
		return k
	}
	t := r.take("=", "<")
	return knotAt(r.kinds[t.Text], t, k, r.sum())
}

func (r *reader) sum() knot { return r.chain(r.product, "+", "-") }

func (r *reader) product() knot { return r.chain(r.cast, "*") }

// chain reads parts with signs between them, one at least; what was read so far is the first kid of what comes.
func (r *reader) chain(part func() knot, signs ...string) knot {
	k := part()
	for r.sees(signs...) {
		t := r.take(signs...)
		k = knotAt(r.kinds[t.Text], t, k, part())
	}
	return k
}

func (r *reader) cast() knot {
	k := r.atom()
	for r.sees("as") {
		k = knotAt(api.AsNode, r.take("as"), k)
		k.N = r.number()
	}
	return k
}

func (r *reader) atom() knot {
	t := r.ahead(0)
	switch {
	case t.Kind == api.TokName:
		return r.use()
	case t.Kind == api.TokNumber:
		k := knotAt(api.NumNode, t)
		k.N = r.number()
		return k
	case r.sees("jump"):
		return r.headed(api.JumpNode, "jump")
	case r.sees("!"):
		return r.headed(api.GetNode, "!")
	case r.sees("("):
		r.take("(")
		k := r.term()
		r.take(")")
		return k
	}
	t = r.take("true", "false", "skip", "hang")
	return knotAt(r.kinds[t.Text], t)
}

// use reads a name, or a call.
func (r *reader) use() knot {
	k := r.named(api.NameNode)
	if r.sees("(") {
		r.take("(")
		k.Kind = api.CallNode
		k.kids = r.list(r.arg)
		r.take(")")
	}
	return k
}

// arg reads an argument.
func (r *reader) arg() knot {
	switch {
	case r.sees("fn"):
		return r.function()
	case r.sees("{"):
		return r.object()
	}
	return r.term()
}

// function reads an argument with parameters.
func (r *reader) function() knot {
	t := r.take("fn")
	r.take("(")
	parts := r.list(func() knot { return r.named(api.BindNode) })
	parts = append(parts, r.behind(")"))
	return knotAt(api.FnNode, t, parts...)
}

// object reads a cell as an argument.
func (r *reader) object() knot {
	t := r.take("{")
	get := r.behind("get")
	r.take(";")
	r.take("put")
	bind := r.named(api.BindNode)
	put := r.behind(".")
	r.take("}")
	return knotAt(api.ObjectNode, t, get, bind, put)
}
