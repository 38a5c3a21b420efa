package parse_test

import (
	"slices"
	"strconv"
	"strings"

	"riposte/api"
)

func itoa(n int) string { return strconv.Itoa(n) }

// chapter is the grammar of the chapter, a line a rule. A list has a rule of its own. The token ;; is a ; behind which the keyword of an item, or the end, comes.
const chapter = `
program = | program item
item = import NAME : type end | def NAME ( ) : base = term ;; | export NAME ( ) : base = term ;; | def NAME ( params ) : base = term ;; | export NAME ( params ) : base = term ;;
end = ; | ;;
params = param | params , param
param = NAME : type
type = base | ( bases ) -> base
bases = base | bases , base
base = int NUMBER | cell NUMBER | com | bool
term = first | term ; first
first = if first then first else first | while first do first | new NAME : NUMBER := NUMBER in first | label NAME in first else first | notice NAME := NUMBER in first | choose first else first | NAME := first | or_
or_ = and_ | or_ or and_
and_ = not_ | and_ and not_
not_ = not not_ | test
test = sum | sum = sum | sum < sum
sum = product | sum + product | sum - product
product = cast | product * cast
cast = atom | cast as NUMBER
atom = NUMBER | true | false | skip | hang | jump NAME | ! NAME | NAME | NAME ( args ) | ( term )
args = arg | args , arg
arg = fn ( names ) first | { get first ; put NAME . first } | term
names = NAME | names , NAME
`

// production is a line of the grammar, or one of several of a line.
type production struct {
	makes string
	words []string
}

// productions takes the grammar apart.
func productions() map[string][]production {
	r := map[string][]production{}
	for _, line := range strings.Split(strings.TrimSpace(chapter), "\n") {
		makes, rest, _ := strings.Cut(line, " =")
		for _, s := range strings.Split(rest, " |") {
			r[makes] = append(r[makes], production{makes, strings.Fields(s)})
		}
	}
	return r
}

// state is how far a production has come that began at a token.
type state struct {
	makes string
	which int // which production of makes
	done  int // how many of its words
	from  int
}

// classes returns the words of the grammar for tokens.
func classes(l []string) []string {
	var r []string
	for i, s := range l {
		switch {
		case s == ";" && (i+1 == len(l) || isItemWord(l[i+1])):
			s = ";;"
		case '0' <= s[0] && s[0] <= '9':
			s = "NUMBER"
		case letter(s[0]) && !keyword(s):
			s = "NAME"
		}
		r = append(r, s)
	}
	return r
}

func isItemWord(s string) bool { return s == "import" || s == "def" || s == "export" }

func keyword(s string) bool {
	return slices.Contains(strings.Fields("and as bool cell choose com def do else export false fn get hang if import in int jump label new not notice of or put skip then true while"), s)
}

// follow follows the grammar through the classes of tokens in all ways at once. It returns how many tokens it goes on with, and whether what begins with the first one can be a program up to each number of tokens.
func follow(rules map[string][]production, l []string) (int, []bool) {
	var whole []bool
	sets := []map[state]bool{{}}
	for i := range rules["program"] {
		sets[0][state{makes: "program", which: i}] = true
	}
	for at := 0; ; at++ {
		closeSet(rules, sets, at)
		full := false
		next := map[state]bool{}
		for x := range sets[at] {
			words := rules[x.makes][x.which].words
			if x.done == len(words) {
				full = full || x.makes == "program" && x.from == 0
			} else if at < len(l) && words[x.done] == l[at] {
				x.done++
				next[x] = true
			}
		}
		whole = append(whole, full)
		if len(next) == 0 {
			return at, whole
		}
		sets = append(sets, next)
	}
}

// closeSet puts into a set all that follows from it without another token.
func closeSet(rules map[string][]production, sets []map[state]bool, at int) {
	set := sets[at]
	var work []state
	add := func(x state) {
		if !set[x] {
			set[x] = true
			work = append(work, x)
		}
	}
	for x := range set {
		work = append(work, x)
	}
	for len(work) > 0 {
		x := work[len(work)-1]
		work = work[:len(work)-1]
		words := rules[x.makes][x.which].words
		if x.done < len(words) {
			for i := range rules[words[x.done]] {
				add(state{makes: words[x.done], which: i, from: at})
			}
			// What is empty is done at once.
			if words[x.done] == "program" {
				x.done++
				add(x)
			}
			continue
		}
		for y := range sets[x.from] {
			if w := rules[y.makes][y.which].words; y.done < len(w) && w[y.done] == x.makes {
				y.done++
				add(y)
			}
		}
	}
}

// strayOf returns the number of the first token with which tokens do not go on as the grammar says; -1 if there is none.
func strayOf(rules map[string][]production, l []string) int {
	l = classes(l)
	n, whole := follow(rules, l)
	if n == len(l) && whole[n] {
		return -1
	}
	return n
}

// recovered returns where the items begin and end that are read of tokens, and the numbers of those where one does not go on.
func recovered(rules map[string][]production, l []string) (spans [][2]int, strays []int) {
	l = classes(l)
	for at := 0; at < len(l); {
		n, whole := follow(rules, l[at:])
		// The item that does not go on begins behind the last whole program that ends where an item can.
		start := 0
		for i := 1; i <= n; i++ {
			if whole[i] {
				spans = append(spans, [2]int{at + start, at + i})
				start = i
			}
		}
		if start == len(l)-at {
			break
		}
		strays = append(strays, at+n)
		for at = max(at+n, at+start+1); at < len(l) && !isItemWord(l[at]); at++ {
		}
	}
	return spans, strays
}

// kidsOfKinds are the kids of each kind as the chapter's table says them: i an item, p a ParamNode, b a base, a an ArrowType, t a term, f a FnNode or ObjectNode, n a BindNode. The fields stand in front.
func kidsOfKinds() map[uint8]string {
	return map[uint8]string{
		api.ProgramNode: " i*", api.ImportItem: "T [ab]", api.DefItem: "T p*bt", api.ExportItem: "T p*bt", api.ParamNode: "T [ab]",
		api.IntType: "N ", api.CellType: "N ", api.ArrowType: " bb+",
		api.SeqNode: " tt+", api.IfNode: " ttt", api.WhileNode: " tt", api.NewNode: "TNM t", api.LabelNode: "T tt", api.NoticeNode: "TN t", api.ChooseNode: " tt", api.PutNode: "T t",
		api.OrNode: " tt", api.AndNode: " tt", api.NotNode: " t", api.EqNode: " tt", api.LessNode: " tt", api.AddNode: " tt", api.SubNode: " tt", api.MulNode: " tt", api.AsNode: "N t",
		api.NumNode: "N ", api.TrueNode: " ", api.FalseNode: " ", api.SkipNode: " ", api.HangNode: " ", api.JumpNode: "T ", api.GetNode: "T ", api.NameNode: "T ",
		api.CallNode: "T [tf]+", api.FnNode: " n+t", api.ObjectNode: " tnt", api.BindNode: "T ",
	}
}

// letterOf returns the letter of a kind in kidsOfKinds.
func letterOf(kind uint8) string {
	switch {
	case kind >= api.ImportItem && kind <= api.ExportItem:
		return "i"
	case kind == api.ParamNode:
		return "p"
	case kind == api.IntType || kind == api.CellType:
		return "b"
	case kind == api.ArrowType:
		return "a"
	case kind >= api.SeqNode && kind <= api.CallNode:
		return "t"
	case kind == api.FnNode || kind == api.ObjectNode:
		return "f"
	case kind == api.BindNode:
		return "n"
	}
	return "?"
}
