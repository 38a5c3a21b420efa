package run_test

import (
	"slices"
	"testing"

	"riposte/api"
	"riposte/run"
)

// The examples of the chapter.
func TestExamples(t *testing.T) {
	const choice = "export m():com=choose skip else hang;"
	const put = "import f:(cell 2)->com; export m():bool=new c:2:=0 in(f(c);!c);"
	says(t, said(t, plus, "0?"), asks("1?", 2))
	says(t, said(t, plus, "0? 1? 1!2"), over("0!0", 3))
	for w, at := range map[string]int{"0? 1? 1!3": 2, "0? 0!0": 1} {
		if u, e := run.Next(said(t, plus, w)); u.State != api.StateOdd || u.At != at || e != api.OK {
			t.Errorf("%s: %v, %v", w, u, e)
		}
	}
	says(t, said(t, leaps, "0? 1? 1.1?"), asks("1.1!*", 3))
	says(t, said(t, leaps, "0? 1? 1.1? 1.1!* 1!*"), over("0!0", 4))
	says(t, said(t, "import i:com; export m():com=i;", "^0? 1? 1!*"), over("0!*", 1))
	says(t, said(t, choice, "0?", 0), over("0!0", 2))
	says(t, said(t, choice, "0?", 1), hangs(2))
	says(t, said(t, put, "0? 1? 1.1=1 1.1!0 1!0"), over("0!1", 4))
	x := said(t, put, "0? 1? 1.1=1 1.1!0")
	if l, e := run.Store(x); !slices.Equal(l, []api.CellSeen{{Node: find(x.T, api.NewNode, "c")[0], N: 1}}) || e != api.OK {
		t.Errorf("Store: %v, %v", l, e)
	}
}

// P6.2: the last turn of Talk has the move that is added at last, and the number of the moves before it.
func TestLastTurn(t *testing.T) {
	w, u, e := run.Talk(said(t, plus, ""), []int{0})
	if text(w) != "0? 1?" || text(u.Moves) != "1?" || u.At != 1 || e != api.OK {
		t.Errorf("%s, %v, %v", text(w), u, e)
	}
}
