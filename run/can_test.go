package run_test

import (
	"slices"
	"testing"

	"riposte/api"
	"riposte/arena"
	"riposte/run"
)

// P6.3: the moves that there are with any picks, ascending, each once, and whether the program hangs.
func TestCan(t *testing.T) {

	const back = "export m():int 9=choose 5 else choose 1 else choose 5 else choose 0 else 1;"
	for _, x := range []struct {
		s, word string
		picks   []int
		many    int
		want    string
		hangs   bool
	}{
		{picky, "0?", nil, 0, "0!0", false}, {picky, "0?", nil, 1, "0!0 0!1", false}, {picky, "0?", nil, 2, "0!0 0!1 0!2 0!3", false}, {picky, "0?", nil, 3, "0!0 0!1 0!2 0!3", true}, {picky, "0?", nil, 8, "0!0 0!1 0!2 0!3", true},
		{picky, "0?", []int{1}, 0, "0!1", false}, {picky, "0?", []int{1}, 1, "0!1 0!3", false}, {picky, "0?", []int{1, 1}, 1, "0!3", true}, {picky, "0?", []int{0, -1, 7}, 2, "", true}, {picky, "0?", []int{0, 2, 1}, 5, "0!0", false},
		{back, "0?", nil, 0, "0!5", false}, {back, "0?", nil, 2, "0!1 0!5", false}, {back, "0?", nil, 3, "0!0 0!1 0!5", false}, {back, "0?", nil, 4, "0!0 0!1 0!5", false},
		// Where it is the other one's turn, and where the word is over or odd, there is none; with other picks there may be.
		{picky, "", nil, 3, "", false}, {picky, "0? 0!2", nil, 3, "", false}, {picky, "0? 0!2", nil, 2, "", false}, {picky, "0? 1?", nil, 2, "", false}, {picky, "1?", nil, 8, "", false}, {plus, "0? 1?", nil, 2, "", false}, {plus, "0? 1? 1!2", nil, 2, "0!0", false},
		{"export m():com=choose hang else hang;", "0?", nil, 1, "", true}, {"export m():com=choose hang else skip;", "0?", nil, 1, "0!0", true}, {"export m():com=choose hang else skip;", "0?", nil, 3, "0!0", true}, {"export m():com=choose hang else hang;", "0? 0!0", nil, 1, "", false},
	} {
		l, h, e := run.Can(said(t, x.s, x.word, x.picks...), x.many)
		if text(l) != x.want || h != x.hangs || e != api.OK {
			t.Errorf("%s, %s with %v and %d: %s, %v, %v", x.s, x.word, x.picks, x.many, text(l), h, e)
		}
	}
	// By number of the identifier, then the kind, then the value.
	many := "import c:cell 2; import f:(int 2)->com; export m():com=choose(choose f(0)else c:=1)else(choose c:=0 else if!c then skip else skip);"
	if l, h, e := run.Can(said(t, many, "0?"), 2); text(l) != "1? 1=0 1=1 2?" || h || e != api.OK {
		t.Errorf("%s, %v, %v", text(l), h, e)
	}
}

// P6.3, P6.8: the moves of Can are those of Next with all picks, and those of Next with some are among them.
func TestCanIsNext(t *testing.T) {
	several := 0
	sessions(t, 64, 30, func(d *dice, x api.Session) {
		x.Picks = d.picks(d.below(3))
		many := d.below(5)
		l, h, e := run.Can(x, many)
		var want []api.Move
		hang := false
		for _, picks := range allPicks(many) {
			y := x
			y.Picks = slices.Concat(x.Picks, picks)
			u, f := run.Next(y)
			if e != f {
				t.Fatalf("%s: %v, %v", program(x), e, f)
			}
			hang = hang || u.State == api.StateHangs
			for _, m := range u.Moves {
				if !slices.Contains(want, m) {
					want = append(want, m)
				}
			}
		}
		for i := range l[min(1, len(l)):] {
			if !arena.Less(l[i], l[i+1]) {
				t.Fatalf("%s: %s", program(x), text(l))
			}
		}
		if len(l) > 1 {
			several++
		}
		same := len(l) == len(want) && !slices.ContainsFunc(want, func(m api.Move) bool { return !slices.Contains(l, m) })
		if !same || h != hang {
			t.Fatalf("%s: Can after %s: %s, %v; not %s, %v", program(x), text(x.Word), text(l), h, text(want), hang)
		}
	})
	if several < 8 {
		t.Errorf("%d times several moves", several)
	}
}

// allPicks returns all lists of so many picks of 0 and 1.
func allPicks(many int) [][]int {
	if many == 0 {
		return [][]int{nil}
	}
	var l [][]int
	for _, x := range allPicks(many - 1) {
		l = append(l, append(slices.Clone(x), 0), append(slices.Clone(x), 1))
	}
	return l
}

// P6.3, R1, R2, R7: the errors of Can, and which one comes first; each limit is reached, and passed by one.
func TestCanErrors(t *testing.T) {
	const late = "export m():com=choose skip else choose skip else while true do skip;"
	full := make([]int, api.MaxPicks)
	for i, x := range []struct {
		s     string
		picks []int
		many  int
		want  api.Errno
	}{
		{"export m():com=1;", nil, -1, api.ErrType}, {"export n():com=skip;", nil, 9, api.ErrNone}, {picky, append(full, 0), -1, api.ErrLimit}, {picky, append(full, 0), 9, api.ErrLimit},
		{picky, nil, -1, api.ErrRange}, {picky, nil, api.MaxCan + 1, api.ErrRange}, {picky, nil, 1 << 62, api.ErrRange}, {picky, nil, -1 << 63, api.ErrRange}, {picky, full, 9, api.ErrRange}, {endless, nil, -1, api.ErrRange}, {endless, full, -1, api.ErrRange},
		{picky, full, 1, api.ErrLimit}, {picky, full[:193], 8, api.ErrLimit}, {picky, full, 0, api.OK}, {picky, full[:192], 8, api.OK}, {picky, nil, 8, api.OK}, {picky, nil, 0, api.OK},
		{endless, nil, 0, api.ErrLimit}, {late, nil, 0, api.OK}, {late, nil, 1, api.OK}, {late, nil, 2, api.ErrLimit}, {late, nil, 8, api.ErrLimit}, {late, []int{0}, 8, api.OK},
	} {
		l, h, e := run.Can(said(t, x.s, "0?", x.picks...), x.many)
		if e != x.want || e != api.OK && (len(l) > 0 || h) {
			t.Errorf("%d: %s, %v, %v", i, text(l), h, e)
		}
	}
	// Too many picks are an error also where none is taken.
	if _, _, e := run.Can(said(t, picky, "", full...), 1); e != api.ErrLimit {
		t.Errorf("%v", e)
	}
}
