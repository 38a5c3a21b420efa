package arena_test

import (
	"strings"
	"testing"

	"riposte/api"
	"riposte/arena"
)

// The examples of the chapter.
func TestExamples(t *testing.T) {
	a := example()
	l, e := arena.Moves(a)
	want := strings.Join([]string{"0? 0!0 0!1", "1? 1!* 1!0", "1.1? 1.1!* 1.1!0 1.1!1 1.1!2", "1.2? 1.2=0 1.2=1 1.2!* 1.2!0 1.2!1", "2? 2=0 2=1 2!0 2!1"}, " ")
	if texts(l) != want || e != api.OK {
		t.Errorf("Moves: %s, %v", texts(l), e)
	}
	for s, want := range map[string]bool{"1!0": true, "1.1!2": false, "2=1": false} {
		if is, e := arena.IsOther(a, move(t, s)); is != want || e != api.OK {
			t.Errorf("IsOther of %s: %v, %v", s, is, e)
		}
	}
	for s, want := range map[string]string{"1.2=1": "1.2!* 1.2!0", "2=1": "2!0"} {
		if l, e := arena.Answers(a, move(t, s)); texts(l) != want || e != api.OK {
			t.Errorf("Answers of %s: %s, %v", s, texts(l), e)
		}
	}
	if l, e := arena.Under(a, move(t, "1?")); texts(l) != "1.1? 1.2? 1.2=0 1.2=1" || e != api.OK {
		t.Errorf("Under of 1?: %s, %v", texts(l), e)
	}
	inner, e := arena.Inner(a, 1)
	if s := show(t, inner); s != "int 1; int 3; cell 2; jumps" || e != api.OK {
		t.Errorf("Inner of 1: %s, %v", s, e)
	}
	for _, s := range []string{"2!*", "0!2"} {
		if has, e := arena.Has(a, move(t, s)); has || e != api.OK {
			t.Errorf("Has of %s: %v, %v", s, has, e)
		}
	}
}

// The example of DOC.md.
func TestExampleOfAll(t *testing.T) {
	a, e := arena.Read("int 2; (int 2) -> int 1; int 2")
	if e != api.OK {
		t.Fatal(e)
	}
	l, e := arena.Moves(a)
	if texts(l) != "0? 0!0 0!1 1? 1!* 1!0 1.1? 1.1!* 1.1!0 1.1!1 2? 2!0 2!1" || e != api.OK {
		t.Errorf("%s, %v", texts(l), e)
	}
}
