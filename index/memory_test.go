package index_test

import (
	"reflect"
	"slices"
	"strings"
	"testing"

	"withy/api"
	"withy/index"
	"withy/storetest"
)

// P2: neither a list nor the room behind it is changed.
func TestListsStay(t *testing.T) {
	l := storetest.Roomy(storetest.Of("b;1;k=v,m=1;a", "a;0;k=v;b", "b;2;m=2;", "-b;2", "a;0;k=w;", "c;0;;", "-c;0"))
	before := storetest.Room(l)
	x := newIndex(t, l)
	for n := range len(l) + 1 {
		newIndex(t, l[:n])
		for _, id := range []string{"a", "b", "c", "room", "A"} {
			note(t, x, l[:n], id)
			x.Same(l[:n])
		}
	}
	if !reflect.DeepEqual(storetest.Room(l), before) {
		t.Errorf("the list is %v, was %v", storetest.Room(l), before)
	}
}

// P2: of the lists that are handed in none is kept.
func TestListsAreNotKept(t *testing.T) {
	texts := []string{"b;1;k=v,m=1;a", "a;0;k=v;b", "c;3;m=1;"}
	l := storetest.Roomy(storetest.Of(texts...))
	x := newIndex(t, l)
	x.Same(l)
	storetest.Wipe(l)
	l = storetest.Roomy(storetest.Of("b;1;k=w,m=1;a"))
	note(t, x, l, "b")
	x.Same(l)
	storetest.Wipe(l)
	want := storetest.Of("b;1;k=w,m=1;", texts[1], texts[2])
	compare(t, x, newModel(want), append(storetest.Fields(), api.Field{Key: "m", Value: "1"}, api.Field{Key: "wiped"}))
	checkSame(t, x, want, true)
}

// P2: what is answered is new each time, spare room included, and not the index's own.
func TestAnswersAreNewMemory(t *testing.T) {
	l := storetest.Of("b;1;k=v,m=1;", "a;0;k=v;", "c;0;k=v,n=1;", "d;0;k=v;", "-d;0")
	x := newIndex(t, l)
	note(t, x, l, "d")
	asks := []struct {
		ask  func() []string
		want []string
	}{
		{func() []string { ids, _ := x.By(api.Field{Key: "k", Value: "v"}); return ids }, []string{"a", "b", "c"}},
		{x.Keys, []string{"k", "m", "n"}},
	}
	for _, a := range asks {
		got, again := a.ask(), a.ask()
		storetest.WipeTexts(got)
		for _, l := range [][]string{again, a.ask()} {
			if !slices.Equal(l, a.want) {
				t.Errorf("the answer is %v, want %v", l, a.want)
			}
		}
	}
	ids, _ := x.By(api.Field{Key: "k", Value: "v"})
	note(t, x, storetest.Of("0;0;k=v;"), "0")
	note(t, x, nil, "a")
	if !slices.Equal(ids, []string{"a", "b", "c"}) {
		t.Error("an answer has become", ids)
	}
}

// P2: what one index is told another one does not say.
func TestIndexesAreApart(t *testing.T) {
	l := storetest.Of("b;1;k=v,m=1;", "a;0;k=v;")
	x, y := newIndex(t, l), newIndex(t, l)
	note(t, x, nil, "a")
	note(t, x, storetest.Of("c;0;k=v;"), "c")
	checkSame(t, x, storetest.Of("b;1;k=v,m=1;", "c;0;k=v;"), true)
	checkSame(t, y, l, true)
	checkSame(t, newIndex(t, l), l, true)
}

// P1: an index that no New made says nothing, until it is told of something.
func TestZeroIndex(t *testing.T) {
	var x index.Index
	compare(t, &x, model{}, storetest.Fields())
	checkSame(t, &x, nil, true)
	note(t, &x, nil, "a")
	checkSame(t, &x, storetest.Of("a;0;;"), true)
	l := storetest.Of("a;0;k=v;")
	note(t, &x, l, "a")
	checkSame(t, &x, l, true)
	checkSame(t, &index.Index{}, l, false)
}

// P1: whatever it is given, it answers; the largest store, too.
func TestLargeThings(t *testing.T) {
	long := strings.Repeat("a", 1<<22)
	var x index.Index
	if _, e := x.By(api.Field{Key: long, Value: long}); e != api.ErrForm {
		t.Error(e)
	}
	if e := x.Note(make([]api.Version, 1<<20), long); e != api.ErrLarge {
		t.Error(e)
	}
	l := storetest.Whole()
	y := newIndex(t, l)
	if y.Count() != 6*5120 || !slices.Equal(y.Keys(), []string{"a", "b", "c", "d", "e", "f"}) {
		t.Error(y.Count(), y.Keys())
	}
	for i := 0; i < len(l); i += 512 {
		note(t, y, l, l[i].Record.Id)
	}
	checkSame(t, y, l, true)
	note(t, y, l[1:], l[0].Record.Id)
	checkSame(t, y, l, false)
	checkSame(t, y, l[1:], true)
}
