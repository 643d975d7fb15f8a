package find_test

import (
	"math"
	"math/rand/v2"
	"reflect"
	"slices"
	"strconv"
	"strings"
	"testing"

	"withy/api"
	"withy/find"
	"withy/store"
	"withy/storetest"
)

// wantBy asks the store of each name.
func wantBy(l []api.Version, f api.Field) []string {
	ids, _ := store.Ids(l)
	return slices.DeleteFunc(ids, func(id string) bool {
		r, _ := store.Get(l, id)
		return !slices.Contains(r.Fields, f)
	})
}

func wantWith(l []api.Version, ids []string) []string {
	live, _ := store.Ids(l)
	names := map[string]bool{}
	for _, id := range ids {
		if !slices.Contains(live, id) {
			continue
		}
		names[id] = true
		r, _ := store.Get(l, id)
		for _, ref := range r.Refs {
			names[ref] = slices.Contains(live, ref)
		}
	}
	return slices.DeleteFunc(live, func(id string) bool { return !names[id] })
}

func checkBy(t *testing.T, l []api.Version, f api.Field, want []string) {
	t.Helper()
	if got, e := find.By(l, f); !slices.Equal(got, want) || e != api.OK {
		t.Fatalf("By(%v, %v) = %v, %v, want %v", l, f, got, e, want)
	}
}

func checkWith(t *testing.T, l []api.Version, ids, want []string) {
	t.Helper()
	if got, e := find.With(l, ids); !slices.Equal(got, want) || e != api.OK {
		t.Fatalf("With(%v, %v) = %v, %v, want %v", l, ids, got, e, want)
	}
}

// P28: by the Key and the Value, of what store.Get answers alone.
func TestBy(t *testing.T) {
	tests := []struct {
		l    []api.Version
		want []string
	}{
		{nil, nil},
		{storetest.Of("a;0;;"), nil},
		{storetest.Of("b;0;k=v;", "a;3;k=v;", "c;0;k=w;"), []string{"a", "b"}},
		{storetest.Of("b;0;k=v;", "10;3;k=v;", "9;0;k=v;", "ab;1;k=v;", "a;1;k=v;"), []string{"10", "9", "a", "ab", "b"}},
		{storetest.Of("a;0;m=v;", "b;0;k=;", "c;0;k=vv;", "d;0;kk=v;", "v;0;v=k;", "k;0;;k,v"), nil},
		{storetest.Of("a;0;a=v,k=v,z=v;", "b;0;a=v,k=w,z=v;"), []string{"a"}},
		{storetest.Of("a;0;k=v;", "a;0;k=w;"), nil},
		{storetest.Of("a;0;k=w;", "a;0;k=v;"), []string{"a"}},
		{storetest.Of("a;0;k=v;", "a;0;k=v;", "a;1;k=v;"), []string{"a"}},
		{storetest.Of("a;1;k=v;", "a;2;k=w;"), nil},
		{storetest.Of("a;1;k=v;", "a;2;k=w;", "-a;2"), []string{"a"}},
		{storetest.Of("a;1;k=v;", "a;2;k=w;", "-a;1"), nil},
		{storetest.Of("a;1;k=v;", "-a;1"), nil},
		{storetest.Of("a;1;k=v;", "-a;1", "b;1;k=v;", "a;1;;"), []string{"b"}},
	}
	for _, x := range tests {
		checkBy(t, x.l, api.Field{Key: "k", Value: "v"}, x.want)
	}
}

// P28: an empty Value is one, and not each; the longest ones are found too.
func TestByEachKindOfField(t *testing.T) {
	l := storetest.Of("a;0;k=;", "b;0;k=v;", "c;0;m=;", "d;0;12345678=123456789012;")
	checkBy(t, l, api.Field{Key: "k"}, []string{"a"})
	checkBy(t, l, api.Field{Key: "m"}, []string{"c"})
	checkBy(t, l, api.Field{Key: "12345678", Value: "123456789012"}, []string{"d"})
	checkBy(t, l, api.Field{Key: "1234567", Value: "123456789012"}, nil)
}

// P28, P2: what is no field is refused, whatever is in the store.
func TestByRefuses(t *testing.T) {
	for _, f := range storetest.BadFields() {
		for _, l := range [][]api.Version{nil, storetest.Of("a;0;k=v;")} {
			if got, e := find.By(l, f); len(got) > 0 || e != api.ErrForm {
				t.Errorf("By(%v, %q) = %v, %v", l, f, got, e)
			}
		}
	}
}

// P28, P29, P2: store.Check's error is told ahead of all others.
func TestBadStores(t *testing.T) {
	for _, l := range storetest.Bad() {
		want := store.Check(l)
		for _, f := range append(storetest.BadFields(), api.Field{Key: "k", Value: "v"}) {
			if got, e := find.By(l, f); want == api.OK || len(got) > 0 || e != want {
				t.Errorf("By(%v, %q) = %v, %v, want %v", l, f, got, e, want)
			}
		}
		for _, n := range []int{0, 1, 60, 61} {
			ids := slices.Repeat([]string{"a"}, n)
			if got, e := find.With(l, ids); len(got) > 0 || e != want {
				t.Errorf("With(%v, %d names) = %v, %v, want %v", l, n, got, e, want)
			}
		}
	}
}

// P29: the names, and one step from them; of both just those that live.
func TestWith(t *testing.T) {
	l := storetest.Of("b;0;k=v;c,d", "a;0;k=v;", "c;0;;e", "e;0;;", "f;1;;a,b,f", "g;0;;a", "-g;0",
		"h;0;;a,c", "h;0;;e,g", "i;1;;a", "i;2;;b", "-i;2", "j;1;;a", "j;2;;b", "-j;1")
	tests := []struct{ ids, want []string }{
		{nil, nil},
		{[]string{"b"}, []string{"b", "c"}},
		{[]string{"b", "d"}, []string{"b", "c"}},
		{[]string{"d"}, nil},
		{[]string{"a"}, []string{"a"}},
		{[]string{"c"}, []string{"c", "e"}},
		{[]string{"f"}, []string{"a", "b", "f"}},
		{[]string{"g"}, nil},
		{[]string{"h"}, []string{"e", "h"}},
		{[]string{"i"}, []string{"a", "i"}},
		{[]string{"j"}, []string{"b", "j"}},
		{[]string{"h", "c", "b", "c", "h"}, []string{"b", "c", "e", "h"}},
		{[]string{"", "A", "b ", "123456789", "\xff", "a"}, []string{"a"}},
	}
	for _, x := range tests {
		checkWith(t, l, x.ids, x.want)
	}
	checkWith(t, nil, []string{"a"}, nil)
}

// P29: just 60 names, whatever they are, each counted as often as it is there.
func TestWithUpTo60(t *testing.T) {
	l := storetest.Of("a;0;;b", "b;0;;")
	for _, id := range []string{"a", "none", "A"} {
		want := []string{"a", "b"}
		if id != "a" {
			want = nil
		}
		checkWith(t, l, slices.Repeat([]string{id}, 60), want)
		for _, n := range []int{61, 62, 1 << 16} {
			for _, l := range [][]api.Version{nil, l} {
				if got, e := find.With(l, slices.Repeat([]string{id}, n)); len(got) > 0 || e != api.ErrLarge {
					t.Errorf("With %d names = %v, %v", n, got, e)
				}
			}
		}
	}
	// 60 names with four refs each are more than 60 names, all of which are told.
	var ids, want []string
	var many []api.Version
	for i := range 300 {
		id := strconv.Itoa(1000 + i)
		if i%5 == 0 {
			ids = append(ids, id)
		}
		refs := []string{strconv.Itoa(1001 + i), strconv.Itoa(1002 + i), strconv.Itoa(1003 + i), strconv.Itoa(1004 + i)}
		many = append(many, api.Version{Record: api.Record{Id: id, Cats: i % 256, Refs: refs}})
		want = append(want, id)
	}
	checkWith(t, many, ids, want)
}

// P28, P29: many stores, held against the store.
func TestManyStores(t *testing.T) {
	n := rand.New(rand.NewPCG(28, 29))
	for range 20 {
		var l []api.Version
		for range 60 {
			l = storetest.Step(l, n.IntN)
			for _, f := range storetest.Fields() {
				checkBy(t, l, f, wantBy(l, f))
			}
			for range 10 {
				var ids []string
				for range n.IntN(4) {
					ids = append(ids, append(storetest.Names(), "none")[n.IntN(7)])
				}
				checkWith(t, l, ids, wantWith(l, ids))
			}
		}
	}
}

// The first thing that holds always: whom a part is told finds nothing by what is not in it.
func TestWhatIsNotSeenIsNotFound(t *testing.T) {
	l := storetest.Of("a;1;k=v;b,c", "a;2;k=v;d", "b;1;;", "c;2;k=v;", "d;2;;a")
	part, _ := store.Part(l, 1)
	checkBy(t, part, api.Field{Key: "k", Value: "v"}, []string{"a"})
	checkWith(t, part, []string{"a", "d"}, []string{"a", "b"})
	checkBy(t, l, api.Field{Key: "k", Value: "v"}, []string{"a", "c"})
	checkWith(t, l, []string{"a"}, []string{"a", "d"})
}

// P2: neither a list nor the room behind it is changed.
func TestListsStay(t *testing.T) {
	l := storetest.Roomy(storetest.Of("b;1;k=v;a,c", "a;0;k=w,m=v;b", "c;0;k=v;", "-c;0"))
	texts := []string{"c", "b", "a", "b", "room", "A"}
	names := []string{"a", "b", "c", "room", "A"}
	before, textsBefore, namesBefore := storetest.Room(l), slices.Clone(texts), slices.Clone(names)
	for n := range len(texts) + 1 {
		find.By(l[:min(n, len(l))], api.Field{Key: "k", Value: "v"})
		find.By(l[:min(n, len(l))], api.Field{})
		find.With(l[:min(n, len(l))], texts[:n])
		find.Page(names[:min(n, len(names))], "a", 2)
		find.Page(names[:min(n, len(names))], "zz", 61)
	}
	if !reflect.DeepEqual(storetest.Room(l), before) {
		t.Errorf("the list is %v, was %v", storetest.Room(l), before)
	}
	if !slices.Equal(texts, textsBefore) || !slices.Equal(names, namesBefore) {
		t.Errorf("the names are %v, %v, were %v, %v", texts, names, textsBefore, namesBefore)
	}
}

// P2: what is answered is new each time, spare room included, and hangs on the
// lists as they are now.
func TestAnswersAreNewMemory(t *testing.T) {
	l := storetest.Of("b;1;k=v;a", "a;0;k=v;b", "c;0;k=v;")
	names := []string{"a", "b", "c", "d", "e"}
	asks := []func() []string{
		func() []string { ids, _ := find.By(l, api.Field{Key: "k", Value: "v"}); return ids },
		func() []string { ids, _ := find.With(l, names[:3]); return ids },
		func() []string { ids, _, _ := find.Page(names[:3], "", 60); return ids },
		func() []string { ids, _, _ := find.Page(names[:4], "", 3); return ids },
	}
	for i, ask := range asks {
		got := ask()
		again := ask()
		storetest.WipeTexts(got)
		for _, ids := range [][]string{again, ask()} {
			if !slices.Equal(ids, []string{"a", "b", "c"}) {
				t.Errorf("%d: the answer is %v", i, ids)
			}
		}
	}
	if !slices.Equal(names, []string{"a", "b", "c", "d", "e"}) {
		t.Error("the names are", names)
	}
	copy(l, storetest.Of("a;0;;c", "b;0;k=v;"))
	checkBy(t, l, api.Field{Key: "k", Value: "v"}, []string{"b", "c"})
	checkWith(t, l, []string{"a"}, []string{"a", "c"})
}

// P1: whatever it is given, it answers.
func TestLargeThings(t *testing.T) {
	long := strings.Repeat("a", 1<<22)
	r := api.Record{Id: long, Cats: math.MaxInt, Fields: make([]api.Field, 1<<16), Refs: make([]string, 1<<16)}
	_, e := find.By([]api.Version{{Record: r}}, api.Field{Key: long, Value: long})
	_, f := find.By(nil, api.Field{Key: long, Value: long})
	_, g := find.With(make([]api.Version, 1<<20), nil)
	got, h := find.With(nil, []string{long})
	if e != api.ErrForm || f != api.ErrForm || g != api.ErrLarge || len(got) > 0 || h != api.OK {
		t.Error(e, f, g, got, h)
	}
	l := storetest.Whole()
	checkBy(t, l, api.Field{Key: "f", Value: "5119"}, []string{"n5119"})
	checkWith(t, l, []string{"n77", "n0", "n"}, []string{"n0", "n77"})
}
