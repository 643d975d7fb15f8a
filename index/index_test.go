package index_test

import (
	"math/rand/v2"
	"slices"
	"strings"
	"testing"

	"withy/api"
	"withy/find"
	"withy/index"
	"withy/store"
	"withy/storetest"
)

// model says of each name which fields it has.
type model map[string][]api.Field

func newModel(l []api.Version) model {
	m := model{}
	ids, _ := store.Ids(l)
	for _, id := range ids {
		m.note(l, id)
	}
	return m
}

func (m model) note(l []api.Version, id string) {
	r, _ := store.Get(l, id)
	m[id] = r.Fields
}

func (m model) by(f api.Field) []string {
	var ids []string
	for id, fields := range m {
		if slices.Contains(fields, f) {
			ids = append(ids, id)
		}
	}
	slices.Sort(ids)
	return ids
}

func (m model) keysAndCount() (keys []string, count int) {
	for _, fields := range m {
		for _, f := range fields {
			keys = append(keys, f.Key)
			count++
		}
	}
	slices.Sort(keys)
	return slices.Compact(keys), count
}

// isSame goes by each name that either has.
func (m model) isSame(other model) bool {
	for _, pair := range [][2]model{{m, other}, {other, m}} {
		for id, fields := range pair[0] {
			if !slices.Equal(fields, pair[1][id]) {
				return false
			}
		}
	}
	return true
}

// compare holds all that x says against m; fields are the ones that are asked for.
func compare(t *testing.T, x *index.Index, m model, fields []api.Field) {
	t.Helper()
	for _, f := range fields {
		if got, e := x.By(f); !slices.Equal(got, m.by(f)) || e != api.OK {
			t.Fatalf("By(%v) = %v, %v, want %v", f, got, e, m.by(f))
		}
	}
	keys, count := m.keysAndCount()
	if !slices.Equal(x.Keys(), keys) || x.Count() != count {
		t.Fatalf("Keys %v, Count %d, want %v, %d", x.Keys(), x.Count(), keys, count)
	}
}

// newIndex answers the index of a store.
func newIndex(t *testing.T, l []api.Version) *index.Index {
	t.Helper()
	x, e := index.New(l)
	if x == nil || e != api.OK {
		t.Fatalf("New(%v) = %v, %v", l, x, e)
	}
	return x
}

func checkSame(t *testing.T, x *index.Index, l []api.Version, want bool) {
	t.Helper()
	if is, e := x.Same(l); is != want || e != api.OK {
		t.Fatalf("Same(%v) = %v, %v, want %v", l, is, e, want)
	}
}

func note(t *testing.T, x *index.Index, l []api.Version, id string) {
	t.Helper()
	if e := x.Note(l, id); e != api.OK {
		t.Fatalf("Note(%v, %q) = %v", l, id, e)
	}
}

// P31, P33: the fields of what store.Get answers, of each name.
func TestNew(t *testing.T) {
	k, m := api.Field{Key: "k", Value: "v"}, api.Field{Key: "m", Value: "1"}
	tests := []struct {
		l        []api.Version
		byK, byM []string
		keys     []string
		count    int
	}{
		{nil, nil, nil, nil, 0},
		{storetest.Of("a;0;;b"), nil, nil, nil, 0},
		{storetest.Of("b;0;k=v,m=1;", "a;0;k=v;"), []string{"a", "b"}, []string{"b"}, []string{"k", "m"}, 3},
		{storetest.Of("9;0;k=v;", "b;0;k=v;", "10;0;k=v;", "ab;0;k=v;"), []string{"10", "9", "ab", "b"}, nil, []string{"k"}, 4},
		{storetest.Of("a;0;m=v;", "b;0;k=;", "c;0;k=1;", "d;0;kk=v;"), nil, nil, []string{"k", "kk", "m"}, 4},
		{storetest.Of("a;0;k=v;", "a;0;m=1;"), nil, []string{"a"}, []string{"m"}, 1},
		{storetest.Of("a;1;k=v;", "a;2;m=1;"), nil, []string{"a"}, []string{"m"}, 1},
		{storetest.Of("a;1;k=v;", "a;2;m=1;", "-a;2"), []string{"a"}, nil, []string{"k"}, 1},
		{storetest.Of("a;1;k=v;", "b;2;m=1;", "-a;1"), nil, []string{"b"}, []string{"m"}, 1},
		{storetest.Of("a;1;k=v;", "-a;1"), nil, nil, nil, 0},
		{storetest.Of("a;1;k=v;", "a;1;k=v;", "a;2;k=v;"), []string{"a"}, nil, []string{"k"}, 1},
		{storetest.Of("a;1;z=1;", "b;2;10=1,9=1,b=1;", "c;3;b=2,z=2;"), nil, nil, []string{"10", "9", "b", "z"}, 6},
	}
	for _, x := range tests {
		i := newIndex(t, x.l)
		byK, e := i.By(k)
		byM, f := i.By(m)
		if !slices.Equal(byK, x.byK) || !slices.Equal(byM, x.byM) || e != api.OK || f != api.OK {
			t.Errorf("of %v: By %v, %v, %v, %v", x.l, byK, byM, e, f)
		}
		if !slices.Equal(i.Keys(), x.keys) || i.Count() != x.count {
			t.Errorf("of %v: Keys %v, Count %d, want %v, %d", x.l, i.Keys(), i.Count(), x.keys, x.count)
		}
		checkSame(t, i, x.l, true)
	}
}

// P31, P2: what is no store has no index.
func TestNewRefuses(t *testing.T) {
	for _, l := range append(storetest.Bad(), make([]api.Version, 1<<20)) {
		want := store.Check(l)
		if x, e := index.New(l); want == api.OK || x != nil || e != want {
			t.Errorf("New(%v) = %v, %v, want %v", l, x, e, want)
		}
	}
}

// P32: what lives, is put, is Gone, and comes again.
func TestNote(t *testing.T) {
	l := storetest.Of("a;1;k=v,m=1;", "b;1;k=v;", "b;2;m=2;", "-b;2", "-a;1", "-b;1", "a;0;k=v;", "c;0;;", "a;0;;")
	x, m := newIndex(t, nil), model{}
	fields := []api.Field{{Key: "k", Value: "v"}, {Key: "m", Value: "1"}, {Key: "m", Value: "2"}}
	for i, v := range l {
		note(t, x, l[:i+1], v.Record.Id)
		m.note(l[:i+1], v.Record.Id)
		compare(t, x, m, fields)
		checkSame(t, x, l[:i+1], true)
	}
	if x.Count() != 0 || len(x.Keys()) > 0 {
		t.Error(x.Count(), x.Keys())
	}
}

// P32: of that name alone, whatever else l says; and of another l from now on.
func TestNoteOfOneName(t *testing.T) {
	x := newIndex(t, storetest.Of("a;0;k=v;", "b;0;k=v;", "c;0;k=v,m=1;"))
	l := storetest.Of("a;0;k=w;", "b;0;m=1;", "d;0;k=v;")
	note(t, x, l, "b")
	v, w, one := api.Field{Key: "k", Value: "v"}, api.Field{Key: "k", Value: "w"}, api.Field{Key: "m", Value: "1"}
	compare(t, x, model{"a": {v}, "b": {one}, "c": {v, one}}, []api.Field{v, w, one})
	note(t, x, l, "d")
	note(t, x, l, "d")
	compare(t, x, model{"a": {v}, "b": {one}, "c": {v, one}, "d": {v}}, []api.Field{v, w, one})
	note(t, x, l, "c")
	compare(t, x, model{"a": {v}, "b": {one}, "d": {v}}, []api.Field{v, w, one})
	checkSame(t, x, l, false)
	note(t, x, l, "a")
	checkSame(t, x, l, true)
}

// P32: of a name that is none, or that never was, it says nothing, and all else stays.
func TestNoteOfNone(t *testing.T) {
	l := storetest.Of("b;0;k=v;", "c;0;k=v,m=1;")
	x := newIndex(t, l)
	for _, id := range []string{"", "a", "bb", "z", "B", "b ", "123456789", "\xff", strings.Repeat("b", 1<<20)} {
		note(t, x, l, id)
		compare(t, x, newModel(l), storetest.Fields())
		checkSame(t, x, l, true)
	}
}

// P32, P34, P2: what is no store changes nothing.
func TestBadStores(t *testing.T) {
	l := storetest.Of("a;0;k=v;", "b;0;k=v,m=1;")
	x := newIndex(t, l)
	for _, bad := range storetest.Bad() {
		want := store.Check(bad)
		for _, id := range []string{"a", "b", "none", "A", ""} {
			if e := x.Note(bad, id); want == api.OK || e != want {
				t.Errorf("Note(%v, %q) = %v, want %v", bad, id, e, want)
			}
		}
		if is, e := x.Same(bad); is || e != want {
			t.Errorf("Same(%v) = %v, %v, want %v", bad, is, e, want)
		}
		compare(t, x, newModel(l), storetest.Fields())
		checkSame(t, x, l, true)
	}
}

// P33: what is no field is refused; one that nobody has has no names.
func TestBy(t *testing.T) {
	x := newIndex(t, storetest.Of("a;0;k=;", "b;0;12345678=123456789012;"))
	for _, f := range storetest.BadFields() {
		for _, x := range []*index.Index{x, {}} {
			if got, e := x.By(f); len(got) > 0 || e != api.ErrForm {
				t.Errorf("By(%q) = %v, %v", f, got, e)
			}
		}
	}
	tests := []struct {
		f    api.Field
		want []string
	}{
		{api.Field{Key: "k"}, []string{"a"}},
		{api.Field{Key: "12345678", Value: "123456789012"}, []string{"b"}},
		{api.Field{Key: "k", Value: "v"}, nil},
		{api.Field{Key: "kk"}, nil},
	}
	for _, x2 := range tests {
		if got, e := x.By(x2.f); !slices.Equal(got, x2.want) || e != api.OK {
			t.Errorf("By(%q) = %v, %v", x2.f, got, e)
		}
	}
}

// P34: by what is said of fields and names, not by the versions that said it.
func TestSame(t *testing.T) {
	base := storetest.Of("a;0;k=v,m=1;", "b;0;k=v;")
	same := [][]api.Version{
		storetest.Of("b;0;k=v;", "a;0;k=v,m=1;"),
		storetest.Of("a;7;k=v,m=1;b", "b;3;k=v;", "c;0;;", "d;0;k=v;", "-d;0"),
		storetest.Of("a;0;k=w;", "b;1;k=v;", "b;2;k=w;", "a;0;k=v,m=1;", "-b;2"),
	}
	other := [][]api.Version{
		nil,
		storetest.Of("a;0;k=v,m=1;"),
		storetest.Of("b;0;k=v;"),
		storetest.Of("a;0;k=v;", "b;0;k=v,m=1;"),
		storetest.Of("a;0;k=v,m=1;", "c;0;k=v;"),
		storetest.Of("a;0;k=v,m=1;", "b;0;k=v;", "c;0;k=v;"),
		storetest.Of("a;0;k=v,m=1;", "b;0;k=v,n=1;"),
		storetest.Of("a;0;k=v,m=2;", "b;0;k=v;"),
		storetest.Of("a;0;k=v,n=1;", "b;0;k=v;"),
		storetest.Of("a;0;k=v,m=1;", "b;0;k=v;", "-b;0"),
		storetest.Of("a;0;k=v,m=1;", "b;0;k=v;", "b;1;;"),
	}
	x := newIndex(t, base)
	for _, l := range same {
		checkSame(t, x, l, true)
		checkSame(t, newIndex(t, l), base, true)
	}
	for _, l := range other {
		checkSame(t, x, l, false)
		checkSame(t, newIndex(t, l), base, false)
	}
	checkSame(t, newIndex(t, nil), storetest.Of("a;0;;b", "b;0;k=v;", "-b;0"), true)
}

// P31 to P34: as a store goes on, an index that is told of each change says
// what a new one says, and what find.By finds.
func TestManyStores(t *testing.T) {
	n := rand.New(rand.NewPCG(31, 34))
	for range 20 {
		x, l := newIndex(t, nil), []api.Version(nil)
		for range 60 {
			next := storetest.Step(l, n.IntN)
			if len(next) == len(l) {
				continue
			}
			l = next
			note(t, x, l, l[len(l)-1].Record.Id)
			checkSame(t, x, l, true)
			for _, x := range []*index.Index{x, newIndex(t, l)} {
				compare(t, x, newModel(l), storetest.Fields())
			}
			for _, f := range storetest.Fields() {
				got, _ := x.By(f)
				if want, _ := find.By(l, f); !slices.Equal(got, want) {
					t.Fatalf("By(%v) = %v, found %v", f, got, want)
				}
			}
		}
	}
}

// P31 to P34: names that are noted by chance, of different stores, held against the model.
func TestManyNotes(t *testing.T) {
	n := rand.New(rand.NewPCG(32, 7))
	for range 20 {
		var stores [3][]api.Version
		for i := range stores {
			for range 30 {
				stores[i] = storetest.Step(stores[i], n.IntN)
			}
		}
		x, m := newIndex(t, stores[0]), newModel(stores[0])
		for range 60 {
			l, id := stores[n.IntN(3)], append(storetest.Names(), "none", "A")[n.IntN(8)]
			note(t, x, l, id)
			m.note(l, id)
			compare(t, x, m, storetest.Fields())
			for _, l := range stores {
				checkSame(t, x, l, m.isSame(newModel(l)))
			}
		}
	}
}
