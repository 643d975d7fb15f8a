package store_test

import (
	"slices"
	"strings"
	"testing"

	"withy/api"
	"withy/record"
	"withy/store"
)

// The model goes by the words of the chapter, each time over all versions.

func wantLives(l []api.Version, id string, cats int) bool {
	lives := false
	for _, v := range l {
		if v.Record.Id == id && v.Record.Cats == cats {
			lives = !v.Gone
		}
	}
	return lives
}

func wantSame(l []api.Version, cats int) int {
	n := 0
	for _, v := range l {
		if v.Record.Cats == cats {
			n++
		}
	}
	return n
}

func wantCheck(l []api.Version) api.Errno {
	if len(l) > 5120 {
		return api.ErrLarge
	}
	for i, v := range l {
		switch r := v.Record; {
		case record.Check(r) != api.OK:
			return record.Check(r)
		case wantSame(l[:i+1], r.Cats) > 20:
			return api.ErrLarge
		case v.Gone && len(r.Fields)+len(r.Refs) > 0:
			return api.ErrForm
		case v.Gone && !wantLives(l[:i], r.Id, r.Cats):
			return api.ErrForm
		}
	}
	return api.OK
}

func wantPut(l []api.Version, r api.Record) ([]api.Version, api.Errno) {
	switch {
	case wantCheck(l) != api.OK:
		return nil, wantCheck(l)
	case record.Check(r) != api.OK:
		return nil, record.Check(r)
	case wantSame(l, r.Cats) == 20:
		return nil, api.ErrLarge
	}
	return append(slices.Clone(l), api.Version{Record: r}), api.OK
}

func wantCut(l []api.Version, id string, cats int) ([]api.Version, api.Errno) {
	switch {
	case wantCheck(l) != api.OK:
		return nil, wantCheck(l)
	case !record.Id(id):
		return nil, api.ErrForm
	case cats < 0 || cats > 255:
		return nil, api.ErrArg
	case !wantLives(l, id, cats):
		return nil, api.ErrNone
	case wantSame(l, cats) == 20:
		return nil, api.ErrLarge
	}
	return append(slices.Clone(l), gone(id, cats)), api.OK
}

func wantPart(l []api.Version, cats int) ([]api.Version, api.Errno) {
	switch {
	case wantCheck(l) != api.OK:
		return nil, wantCheck(l)
	case cats < 0 || cats > 255:
		return nil, api.ErrArg
	}
	var part []api.Version
	for _, v := range l {
		if isAmong(v.Record.Cats, cats) {
			part = append(part, v)
		}
	}
	return part, api.OK
}

// isAmong goes kind by kind.
func isAmong(a, b int) bool {
	for ; a > 0; a, b = a/2, b/2 {
		if a%2 > b%2 {
			return false
		}
	}
	return true
}

// wantGet asks of each choice of kinds where its last version is.
func wantGet(l []api.Version, id string) (api.Record, api.Errno) {
	if e := wantCheck(l); e != api.OK {
		return api.Record{}, e
	}
	last := map[int]int{}
	for i, v := range l {
		if v.Record.Id == id {
			last[v.Record.Cats] = i
		}
	}
	best := -1
	for _, i := range last {
		if !l[i].Gone {
			best = max(best, i)
		}
	}
	if best < 0 {
		return api.Record{}, api.ErrNone
	}
	return l[best].Record, api.OK
}

func wantHist(l []api.Version, id string) ([]api.Version, api.Errno) {
	if e := wantCheck(l); e != api.OK {
		return nil, e
	}
	var hist []api.Version
	for _, v := range l {
		if v.Record.Id == id {
			hist = append(hist, v)
		}
	}
	if hist == nil {
		return nil, api.ErrNone
	}
	return hist, api.OK
}

func wantIds(l []api.Version) ([]string, api.Errno) {
	if e := wantCheck(l); e != api.OK {
		return nil, e
	}
	names := map[string]bool{}
	for _, v := range l {
		if _, e := wantGet(l, v.Record.Id); e == api.OK {
			names[v.Record.Id] = true
		}
	}
	var ids []string
	for id := range names {
		ids = append(ids, id)
	}
	slices.Sort(ids)
	return ids, api.OK
}

// compareAll holds all that is asked of l against the model.
func compareAll(t *testing.T, l []api.Version, ids []string, cats []int) {
	t.Helper()
	if got, want := store.Check(l), wantCheck(l); got != want {
		t.Fatalf("Check(%v) = %v, want %v", l, got, want)
	}
	got, e := store.Ids(l)
	if want, f := wantIds(l); !slices.Equal(got, want) || e != f {
		t.Fatalf("Ids(%v) = %v, %v, want %v, %v", l, got, e, want, f)
	}
	for _, id := range ids {
		got, e := store.Get(l, id)
		if want, f := wantGet(l, id); !isSameRecord(got, want) || e != f {
			t.Fatalf("Get(%v, %q) = %v, %v, want %v, %v", l, id, got, e, want, f)
		}
		hist, e := store.Hist(l, id)
		if want, f := wantHist(l, id); !isSame(hist, want) || e != f {
			t.Fatalf("Hist(%v, %q) = %v, %v, want %v, %v", l, id, hist, e, want, f)
		}
		for _, n := range cats {
			compareChanges(t, l, id, n)
		}
	}
	for _, n := range cats {
		got, e := store.Part(l, n)
		if want, f := wantPart(l, n); !isSame(got, want) || e != f {
			t.Fatalf("Part(%v, %d) = %v, %v, want %v, %v", l, n, got, e, want, f)
		}
	}
}

func compareChanges(t *testing.T, l []api.Version, id string, cats int) {
	t.Helper()
	r := api.Record{Id: id, Cats: cats, Fields: []api.Field{{Key: "k", Value: "new"}}, Refs: []string{"x"}}
	got, e := store.Put(l, r)
	if want, f := wantPut(l, r); !isSame(got, want) || e != f {
		t.Fatalf("Put(%v, %v) = %v, %v, want %v, %v", l, r, got, e, want, f)
	}
	got, e = store.Cut(l, id, cats)
	if want, f := wantCut(l, id, cats); !isSame(got, want) || e != f {
		t.Fatalf("Cut(%v, %q, %d) = %v, %v, want %v, %v", l, id, cats, got, e, want, f)
	}
}

func isSame(a, b []api.Version) bool {
	return slices.EqualFunc(a, b, func(v, w api.Version) bool {
		return v.Gone == w.Gone && isSameRecord(v.Record, w.Record)
	})
}

func isSameRecord(a, b api.Record) bool {
	return a.Id == b.Id && a.Cats == b.Cats && slices.Equal(a.Fields, b.Fields) && slices.Equal(a.Refs, b.Refs)
}

func isZero(r api.Record) bool {
	return isSameRecord(r, api.Record{})
}

// put answers a version whose field k has this value.
func put(id string, cats int, value string) api.Version {
	return api.Version{Record: api.Record{Id: id, Cats: cats, Fields: []api.Field{{Key: "k", Value: value}}}}
}

func gone(id string, cats int) api.Version {
	return api.Version{Record: api.Record{Id: id, Cats: cats}, Gone: true}
}

// some answers n versions with just these kinds, of names of which no two are the same.
func some(n, cats int) []api.Version {
	var l []api.Version
	for i := range n {
		l = append(l, put("n"+string([]byte{'a' + byte(i/26), 'a' + byte(i%26)}), cats, "v"))
	}
	return l
}

// whole answers a store that has room for no version more.
func whole() []api.Version {
	var l []api.Version
	for cats := range 256 {
		l = append(l, some(20, cats)...)
	}
	return l
}

// badNames are no names, each for another reason.
func badNames() []string {
	return []string{"", "A", "a b", " a", "a-b", "a,b", "a;b", "a=b", "a\n", "a\x00", "é", "a\xff", "123456789", strings.Repeat("a", 300)}
}
