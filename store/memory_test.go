package store_test

import (
	"slices"
	"testing"

	"withy/api"
	"withy/store"
)

// roomy answers a store whose lists all have room behind them, and that list with its room.
func roomy() (l, room []api.Version) {
	fields := []api.Field{{Key: "a", Value: "1"}, {Key: "b", Value: "2"}, {Key: "room", Value: "room"}}
	for _, v := range []api.Version{put("a", 1, ""), put("b", 2, ""), put("a", 3, ""), gone("b", 2), put("a", 1, ""), put("c", 0, ""), put("room", 0, "")} {
		if !v.Gone {
			v.Record.Fields, v.Record.Refs = slices.Clone(fields)[:2], []string{"x", "y", "room"}[:2]
		}
		room = append(room, v)
	}
	room[5].Record.Fields, room[5].Record.Refs = room[5].Record.Fields[:0], room[5].Record.Refs[:0]
	return room[:6], room
}

// deep answers a copy of l, with what stands in the room behind the lists of its records.
func deep(l []api.Version) []api.Version {
	var all []api.Version
	for _, v := range l {
		r := &v.Record
		r.Fields, r.Refs = slices.Clone(r.Fields[:cap(r.Fields)]), slices.Clone(r.Refs[:cap(r.Refs)])
		all = append(all, v)
	}
	return all
}

// wipe writes over l, and over all lists in it, the room behind them included.
func wipe(l []api.Version) {
	l = l[:cap(l)]
	for i := range l {
		wipeRecord(l[i].Record)
		l[i] = put("wiped", 9, "wiped")
	}
}

func wipeRecord(r api.Record) {
	fields, refs := r.Fields[:cap(r.Fields)], r.Refs[:cap(r.Refs)]
	for i := range fields {
		fields[i] = api.Field{Key: "wiped", Value: "wiped"}
	}
	for i := range refs {
		refs[i] = "wiped"
	}
}

// asks are all calls that answer records, each of l.
func asks(r api.Record) []func(l []api.Version) []api.Version {
	return []func(l []api.Version) []api.Version{
		func(l []api.Version) []api.Version { m, _ := store.Put(l, r); return m },
		func(l []api.Version) []api.Version { m, _ := store.Cut(l, "a", 3); return m },
		func(l []api.Version) []api.Version { m, _ := store.Part(l, 255); return m },
		func(l []api.Version) []api.Version { m, _ := store.Part(l, 1); return m },
		func(l []api.Version) []api.Version { m, _ := store.Hist(l, "a"); return m },
		func(l []api.Version) []api.Version { r, _ := store.Get(l, "a"); return []api.Version{{Record: r}} },
		func(l []api.Version) []api.Version { r, _ := store.Get(l, "c"); return []api.Version{{Record: r}} },
	}
}

// P2: neither a list nor the room behind it is changed, with an error or without.
func TestListsStay(t *testing.T) {
	l, room := roomy()
	more, moreRoom := roomy()
	before := deep(room)
	for n := range len(l) + 1 {
		store.Check(l[:n])
		store.Ids(l[:n])
		for _, r := range []api.Record{more[0].Record, {Id: "A"}} {
			for _, ask := range asks(r) {
				ask(l[:n])
			}
		}
		store.Cut(l[:n], "none", 256)
		store.Part(l[:n], 256)
		store.Hist(l[:n], "none")
	}
	if !isSame(deep(room), before) || !isSame(deep(moreRoom), before) {
		t.Errorf("the lists are %v, %v, were %v", deep(room), deep(moreRoom), before)
	}
}

// P2: what is answered shares no memory with what was handed in, spare room
// included: neither sees what becomes of the other.
func TestAnswersAreNewMemory(t *testing.T) {
	for i := range asks(api.Record{}) {
		l, room := roomy()
		more, moreRoom := roomy()
		ask := asks(more[0].Record)[i]
		before := deep(room)
		wipe(ask(l))
		if !isSame(deep(room), before) || !isSame(deep(moreRoom), before) {
			t.Errorf("%d: the lists are %v, %v, were %v", i, deep(room), deep(moreRoom), before)
		}
		got := ask(l)
		want := deep(got)
		wipe(room)
		wipe(moreRoom)
		if len(got) == 0 || !isSame(deep(got), want) {
			t.Errorf("%d: the answer is %v, was %v", i, got, want)
		}
	}
}

// P2: no two lists of an answer share memory, not even where those handed in do.
func TestListsOfAnAnswerAreApart(t *testing.T) {
	shared := withRefs(put("a", 3, "v"), "x", "y")
	for i, ask := range asks(shared.Record) {
		got := ask([]api.Version{shared, shared, shared})
		want := deep(got)
		for k := range got {
			wipeRecord(got[k].Record)
			if k+1 < len(got) && !isSame(deep(got[k+1:]), want[k+1:]) {
				t.Errorf("%d: the lists behind %d are %v, were %v", i, k, got[k+1:], want[k+1:])
			}
		}
	}
}

// P2: the names are new each time.
func TestIdsAreNewMemory(t *testing.T) {
	l, _ := roomy()
	ids, _ := store.Ids(l)
	ids = ids[:cap(ids)]
	for i := range ids {
		ids[i] = "wiped"
	}
	if ids, e := store.Ids(l); !slices.Equal(ids, []string{"a", "c"}) || e != api.OK {
		t.Error(ids, e)
	}
}

// P2: what is answered hangs on the list as it is now.
func TestNothingIsKept(t *testing.T) {
	l := []api.Version{put("a", 1, "1"), put("b", 2, "2")}
	store.Check(l)
	store.Ids(l)
	store.Get(l, "a")
	l[0], l[1] = put("c", 1, "3"), gone("c", 1)
	compareAll(t, l, []string{"a", "b", "c"}, []int{0, 1, 2, 3})
	l[1] = gone("a", 1)
	compareAll(t, l, []string{"a", "b", "c"}, []int{0, 1, 2, 3})
	if e := store.Check(l); e != api.ErrForm {
		t.Error(e)
	}
}
