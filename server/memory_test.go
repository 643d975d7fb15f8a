package server_test

import (
	"reflect"
	"slices"
	"strings"
	"testing"

	"withy/api"
	"withy/server"
	"withy/storetest"
)

// P2: roles are neither changed nor kept.
func TestRolesAreNotKept(t *testing.T) {
	room := []int{0, 1, 2, 0, 99, 98}
	up := room[:4]
	s, _ := server.New(up)
	check(t, s, api.Op{Kind: api.DoRules, Rules: rules()}, api.Told{})
	add(t, s, "a;3;;")
	check(t, s, get(mid, "a"), versions("a;3;;"))
	if !slices.Equal(room, []int{0, 1, 2, 0, 99, 98}) {
		t.Error("the list is", room)
	}
	clear(room)
	check(t, s, get(mid, "a"), versions("a;3;;"))
	check(t, s, get(high, "a"), versions("a;3;;"))
}

// P2: rules are neither changed nor kept, and those that are answered are new.
func TestRulesAreNotKept(t *testing.T) {
	s := newServer(t)
	room := append(rules(), api.Rule{Role: 7}, api.Rule{Role: 6})
	before := slices.Clone(room)
	check(t, s, api.Op{Kind: api.DoRules, Rules: room[:4]}, api.Told{})
	check(t, s, put(low, "a;1;;"), api.Told{})
	if !slices.Equal(room, before) {
		t.Error("the list is", room)
	}
	clear(room)
	got, again := s.Rules(), s.Rules()
	clear(got[:cap(got)])
	for _, l := range [][]api.Rule{again, s.Rules()} {
		if !slices.Equal(l, rules()) {
			t.Error("Rules", l)
		}
	}
	check(t, s, get(low, "a"), versions("a;1;;"))
}

// P2: what Rules answered is not changed by rules that come.
func TestRulesOfBefore(t *testing.T) {
	s := newServer(t)
	got := s.Rules()
	check(t, s, api.Op{Kind: api.DoRules, Rules: make([]api.Rule, 0, 9)}, api.Told{})
	check(t, s, api.Op{Kind: api.DoRules, Rules: rules()[2:]}, api.Told{})
	if !slices.Equal(got, rules()) {
		t.Error("an answer has become", got)
	}
}

// P2: a record is neither changed nor kept, whether it is put or not.
func TestRecordsAreNotKept(t *testing.T) {
	l := storetest.Roomy(storetest.Of("a;1;k=1,m=2;b,c", "b;3;k=3;a", "c;0;;"))
	before := storetest.Room(l)
	s := newServer(t)
	for _, v := range l {
		check(t, s, change(high, v), api.Told{})
		checkRefused(t, s, change(api.Who{Role: 8}, v), api.ErrArg)
	}
	check(t, s, api.Op{Kind: api.DoCut, Who: high, Id: "c", Record: l[2].Record}, api.Told{})
	if !reflect.DeepEqual(storetest.Room(l), before) {
		t.Error("the list is", storetest.Room(l), "was", before)
	}
	storetest.Wipe(l)
	checkVersions(t, s, "a;1;k=1,m=2;b,c", "b;3;k=3;a", "c;0;;", "-c;0")
}

// wipe writes over all lists in x, and over the room behind them.
func wipe(x api.Told) {
	storetest.Wipe(x.Versions)
	storetest.WipeTexts(x.Ids)
	notes := x.Notes[:cap(x.Notes)]
	for i := range notes {
		notes[i] = api.Note{Id: "wiped"}
	}
}

// P2: what is told is new memory each time, and is not changed by what comes.
func TestAnswersAreNewMemory(t *testing.T) {
	texts := []string{"a;1;k=1,m=2;b,c", "a;3;k=1;a", "b;1;k=1;", "-b;1", "c;0;k=1;", "a;3;k=1,z=1;a,b"}
	asks := []api.Op{get(low, "a"), get(high, "a"), hist(mid, "a"), hist(high, "b"), seek(high, "k", "1"), seek(low, "k", "1"), need(low, "a"), audit(high)}
	for _, o := range asks {
		s := newServer(t, texts...)
		check(t, s, need(low, "c"), versions("c;0;k=1;"))
		check(t, s, need(mid, "a"), versions(texts[5]))
		before := text(s.Do(o))
		first := s.Do(o)
		want := text(first)
		if o.Kind != api.DoBreak && want != before {
			t.Errorf("Do(%v) = %v, was %v", o, want, before)
		}
		wipe(s.Do(o))
		if text(first) != want || text(s.Do(o)) != want {
			t.Errorf("Do(%v) = %v, %v, want %v", o, text(first), text(s.Do(o)), want)
		}
		add(t, s, "-a;3", "a;7;k=9;", "c;0;;")
		check(t, s, need(high, "a"), versions("a;7;k=9;"))
		if text(first) != want {
			t.Errorf("of Do(%v) an answer has become %v, was %v", o, text(first), want)
		}
		checkVersions(t, s, append(texts, "-a;3", "a;7;k=9;", "c;0;;")...)
	}
}

// P2, P43: a copy of all versions, spare room included.
func TestVersionsAreNewMemory(t *testing.T) {
	texts := []string{"a;1;k=1,m=2;b,c", "b;1;k=1;", "-b;1"}
	s := newServer(t, texts...)
	first := s.Versions()
	storetest.Wipe(s.Versions())
	add(t, s, "c;0;;")
	if !slices.Equal(storetest.Texts(first), texts) {
		t.Error("an answer has become", first)
	}
	checkVersions(t, s, append(texts, "c;0;;")...)
}

// P2: no two lists of an answer share memory, not even where those handed in do.
func TestListsOfAnAnswerAreApart(t *testing.T) {
	s := newServer(t)
	r := storetest.Of("a;1;k=1,m=2;b,c")[0].Record
	for range 3 {
		check(t, s, api.Op{Kind: api.DoPut, Who: high, Record: r}, api.Told{})
	}
	for _, l := range [][]api.Version{s.Versions(), s.Do(hist(high, "a")).Versions} {
		for i := range l {
			storetest.Wipe(l[i : i+1 : i+1])
			for _, v := range l[i+1:] {
				if !reflect.DeepEqual(v.Record, r) {
					t.Error("behind", i, "there is", v)
				}
			}
		}
	}
}

// P2: what one server is told another one does not know.
func TestServersAreApart(t *testing.T) {
	s, other := newServer(t, "a;1;;"), newServer(t)
	check(t, s, need(low, "a"), versions("a;1;;"))
	check(t, other, api.Op{Kind: api.DoRules, Rules: rules()[:3]}, api.Told{})
	checkRefused(t, other, get(high, "a"), api.ErrNone)
	check(t, other, audit(high), api.Told{})
	if !slices.Equal(s.Rules(), rules()) || !slices.Equal(other.Rules(), rules()[:3]) {
		t.Error(s.Rules(), other.Rules())
	}
}

// P1: a server that no New made answers nobody, as one without roles does.
func TestZeroServer(t *testing.T) {
	var s server.Server
	for _, o := range []api.Op{put(low, "a;0;;"), cut(low, "a", 0), get(low, "a"), hist(low, "a"), seek(low, "k", "v"), need(low, "a"), audit(low)} {
		checkRefused(t, &s, o, api.ErrNone)
		o.Who.Role = -1
		checkRefused(t, &s, o, api.ErrArg)
	}
	checkRefused(t, &s, api.Op{}, api.ErrForm)
	check(t, &s, api.Op{Kind: api.DoRules, Rules: rules()}, api.Told{})
	if !slices.Equal(s.Rules(), rules()) || len(s.Versions()) > 0 {
		t.Error(s.Rules(), s.Versions())
	}
}

// P1: whatever is handed in, it goes on.
func TestLargeThings(t *testing.T) {
	s := newServer(t, "a;1;;")
	long := strings.Repeat("a", 1<<22)
	checkRefused(t, s, api.Op{Kind: api.DoRules, Rules: make([]api.Rule, 1<<20)}, api.ErrLarge)
	r := api.Record{Id: "a", Fields: make([]api.Field, 1<<20), Refs: make([]string, 1<<20)}
	checkRefused(t, s, api.Op{Kind: api.DoPut, Who: high, Record: r}, api.ErrLarge)
	checkRefused(t, s, api.Op{Kind: api.DoPut, Who: high, Record: api.Record{Id: long}}, api.ErrForm)
	checkRefused(t, s, cut(high, long, 1), api.ErrForm)
	checkRefused(t, s, get(high, long), api.ErrNone)
	checkRefused(t, s, hist(high, long), api.ErrNone)
	checkRefused(t, s, need(high, long), api.ErrNone)
	checkRefused(t, s, seek(high, long, long), api.ErrForm)
	check(t, s, get(low, "a"), versions("a;1;;"))
}
