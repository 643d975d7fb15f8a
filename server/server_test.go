package server_test

import (
	"fmt"
	"math"
	"slices"
	"strconv"
	"testing"

	"withy/api"
	"withy/role"
	"withy/rule"
	"withy/server"
	"withy/storetest"
)

// Of most tests: low sees kind 0, mid kinds 0 and 1, high all, and none nothing.
var (
	low  = api.Who{Role: 0, Why: 0, Time: 0}
	mid  = api.Who{Role: 1, Why: 2, Time: 500}
	high = api.Who{Role: 2, Why: 3, Time: 999}
	none = api.Who{Role: 3, Why: 1, Time: 150}
)

func roles() []int { return []int{0, 1, 2, 0} }

func rules() []api.Rule {
	return []api.Rule{
		{Role: 0, Why: -1, To: 1000, Cats: 1, Allow: true},
		{Role: 1, Why: -1, To: 1000, Cats: 2, Allow: true},
		{Role: 2, Why: -1, To: 1000, Cats: 252, Allow: true},
		{Role: -1, Why: 1, From: 100, To: 200, Cats: 2},
	}
}

// badWhos are refused by rule.Sees, with roles and rules.
func badWhos() map[api.Who]api.Errno {
	return map[api.Who]api.Errno{
		{Role: -1}:                    api.ErrArg,
		{Role: 8}:                     api.ErrArg,
		{Role: math.MaxInt}:           api.ErrArg,
		{Why: -1}:                     api.ErrArg,
		{Why: 4}:                      api.ErrArg,
		{Time: -1}:                    api.ErrArg,
		{Time: 1000}:                  api.ErrArg,
		{Role: 4, Time: math.MinInt}:  api.ErrArg,
		{Role: 4}:                     api.ErrNone,
		{Role: 7, Why: 3, Time: 999}:  api.ErrNone,
		{Role: -1, Why: -1, Time: -1}: api.ErrArg,
	}
}

// text is all that x tells; no list and an empty one are the same.
func text(x api.Told) string {
	return fmt.Sprintf("%d %q %q %v", x.Code, storetest.Texts(x.Versions), x.Ids, x.Notes)
}

func versions(texts ...string) api.Told { return api.Told{Versions: storetest.Of(texts...)} }

// state is all that s has.
func state(s *server.Server) string {
	return fmt.Sprint(s.Rules(), storetest.Texts(s.Versions()), text(s.Do(api.Op{Kind: api.DoAudit, Who: high})))
}

func check(t *testing.T, s *server.Server, o api.Op, want api.Told) {
	t.Helper()
	if got := s.Do(o); text(got) != text(want) {
		t.Fatalf("Do(%v) = %v, want %v", o, text(got), text(want))
	}
}

// checkRefused looks, too, whether s has changed.
func checkRefused(t *testing.T, s *server.Server, o api.Op, want api.Errno) {
	t.Helper()
	before := state(s)
	check(t, s, o, api.Told{Code: want})
	if after := state(s); after != before {
		t.Fatalf("with Do(%v) it has become %v, was %v", o, after, before)
	}
}

func checkVersions(t *testing.T, s *server.Server, texts ...string) {
	t.Helper()
	if got := storetest.Texts(s.Versions()); !slices.Equal(got, texts) {
		t.Fatalf("Versions %v, want %v", got, texts)
	}
}

// newServer answers a server with roles and rules, and these versions.
func newServer(t *testing.T, texts ...string) *server.Server {
	t.Helper()
	s, e := server.New(roles())
	if s == nil || e != api.OK {
		t.Fatal(s, e)
	}
	check(t, s, api.Op{Kind: api.DoRules, Rules: rules()}, api.Told{})
	add(t, s, texts...)
	return s
}

// add has high put and cut what makes these versions.
func add(t *testing.T, s *server.Server, texts ...string) {
	t.Helper()
	for _, v := range storetest.Of(texts...) {
		check(t, s, change(high, v), api.Told{})
	}
}

func change(w api.Who, v api.Version) api.Op {
	if v.Gone {
		return api.Op{Kind: api.DoCut, Who: w, Id: v.Record.Id, Record: api.Record{Cats: v.Record.Cats}}
	}
	return api.Op{Kind: api.DoPut, Who: w, Record: v.Record}
}

func put(w api.Who, s string) api.Op { return change(w, storetest.Of(s)[0]) }
func cut(w api.Who, id string, cats int) api.Op {
	return api.Op{Kind: api.DoCut, Who: w, Id: id, Record: api.Record{Cats: cats}}
}
func get(w api.Who, id string) api.Op  { return api.Op{Kind: api.DoGet, Who: w, Id: id} }
func hist(w api.Who, id string) api.Op { return api.Op{Kind: api.DoHist, Who: w, Id: id} }
func need(w api.Who, id string) api.Op { return api.Op{Kind: api.DoBreak, Who: w, Id: id} }
func audit(w api.Who) api.Op           { return api.Op{Kind: api.DoAudit, Who: w} }
func seek(w api.Who, key, value string) api.Op {
	return api.Op{Kind: api.DoFind, Who: w, Field: api.Field{Key: key, Value: value}}
}

// all20 are the texts of 20 records with just these kinds.
func all20(cats int) []string {
	var texts []string
	for i := range 20 {
		texts = append(texts, fmt.Sprintf("n%d;%d;;", i, cats))
	}
	return texts
}

// P35: it has these roles, and nothing else.
func TestNew(t *testing.T) {
	for _, up := range [][]int{nil, {}, {0}, {0, 1}, {0, 1, 2, 0}, {0, 0, 0, 0, 0, 0, 0, 127}} {
		s, e := server.New(up)
		if s == nil || e != api.OK {
			t.Fatalf("New(%v) = %v, %v", up, s, e)
		}
		if len(s.Rules()) > 0 || len(s.Versions()) > 0 {
			t.Errorf("New(%v) has %v, %v", up, s.Rules(), s.Versions())
		}
		for i := range api.MaxRoles {
			want := api.ErrNone
			if i < len(up) {
				want = api.ErrDeny // without rules nobody sees all kinds
			}
			checkRefused(t, s, audit(api.Who{Role: i}), want)
			checkRefused(t, s, get(api.Who{Role: i}, "a"), api.ErrNone)
			checkRefused(t, s, need(api.Who{Role: i}, "a"), api.ErrNone)
		}
		check(t, s, api.Op{Kind: api.DoRules, Rules: []api.Rule{{Role: -1, Why: -1, To: 1000, Cats: 255, Allow: true}}}, api.Told{})
		if len(up) > 0 {
			check(t, s, audit(api.Who{}), api.Told{})
		}
	}
}

// P35: what comes with a role comes with it for whom the server tells.
func TestNewUsesAllRoles(t *testing.T) {
	s, _ := server.New([]int{0, 1, 2, 0})
	check(t, s, api.Op{Kind: api.DoRules, Rules: []api.Rule{{Role: 1, Why: -1, To: 1000, Cats: 1, Allow: true}}}, api.Told{})
	for i, want := range []api.Errno{api.ErrDeny, api.OK, api.OK, api.ErrDeny} {
		check(t, s, put(api.Who{Role: i}, "a;1;;"), api.Told{Code: want})
	}
}

// P35, P2: what are no roles make no server.
func TestNewRefuses(t *testing.T) {
	for _, up := range [][]int{make([]int, 9), {1}, {-1}, {0, 2}, {0, 1, 4}, {0, -1}, {0, 0, 0, 0, 0, 0, 0, 128}, {-1, 0, 0, 0, 0, 0, 0, 0, 0}, make([]int, 1<<20)} {
		want := role.Check(up)
		if s, e := server.New(up); want == api.OK || s != nil || e != want {
			t.Errorf("New(%v) = %v, %v, want %v", up, s, e, want)
		}
	}
}

// P36: no other kinds, whatever else is asked.
func TestNoSuchKind(t *testing.T) {
	s := newServer(t, "a;1;;")
	check(t, s, need(low, "a"), versions("a;1;;"))
	for _, kind := range []int{0, -1, 9, 10, 255, 256 + api.DoPut, 1<<32 + api.DoRules, math.MinInt, math.MaxInt} {
		for _, w := range []api.Who{high, {Role: -1}} {
			o := api.Op{Kind: kind, Who: w, Id: "a", Record: api.Record{Id: "b"}, Field: api.Field{Key: "k"}}
			checkRefused(t, s, o, api.ErrForm)
			o.Rules = make([]api.Rule, 21)
			checkRefused(t, s, o, api.ErrForm)
		}
	}
}

// P36: what a kind does not name may be anything.
func TestWhatIsNotNamed(t *testing.T) {
	badRules, badField := make([]api.Rule, 21), api.Field{Key: "K", Value: ";"}
	badRecord := api.Record{Id: "A", Cats: 256, Fields: make([]api.Field, 7), Refs: make([]string, 5)}
	others := api.Op{Who: api.Who{Role: -1, Why: 9, Time: 1000}, Rules: badRules, Record: badRecord, Id: "A", Field: badField}
	with := func(kind int, set func(o *api.Op)) api.Op {
		o := others
		o.Kind = kind
		set(&o)
		return o
	}
	s := newServer(t, "a;1;k=v;")
	check(t, s, with(api.DoRules, func(o *api.Op) { o.Rules = rules() }), api.Told{})
	check(t, s, with(api.DoPut, func(o *api.Op) { o.Who, o.Record = mid, api.Record{Id: "b", Cats: 3} }), api.Told{})
	check(t, s, with(api.DoGet, func(o *api.Op) { o.Who, o.Id = mid, "a" }), versions("a;1;k=v;"))
	check(t, s, with(api.DoHist, func(o *api.Op) { o.Who, o.Id = mid, "a" }), versions("a;1;k=v;"))
	check(t, s, with(api.DoFind, func(o *api.Op) { o.Who, o.Field = mid, api.Field{Key: "k", Value: "v"} }), api.Told{Ids: []string{"a"}})
	check(t, s, with(api.DoBreak, func(o *api.Op) { o.Who, o.Id = none, "a" }), versions("a;1;k=v;"))
	check(t, s, with(api.DoAudit, func(o *api.Op) { o.Who = high }), api.Told{Notes: []api.Note{{Who: none, Id: "a"}}})
	check(t, s, with(api.DoCut, func(o *api.Op) { o.Who, o.Id, o.Record.Cats = mid, "b", 3 }), api.Told{})
	checkVersions(t, s, "a;1;k=v;", "b;3;;", "-b;3")
}

// P36: Rules are its rules from now on, instead of those ahead, whoever asks.
func TestRules(t *testing.T) {
	s := newServer(t, "a;1;;", "a;3;;")
	if !slices.Equal(s.Rules(), rules()) {
		t.Error(s.Rules())
	}
	many := slices.Repeat([]api.Rule{{Role: 3, Why: 1, From: 150, To: 151, Cats: 2, Allow: true}, {Role: 0, Why: -1, To: 1, Cats: 255, Allow: true}}, 10)
	for _, l := range [][]api.Rule{many, rules(), many[:1], {}, many[1:3], nil, rules()} {
		check(t, s, api.Op{Kind: api.DoRules, Rules: l, Who: api.Who{Role: -1}}, api.Told{})
		if !slices.Equal(s.Rules(), l) {
			t.Errorf("Rules %v, want %v", s.Rules(), l)
		}
		for _, w := range []api.Who{low, mid, high, none} {
			sees, _ := rule.Sees(roles(), l, w)
			want := []string{"", "a;1;;", "", "a;3;;"}[sees&3]
			if want == "" {
				checkRefused(t, s, get(w, "a"), api.ErrNone)
			} else {
				check(t, s, get(w, "a"), versions(want))
			}
		}
	}
	checkVersions(t, s, "a;1;;", "a;3;;")
}

// P36: what are no rules changes none.
func TestRulesRefuses(t *testing.T) {
	s := newServer(t)
	good := api.Rule{Role: -1, Why: -1, To: 1000, Cats: 255, Allow: true}
	for _, x := range []struct {
		l    []api.Rule
		want api.Errno
	}{
		{slices.Repeat([]api.Rule{good}, 21), api.ErrLarge},
		{make([]api.Rule, 21), api.ErrLarge},
		{[]api.Rule{good, {Role: 8, To: 1}}, api.ErrArg},
		{[]api.Rule{good, {To: 1, Cats: 256}}, api.ErrArg},
		{[]api.Rule{good, {}, {Role: 8}}, api.ErrForm},
		{[]api.Rule{{Role: 8}, {}}, api.ErrArg},
		{append(slices.Repeat([]api.Rule{good}, 19), api.Rule{From: 5, To: 5}), api.ErrForm},
	} {
		checkRefused(t, s, api.Op{Kind: api.DoRules, Rules: x.l}, x.want)
	}
	if !slices.Equal(s.Rules(), rules()) {
		t.Error(s.Rules())
	}
}

// P37: behind all others, by who may see all its kinds.
func TestPut(t *testing.T) {
	s := newServer(t)
	texts := []string{"b;0;;", "b;1;k=v,m=;a,c", "a;1;k=w;", "b;1;;", "12345678;0;a=1,b=2,c=3,d=4,e=5,f=123456789012;a,b,c,d"}
	for _, text := range texts {
		check(t, s, put(low, text), api.Told{})
	}
	check(t, s, put(none, "c;0;;"), api.Told{})
	check(t, s, put(mid, "b;2;;"), api.Told{})
	check(t, s, put(mid, "b;3;;"), api.Told{})
	check(t, s, put(high, "b;255;;"), api.Told{})
	checkVersions(t, s, append(texts, "c;0;;", "b;2;;", "b;3;;", "b;255;;")...)
}

// P37: with kinds that who asks may not see, all or some, nothing is put,
// whether there is such a record or not.
func TestPutDenies(t *testing.T) {
	s := newServer(t, "a;2;;", "a;3;;", "a;4;;", "a;252;;", "-a;252")
	for cats := range 256 {
		for _, x := range []struct {
			w    api.Who
			sees int
		}{{none, 0}, {low, 1}, {mid, 3}, {api.Who{Role: 1, Why: 1, Time: 150}, 1}, {api.Who{Role: 2, Why: 1, Time: 199}, 253}, {high, 255}} {
			o := put(x.w, fmt.Sprintf("a;%d;;", cats))
			if cats|x.sees != x.sees {
				checkRefused(t, s, o, api.ErrDeny)
			} else if cats > 3 {
				check(t, s, o, api.Told{})
			}
		}
	}
}

// P37: what is no record is refused ahead of who asks, whoever that is.
func TestPutRefusesRecords(t *testing.T) {
	s := newServer(t, "a;1;;")
	for _, x := range []struct {
		r    api.Record
		want api.Errno
	}{
		{api.Record{}, api.ErrForm},
		{api.Record{Id: "A", Cats: 256}, api.ErrForm},
		{api.Record{Id: "a", Cats: 256}, api.ErrArg},
		{api.Record{Id: "a", Cats: -1, Refs: make([]string, 5)}, api.ErrArg},
		{api.Record{Id: "a", Cats: 255, Refs: make([]string, 5)}, api.ErrLarge},
		{api.Record{Id: "a", Fields: make([]api.Field, 7)}, api.ErrLarge},
		{api.Record{Id: "a", Refs: []string{"b", "a"}}, api.ErrForm},
		{api.Record{Id: "a", Cats: 2, Fields: []api.Field{{Key: "k", Value: ";"}}}, api.ErrForm},
	} {
		for _, w := range []api.Who{none, low, high, {Role: 8}, {Role: 4}} {
			checkRefused(t, s, api.Op{Kind: api.DoPut, Who: w, Record: x.r}, x.want)
		}
	}
}

// P37: who may not ask, ahead of all that is told of kinds.
func TestPutRefusesWho(t *testing.T) {
	s := newServer(t, append(all20(0), "a;1;;")...)
	for w, want := range badWhos() {
		for _, text := range []string{"a;0;;", "a;1;;", "a;255;;", "b;1;;"} {
			checkRefused(t, s, put(w, text), want)
		}
	}
}

// P37: where there are 20 with just these kinds there is no room; who may not
// see them is not told of it, and nobody else is kept from others.
func TestPutWithoutRoom(t *testing.T) {
	s := newServer(t, append(all20(2), all20(1)[:19]...)...)
	checkRefused(t, s, put(low, "a;2;;"), api.ErrDeny)
	checkRefused(t, s, put(low, "a;3;;"), api.ErrDeny)
	checkRefused(t, s, put(mid, "a;2;;"), api.ErrLarge)
	checkRefused(t, s, put(mid, "n0;2;;"), api.ErrLarge)
	check(t, s, put(low, "a;1;;"), api.Told{})
	checkRefused(t, s, put(low, "a;1;;"), api.ErrLarge)
	check(t, s, put(mid, "a;3;;"), api.Told{})
	check(t, s, put(low, "a;0;;"), api.Told{})
}

// P38: just that name, with just these kinds.
func TestCut(t *testing.T) {
	s := newServer(t, "a;0;;", "a;1;k=v;b", "a;2;;", "a;3;;", "b;1;;")
	check(t, s, cut(low, "a", 1), api.Told{})
	checkVersions(t, s, "a;0;;", "a;1;k=v;b", "a;2;;", "a;3;;", "b;1;;", "-a;1")
	check(t, s, cut(none, "a", 0), api.Told{})
	check(t, s, cut(mid, "a", 3), api.Told{})
	check(t, s, cut(high, "a", 2), api.Told{})
	checkVersions(t, s, "a;0;;", "a;1;k=v;b", "a;2;;", "a;3;;", "b;1;;", "-a;1", "-a;0", "-a;3", "-a;2")
	for cats := range 4 {
		checkRefused(t, s, cut(mid, "a", cats), api.ErrNone)
	}
	check(t, s, put(low, "a;1;k=w;"), api.Told{})
	check(t, s, cut(mid, "a", 1), api.Told{})
	check(t, s, cut(high, "b", 1), api.Told{})
}

// P38: the error that is told first, of each two.
func TestCutRefuses(t *testing.T) {
	texts := slices.Concat(all20(1), all20(2), []string{"a;4;;", "a;3;;", "b;3;;", "-b;3"})
	s := newServer(t, texts...)
	for _, x := range []struct {
		o    api.Op
		want api.Errno
	}{
		{cut(low, "n0", 256), api.ErrArg},
		{cut(low, "n0", -1), api.ErrArg},
		{cut(high, "N0", 256), api.ErrArg},
		{cut(none, "", math.MaxInt), api.ErrArg},
		{cut(low, "n0", 2), api.ErrDeny}, // there is one, and no room
		{cut(low, "x", 2), api.ErrDeny},  // there is none
		{cut(low, "A", 2), api.ErrDeny},  // there can be none
		{cut(low, "a", 3), api.ErrDeny},  // one kind is missing
		{cut(none, "n0", 1), api.ErrDeny},
		{cut(mid, "a", 4), api.ErrDeny},
		{cut(api.Who{Role: 1, Why: 1, Time: 100}, "a", 3), api.ErrDeny},
		{cut(low, "A", 1), api.ErrForm},
		{cut(low, "", 0), api.ErrForm},
		{cut(low, "123456789", 1), api.ErrForm},
		{cut(low, "x", 1), api.ErrNone}, // ahead of the room
		{cut(low, "a", 1), api.ErrNone},
		{cut(high, "b", 3), api.ErrNone},
		{cut(low, "n0", 0), api.ErrNone},
		{cut(low, "n0", 1), api.ErrLarge},
		{cut(mid, "n19", 2), api.ErrLarge},
	} {
		checkRefused(t, s, x.o, x.want)
	}
	for w, want := range badWhos() {
		for _, o := range []api.Op{cut(w, "n0", 1), cut(w, "a", 4), cut(w, "A", 0), cut(w, "a", 256), cut(w, "x", 255)} {
			checkRefused(t, s, o, want)
		}
	}
	checkVersions(t, s, texts...)
}

// P39: the eighth example of the document, and the way on from there.
func TestWhoMayNotSeeTheLastVersion(t *testing.T) {
	s := newServer(t, "a;1;k=1;", "a;3;k=2;", "a;7;k=3;")
	checkRefused(t, s, get(none, "a"), api.ErrNone)
	check(t, s, get(low, "a"), versions("a;1;k=1;"))
	check(t, s, get(mid, "a"), versions("a;3;k=2;"))
	check(t, s, get(high, "a"), versions("a;7;k=3;"))
	check(t, s, get(api.Who{Role: 1, Why: 1, Time: 150}, "a"), versions("a;1;k=1;"))
	add(t, s, "-a;3")
	check(t, s, get(low, "a"), versions("a;1;k=1;"))
	check(t, s, get(mid, "a"), versions("a;1;k=1;"))
	check(t, s, get(high, "a"), versions("a;7;k=3;"))
	add(t, s, "-a;1")
	checkRefused(t, s, get(low, "a"), api.ErrNone)
	checkRefused(t, s, get(mid, "a"), api.ErrNone)
	check(t, s, get(high, "a"), versions("a;7;k=3;"))
	add(t, s, "a;2;k=4;b")
	checkRefused(t, s, get(low, "a"), api.ErrNone)
	check(t, s, get(mid, "a"), versions("a;2;k=4;b"))
	check(t, s, get(high, "a"), versions("a;2;k=4;b"))
}

// P39: all versions of the part, Gone ones too.
func TestHist(t *testing.T) {
	s := newServer(t, "a;0;;", "b;1;;", "a;1;k=1;b", "a;3;k=2;", "-a;1", "a;2;;", "-a;3", "b;4;;")
	check(t, s, hist(none, "a"), versions("a;0;;"))
	check(t, s, hist(low, "a"), versions("a;0;;", "a;1;k=1;b", "-a;1"))
	check(t, s, hist(mid, "a"), versions("a;0;;", "a;1;k=1;b", "a;3;k=2;", "-a;1", "a;2;;", "-a;3"))
	check(t, s, hist(high, "a"), versions("a;0;;", "a;1;k=1;b", "a;3;k=2;", "-a;1", "a;2;;", "-a;3"))
	check(t, s, hist(api.Who{Role: 2, Why: 1, Time: 100}, "a"), versions("a;0;;", "a;1;k=1;b", "-a;1"))
	check(t, s, hist(mid, "b"), versions("b;1;;"))
	check(t, s, hist(high, "b"), versions("b;1;;", "b;4;;"))
	checkRefused(t, s, hist(none, "b"), api.ErrNone)
}

// P39: of what is not there, and of what one may not see, the same is told.
func TestGetAndHistRefuse(t *testing.T) {
	s := newServer(t, "a;1;;", "b;2;;", "c;7;;", "-c;7", "d;0;;", "-d;0")
	for _, id := range []string{"b", "c", "e", "", "A", "a ", "123456789", "\xff"} {
		checkRefused(t, s, get(low, id), api.ErrNone)
		checkRefused(t, s, hist(low, id), api.ErrNone)
	}
	checkRefused(t, s, get(high, "c"), api.ErrNone)
	checkRefused(t, s, get(none, "d"), api.ErrNone)
	for w, want := range badWhos() {
		for _, id := range []string{"a", "b", "d", "e", ""} {
			checkRefused(t, s, get(w, id), want)
			checkRefused(t, s, hist(w, id), want)
		}
	}
}

// P40: by what the part has.
func TestFind(t *testing.T) {
	s := newServer(t, "b;0;k=v;", "a;1;k=v;", "a;3;k=w;", "c;2;k=v;", "9;4;k=v,m=;", "10;4;k=v;", "d;1;k=v;", "-d;1", "e;1;k=v;", "e;2;k=v;", "-e;1")
	for _, x := range []struct {
		w          api.Who
		key, value string
		want       []string
	}{
		{none, "k", "v", []string{"b"}},
		{low, "k", "v", []string{"a", "b"}},
		{mid, "k", "v", []string{"b", "c", "e"}},
		{high, "k", "v", []string{"10", "9", "b", "c", "e"}},
		{low, "k", "w", nil},
		{mid, "k", "w", []string{"a"}},
		{api.Who{Role: 1, Why: 1, Time: 150}, "k", "w", nil},
		{mid, "m", "", nil},
		{high, "m", "", []string{"9"}},
		{high, "k", "", nil},
		{high, "none", "v", nil},
	} {
		check(t, s, seek(x.w, x.key, x.value), api.Told{Ids: x.want})
	}
}

// P40: who may not ask ahead of what is no field.
func TestFindRefuses(t *testing.T) {
	s := newServer(t, "a;1;k=v;")
	for _, f := range storetest.BadFields() {
		checkRefused(t, s, seek(high, f.Key, f.Value), api.ErrForm)
		checkRefused(t, s, seek(none, f.Key, f.Value), api.ErrForm)
		for w, want := range badWhos() {
			checkRefused(t, s, seek(w, f.Key, f.Value), want)
		}
	}
	for w, want := range badWhos() {
		checkRefused(t, s, seek(w, "k", "v"), want)
	}
}

// P41, P42: what is read in need is the last record, whoever may see it; and it
// is noted, each time, in order.
func TestBreak(t *testing.T) {
	s := newServer(t, "a;1;k=1;", "a;255;k=2;b", "b;2;;", "c;8;;", "c;4;;", "-c;4")
	before := storetest.Texts(s.Versions())
	other := api.Who{Role: 2, Why: 1, Time: 150}
	check(t, s, need(none, "a"), versions("a;255;k=2;b"))
	check(t, s, need(low, "b"), versions("b;2;;"))
	check(t, s, need(high, "c"), versions("c;8;;"))
	check(t, s, need(low, "b"), versions("b;2;;"))
	check(t, s, need(other, "a"), versions("a;255;k=2;b"))
	notes := []api.Note{{Who: none, Id: "a"}, {Who: low, Id: "b"}, {Who: high, Id: "c"}, {Who: low, Id: "b"}, {Who: other, Id: "a"}}
	check(t, s, audit(high), api.Told{Notes: notes})
	checkVersions(t, s, before...)
	check(t, s, get(low, "a"), versions("a;1;k=1;"))
	checkRefused(t, s, get(none, "a"), api.ErrNone)
}

// P41: what is not there is not noted, and neither is what is read by who may see it.
func TestWhatIsNotNoted(t *testing.T) {
	s := newServer(t, "a;1;k=v;", "b;2;;", "-b;2")
	for _, id := range []string{"b", "c", "", "A", "123456789"} {
		checkRefused(t, s, need(high, id), api.ErrNone)
		checkRefused(t, s, need(none, id), api.ErrNone)
	}
	for w, want := range badWhos() {
		for _, id := range []string{"a", "b", ""} {
			checkRefused(t, s, need(w, id), want)
		}
	}
	for _, o := range []api.Op{get(high, "a"), hist(high, "a"), seek(high, "k", "v"), audit(high), put(high, "a;1;;"), cut(high, "a", 1)} {
		if got := s.Do(o); got.Code != api.OK {
			t.Error(o, got)
		}
	}
	check(t, s, audit(high), api.Told{})
}

// P41: it is noted for good: other rules, and other records, change no note.
func TestNotesStay(t *testing.T) {
	s := newServer(t, "a;1;;")
	check(t, s, need(none, "a"), versions("a;1;;"))
	add(t, s, "-a;1", "b;1;;")
	check(t, s, api.Op{Kind: api.DoRules}, api.Told{})
	check(t, s, need(low, "b"), versions("b;1;;"))
	checkRefused(t, s, audit(high), api.ErrDeny)
	check(t, s, api.Op{Kind: api.DoRules, Rules: rules()}, api.Told{})
	check(t, s, audit(high), api.Told{Notes: []api.Note{{Who: none, Id: "a"}, {Who: low, Id: "b"}}})
}

// P41: at 60 notes nothing is read in need any more, whether it is there or not.
func TestNotesWithoutRoom(t *testing.T) {
	s := newServer(t, "a;1;;", "b;2;;")
	var notes []api.Note
	for i := range 60 {
		checkRefused(t, s, need(low, "none"), api.ErrNone)
		w := api.Who{Role: i % 4, Why: i % 3, Time: i}
		check(t, s, need(w, "b"), versions("b;2;;"))
		notes = append(notes, api.Note{Who: w, Id: "b"})
		check(t, s, audit(high), api.Told{Notes: notes})
	}
	for _, id := range []string{"a", "b", "none", "", "A"} {
		checkRefused(t, s, need(low, id), api.ErrLarge)
		checkRefused(t, s, need(high, id), api.ErrLarge)
		for w, want := range badWhos() {
			checkRefused(t, s, need(w, id), want)
		}
	}
	check(t, s, audit(high), api.Told{Notes: notes})
	check(t, s, get(mid, "b"), versions("b;2;;"))
	add(t, s, "-b;2")
}

// P42: just who may see all kinds is told who read in need.
func TestAudit(t *testing.T) {
	s, _ := server.New([]int{0})
	who := api.Who{Time: 7}
	set := func(cats int) {
		l := []api.Rule{{Role: 0, Why: 0, From: 7, To: 8, Cats: cats, Allow: true}}
		check(t, s, api.Op{Kind: api.DoRules, Rules: l}, api.Told{})
	}
	set(255)
	check(t, s, audit(who), api.Told{})
	check(t, s, put(who, "a;255;;"), api.Told{})
	check(t, s, need(api.Who{}, "a"), versions("a;255;;"))
	for cats := range 256 {
		set(cats)
		want := api.Told{Code: api.ErrDeny}
		if cats == 255 {
			want = api.Told{Notes: []api.Note{{Id: "a"}}}
		}
		check(t, s, audit(who), want)
	}
	for _, w := range []api.Who{{Time: 6}, {Time: 8}, {Time: 7, Why: 1}} {
		checkRefused(t, s, audit(w), api.ErrDeny)
	}
}

// P42: who may not ask.
func TestAuditRefuses(t *testing.T) {
	s := newServer(t, "a;1;;")
	check(t, s, need(low, "a"), versions("a;1;;"))
	for w, want := range badWhos() {
		checkRefused(t, s, audit(w), want)
	}
	for _, w := range []api.Who{none, low, mid, {Role: 2, Why: 1, Time: 150}} {
		checkRefused(t, s, audit(w), api.ErrDeny)
	}
}

// P43: all versions, as they came, whoever may see them.
func TestVersions(t *testing.T) {
	s := newServer(t)
	checkVersions(t, s)
	texts := []string{"b;255;k=v;a", "a;0;;", "b;255;k=w;", "-b;255", "a;128;;", "b;255;;", "-a;0"}
	for i := range texts {
		add(t, s, texts[i])
		checkVersions(t, s, texts[:i+1]...)
	}
	check(t, s, api.Op{Kind: api.DoRules}, api.Told{})
	checkVersions(t, s, texts...)
	if len(s.Rules()) > 0 {
		t.Error(s.Rules())
	}
}

// P36, P37: a server has room for 20 versions of each choice of kinds.
func TestManyVersions(t *testing.T) {
	s := newServer(t)
	var texts []string
	for cats := 0; cats < 256; cats += 15 {
		for i := range 20 {
			text := "n" + strconv.Itoa(i) + ";" + strconv.Itoa(cats) + ";;"
			add(t, s, text)
			texts = append(texts, text)
		}
		checkRefused(t, s, put(high, "n;"+strconv.Itoa(cats)+";;"), api.ErrLarge)
	}
	checkVersions(t, s, texts...)
}
