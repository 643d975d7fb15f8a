package server_test

import (
	"math/rand/v2"
	"slices"
	"testing"

	"withy/api"
	"withy/find"
	"withy/record"
	"withy/rule"
	"withy/server"
	"withy/store"
	"withy/storetest"
)

// model goes by the words of the chapter: it asks of each version for itself
// whether it may be seen.
type model struct {
	up    []int
	rules []api.Rule
	l     []api.Version
	notes []api.Note
}

func (m *model) part(w api.Who) []api.Version {
	return slices.DeleteFunc(slices.Clone(m.l), func(v api.Version) bool {
		may, _ := rule.May(m.up, m.rules, w, v.Record.Cats)
		return !may
	})
}

// errors answers the errors of what is asked, in their order.
func (m *model) errors(o api.Op) []api.Errno {
	_, sees := rule.Sees(m.up, m.rules, o.Who)
	part := m.part(o.Who)
	switch o.Kind {
	case api.DoRules:
		return []api.Errno{rule.Check(o.Rules)}
	case api.DoPut:
		_, e := store.Put(m.l, o.Record)
		return append([]api.Errno{record.Check(o.Record)}, append(m.mayNot(o.Who, o.Record.Cats), e)...)
	case api.DoCut:
		_, e := store.Cut(m.l, o.Id, o.Record.Cats)
		return append(m.mayNot(o.Who, o.Record.Cats), e)
	case api.DoGet:
		_, e := store.Get(part, o.Id)
		return []api.Errno{sees, e}
	case api.DoFind:
		_, e := find.By(part, o.Field)
		return []api.Errno{sees, e}
	case api.DoHist:
		_, e := store.Hist(part, o.Id)
		return []api.Errno{sees, e}
	case api.DoBreak:
		_, e := store.Get(m.l, o.Id)
		if len(m.notes) == 60 {
			e = api.ErrLarge
		}
		return []api.Errno{sees, e}
	case api.DoAudit:
		return m.mayNot(o.Who, 255)
	}
	return []api.Errno{api.ErrForm}
}

func (m *model) mayNot(w api.Who, cats int) []api.Errno {
	may, e := rule.May(m.up, m.rules, w, cats)
	if e == api.OK && !may {
		e = api.ErrDeny
	}
	return []api.Errno{e}
}

func (m *model) do(o api.Op) (told api.Told) {
	for _, e := range m.errors(o) {
		if e != api.OK {
			return api.Told{Code: e}
		}
	}
	last := func(l []api.Version) []api.Version {
		r, _ := store.Get(l, o.Id)
		return []api.Version{{Record: r}}
	}
	switch o.Kind {
	case api.DoRules:
		m.rules = o.Rules
	case api.DoPut:
		m.l = append(m.l, api.Version{Record: o.Record})
	case api.DoCut:
		m.l = append(m.l, api.Version{Record: api.Record{Id: o.Id, Cats: o.Record.Cats}, Gone: true})
	case api.DoGet:
		told.Versions = last(m.part(o.Who))
	case api.DoFind:
		told.Ids, _ = find.By(m.part(o.Who), o.Field)
	case api.DoHist:
		told.Versions, _ = store.Hist(m.part(o.Who), o.Id)
	case api.DoBreak:
		told.Versions = last(m.l)
		m.notes = append(m.notes, api.Note{Who: o.Who, Id: o.Id})
	case api.DoAudit:
		told.Notes = m.notes
	}
	return told
}

func someRoles(n *rand.Rand) []int {
	up := make([]int, 1+n.IntN(4))
	for i := range up {
		up[i] = n.IntN(1 << i)
	}
	return up
}

func someRules(n *rand.Rand) []api.Rule {
	l := make([]api.Rule, n.IntN(6))
	for i := range l {
		from := n.IntN(4)
		l[i] = api.Rule{Role: n.IntN(5) - 1, Why: n.IntN(3) - 1, From: from, To: from + 1 + n.IntN(4), Cats: n.IntN(8), Allow: n.IntN(4) > 0}
	}
	if n.IntN(3) == 0 {
		l = append(l, api.Rule{Role: n.IntN(3) - 1, Why: -1, To: 1000, Cats: 255, Allow: true})
	}
	return l
}

func someWho(n *rand.Rand) api.Who {
	return api.Who{Role: n.IntN(4), Why: n.IntN(2), Time: n.IntN(6)}
}

// someOp is good as to each of its parts, but where bad is picked.
func someOp(n *rand.Rand) api.Op {
	names := storetest.Names()
	o := api.Op{Kind: 2 + n.IntN(7), Who: someWho(n), Id: names[n.IntN(len(names))]}
	if n.IntN(20) == 0 {
		o.Kind = api.DoRules
	}
	o.Rules = someRules(n)
	o.Record = storetest.Record(names[n.IntN(len(names))], n.IntN(4), n.IntN)
	o.Field = storetest.Fields()[n.IntN(len(storetest.Fields()))]
	switch n.IntN(40) {
	case 0:
		o.Kind = n.IntN(40) - 20
	case 1:
		o.Who = api.Who{Role: n.IntN(11) - 1, Why: n.IntN(6) - 1, Time: n.IntN(1100) - 50}
	case 2:
		o.Id = "A"
	case 3:
		o.Rules = append(o.Rules, api.Rule{})
	case 4:
		o.Record.Cats = n.IntN(600) - 200
	case 5:
		o.Record.Refs = []string{"b", "a"}
	case 6:
		o.Field = storetest.BadFields()[n.IntN(len(storetest.BadFields()))]
	}
	return o
}

// P35 to P43: many servers, each asked for much, held against the model; one
// that changed where it should not would say so later on.
func TestManyServers(t *testing.T) {
	n := rand.New(rand.NewPCG(35, 43))
	codes := map[api.Errno]int{}
	for range 30 {
		up := someRoles(n)
		s, _ := server.New(up)
		m := &model{up: up}
		for range 800 {
			o := someOp(n)
			want := m.do(o)
			codes[want.Code]++
			check(t, s, o, want)
			if !slices.Equal(s.Rules(), m.rules) {
				t.Fatalf("Rules %v, want %v", s.Rules(), m.rules)
			}
		}
		checkVersions(t, s, storetest.Texts(m.l)...)
	}
	t.Log("codes:", codes)
	for _, e := range []api.Errno{api.OK, api.ErrArg, api.ErrLarge, api.ErrForm, api.ErrNone, api.ErrDeny} {
		if codes[e] == 0 {
			t.Error("the error was never told:", e)
		}
	}
}

// askAll are all ways in which who asks could find something out, but in need.
func askAll(w api.Who) []api.Op {
	ops := []api.Op{audit(w)}
	for _, id := range append(storetest.Names(), "none", "A") {
		ops = append(ops, get(w, id), hist(w, id))
	}
	for _, f := range append(storetest.Fields(), storetest.BadFields()...) {
		ops = append(ops, seek(w, f.Key, f.Value))
	}
	return ops
}

// Who may not see something is told the same as if it were not there: of two
// servers one has been told just what they may see, and there each answer is the
// same, what they are refused included, also where they change something.
func TestNobodyFindsOut(t *testing.T) {
	n := rand.New(rand.NewPCG(8, 39))
	for range 60 {
		up, rules, w := someRoles(n), someRules(n), someWho(n)
		w.Role %= len(up)
		full, _ := server.New(up)
		less, _ := server.New(up)
		for _, s := range []*server.Server{full, less} {
			check(t, s, api.Op{Kind: api.DoRules, Rules: rules}, api.Told{})
		}
		for range 120 {
			o := someOp(n)
			o.Kind = api.DoPut + n.IntN(2)
			if n.IntN(2) == 0 {
				o.Who = w
			}
			got := full.Do(o)
			may, e := rule.May(up, rules, w, o.Record.Cats)
			if o.Who == w || may && e == api.OK {
				check(t, less, o, got)
			}
		}
		for _, o := range askAll(w) {
			check(t, less, o, full.Do(o))
		}
	}
}
