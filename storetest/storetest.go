// Package storetest: stores for the tests of other packages.
package storetest

import (
	"slices"
	"strconv"
	"strings"

	"withy/api"
	"withy/record"
	"withy/store"
)

// Of answers the versions that these texts say: of a record record.Write of it,
// of one that is Gone -, its name, a semicolon and its kinds.
func Of(texts ...string) []api.Version {
	var l []api.Version
	for _, text := range texts {
		text, isGone := strings.CutPrefix(text, "-")
		if isGone {
			text += ";;"
		}
		r, e := record.Read(text)
		if e != api.OK {
			panic("no record: " + text)
		}
		l = append(l, api.Version{Record: r, Gone: isGone})
	}
	return l
}

// Texts answers what Of makes these versions of.
func Texts(l []api.Version) []string {
	var texts []string
	for _, v := range l {
		text, e := record.Write(v.Record)
		if e != api.OK {
			text = "no record"
		}
		if v.Gone {
			text = "-" + strings.TrimSuffix(text, ";;")
		}
		texts = append(texts, text)
	}
	return texts
}

// Whole answers a store that has room for no version more, each of another
// name, and each with as many fields and refs as there may be.
func Whole() []api.Version {
	var l []api.Version
	for i := range 5120 {
		n := strconv.Itoa(i)
		r := api.Record{Id: "n" + n, Cats: i % 256, Refs: []string{"a", "n", "n" + n, "o"}}
		for _, key := range []string{"a", "b", "c", "d", "e", "f"} {
			r.Fields = append(r.Fields, api.Field{Key: key, Value: n})
		}
		l = append(l, api.Version{Record: r})
	}
	return l
}

// Bad answers lists of versions that are no stores, with different errors, each
// behind or around records of the name a.
func Bad() [][]api.Version {
	good := Of("a;1;k=v;a")
	full := slices.Repeat(good, 20)
	return [][]api.Version{
		append(Whole(), good...),
		append(Of("a;1;k=v;a", "-a;1"), Of("-a;1")...),
		append(Of("a;1;k=v;a"), Of("-a;3")...),
		append(Of("a;1;k=v;a"), api.Version{Record: good[0].Record, Gone: true}),
		append(slices.Clone(full), good...),
		append(slices.Clone(full), Of("a;2;k=v;", "b;1;;")...),
		append(Of("a;1;k=v;a"), api.Version{}),
		append(Of("a;1;k=v;a"), api.Version{Record: api.Record{Id: "a", Cats: 256}}),
		append(Of("a;1;k=v;a"), api.Version{Record: api.Record{Id: "a", Cats: -1}}),
		append(Of("a;1;k=v;a"), api.Version{Record: api.Record{Id: "a", Refs: make([]string, 5)}}),
		append([]api.Version{{Record: api.Record{Id: "a", Fields: []api.Field{{Key: "k", Value: ";"}}}}}, good...),
	}
}

// BadFields answers fields of which the Key is no name, or the Value is none.
func BadFields() []api.Field {
	l := []api.Field{{}}
	for _, key := range []string{"", "K", "k ", "k=", "k,", "\x00", "é", "123456789"} {
		l = append(l, api.Field{Key: key, Value: "v"})
	}
	for _, value := range []string{" ", "v;", "v,", "=", "\n", "\x7f", "é", "1234567890123"} {
		l = append(l, api.Field{Key: "k", Value: value})
	}
	return l
}

// Step answers l with one version more, if it may come; pick answers one of the
// numbers below n.
func Step(l []api.Version, pick func(n int) int) []api.Version {
	id := Names()[pick(len(Names()))]
	cats := pick(4)
	var next []api.Version
	var e api.Errno
	if pick(3) == 0 {
		next, e = store.Cut(l, id, cats)
	} else {
		next, e = store.Put(l, Record(id, cats, pick))
	}
	if e != api.OK {
		return l
	}
	return next
}

// Names answers the names of which Step makes records, in no order.
func Names() []string {
	return []string{"b", "ab", "9", "a", "10", "z"}
}

// Fields answers the fields that Step gives to records, and one that it does not.
func Fields() []api.Field {
	var l []api.Field
	for _, key := range []string{"k", "m", "0"} {
		for _, value := range []string{"", "v", "w", "vw"} {
			l = append(l, api.Field{Key: key, Value: value})
		}
	}
	return append(l, api.Field{Key: "none", Value: "v"})
}

// Record answers a record with some of Fields, and with some of Names as refs;
// pick answers one of the numbers below n.
func Record(id string, cats int, pick func(n int) int) api.Record {
	r := api.Record{Id: id, Cats: cats}
	for _, key := range []string{"0", "k", "m"} {
		if pick(2) == 0 {
			value := []string{"", "v", "w", "vw"}[pick(4)]
			r.Fields = append(r.Fields, api.Field{Key: key, Value: value})
		}
	}
	for _, ref := range slices.Sorted(slices.Values(append(Names(), "none"))) {
		if pick(4) == 0 && len(r.Refs) < api.MaxRefs {
			r.Refs = append(r.Refs, ref)
		}
	}
	return r
}

// Roomy answers a copy of l that has room behind it, and behind each list in it,
// and something in all that room.
func Roomy(l []api.Version) []api.Version {
	room := append(slices.Clone(l), Of("room;1;room=1;room", "room;2;room=2;room")...)
	for i := range room {
		r := &room[i].Record
		r.Fields = append(slices.Clone(r.Fields), api.Field{Key: "room", Value: "1"})[:len(r.Fields)]
		r.Refs = append(slices.Clone(r.Refs), "room")[:len(r.Refs)]
	}
	return room[:len(l)]
}

// Room answers a copy of l and of what stands in the room behind it, and behind
// each list in it.
func Room(l []api.Version) []api.Version {
	all := slices.Clone(l[:cap(l)])
	for i := range all {
		r := &all[i].Record
		r.Fields = slices.Clone(r.Fields[:cap(r.Fields)])
		r.Refs = slices.Clone(r.Refs[:cap(r.Refs)])
	}
	return all
}

// Wipe writes over l, over each list in it, and over the room behind them.
func Wipe(l []api.Version) {
	l = l[:cap(l)]
	for i := range l {
		fields, refs := l[i].Record.Fields, l[i].Record.Refs
		for k := range fields[:cap(fields)] {
			fields[:cap(fields)][k] = api.Field{Key: "wiped"}
		}
		WipeTexts(refs)
		l[i] = api.Version{Record: api.Record{Id: "wiped"}}
	}
}

// WipeTexts writes over l, and over the room behind it.
func WipeTexts(l []string) {
	l = l[:cap(l)]
	for i := range l {
		l[i] = "wiped"
	}
}
