package store_test

import (
	"math"
	"math/rand/v2"
	"slices"
	"strings"
	"testing"

	"withy/api"
	"withy/store"
)

// badCats are just outside of their bounds, or far outside of them.
func badCats() []int {
	return []int{-1, 256, 257, -256, 1 << 32, 1<<32 + 1, math.MinInt, math.MaxInt}
}

// withRefs answers v, with these Refs.
func withRefs(v api.Version, refs ...string) api.Version {
	v.Record.Refs = refs
	return v
}

// goodStores are stores: with nothing in them, and such as are just about none.
func goodStores() [][]api.Version {
	return [][]api.Version{
		nil,
		{},
		{put("a", 0, "")},
		{put("a", 255, "v"), gone("a", 255)},
		{put("a", 1, "v"), gone("a", 1), put("a", 1, "v"), gone("a", 1)},
		{put("a", 1, "v"), put("a", 1, "v"), gone("a", 1)},
		{put("a", 1, "v"), put("b", 1, "v"), put("a", 2, "v"), gone("a", 1), gone("a", 2), gone("b", 1)},
		{{Record: api.Record{Id: "a"}}, {Record: api.Record{Id: "a", Fields: []api.Field{}, Refs: []string{}}, Gone: true}},
		{withRefs(put("a", 1, "v"), "a", "b"), gone("a", 1), withRefs(put("a", 1, "v"), "a")},
		some(20, 0),
		append(some(19, 7), gone("naa", 7)),
		slices.Concat(some(20, 1), some(20, 2), some(20, 3)),
		whole(),
	}
}

type badStore struct {
	l    []api.Version
	want api.Errno
}

// badStores are no stores, each with its error.
func badStores() []badStore {
	field := api.Version{Record: put("a", 1, "v").Record, Gone: true}
	l := []badStore{
		{[]api.Version{{}}, api.ErrForm},
		{[]api.Version{put("a", 1, ";")}, api.ErrForm},
		{[]api.Version{withRefs(put("a", 1, "v"), "b", "b")}, api.ErrForm},
		{[]api.Version{withRefs(put("a", 1, "v"), "a", "b", "c", "d", "e")}, api.ErrLarge},
		{[]api.Version{put("a", 1, "v"), field}, api.ErrForm},
		{[]api.Version{put("a", 1, "v"), withRefs(gone("a", 1), "b")}, api.ErrForm},
		{[]api.Version{gone("a", 1)}, api.ErrForm},
		{[]api.Version{put("a", 1, "v"), gone("a", 1), gone("a", 1)}, api.ErrForm},
		{[]api.Version{put("a", 1, "v"), gone("b", 1)}, api.ErrForm},
		{[]api.Version{put("a", 1, "v"), gone("a", 0)}, api.ErrForm},
		{[]api.Version{put("a", 1, "v"), gone("a", 3)}, api.ErrForm},
		{[]api.Version{put("a", 3, "v"), gone("a", 1)}, api.ErrForm},
		{[]api.Version{gone("a", 1), put("a", 1, "v")}, api.ErrForm},
		{some(21, 0), api.ErrLarge},
		{append(some(20, 5), gone("naa", 5)), api.ErrLarge},
		{append(some(20, 5), put("naa", 5, "v")), api.ErrLarge},
		{slices.Concat(some(20, 1), some(20, 2), some(1, 1)), api.ErrLarge},
		{append(whole(), put("a", 0, "v")), api.ErrLarge},
	}
	for _, id := range badNames() {
		l = append(l, badStore{[]api.Version{put("a", 1, "v"), put(id, 1, "v")}, api.ErrForm})
	}
	for _, cats := range badCats() {
		l = append(l, badStore{[]api.Version{put("a", 1, "v"), put("a", cats, "v")}, api.ErrArg})
	}
	return l
}

// P21: what is a store, and what is none.
func TestCheck(t *testing.T) {
	for _, l := range goodStores() {
		if e := store.Check(l); e != api.OK {
			t.Errorf("Check(%v) = %v", l, e)
		}
	}
	for _, x := range badStores() {
		if e := store.Check(x.l); e != x.want {
			t.Errorf("Check(%v) = %v, want %v", x.l, e, x.want)
		}
	}
}

// P21: that there are too many is told ahead of all, else of each version its
// first error, ahead of those of versions behind it.
func TestCheckOrder(t *testing.T) {
	badArg, badForm := put("a", 256, "v"), gone("none", 5)
	tests := []badStore{
		{append([]api.Version{badArg}, whole()...), api.ErrLarge},
		{append([]api.Version{badForm}, whole()...), api.ErrLarge},
		{append([]api.Version{badArg}, whole()[1:]...), api.ErrArg},
		{append([]api.Version{badForm}, whole()[1:]...), api.ErrForm},
		{append(some(20, 5), put("A", 5, "v")), api.ErrForm},
		{append(some(20, 5), put("A", 256, "v")), api.ErrForm},
		{append(some(20, 5), badForm), api.ErrLarge},
		{append(some(20, 5), api.Version{Record: put("naa", 5, "v").Record, Gone: true}), api.ErrLarge},
		{append(some(20, 5), badArg, put("a", 5, "v")), api.ErrArg},
		{append(some(20, 5), put("a", 5, "v"), badArg), api.ErrLarge},
		{[]api.Version{badForm, badArg}, api.ErrForm},
		{[]api.Version{badArg, badForm}, api.ErrArg},
		{[]api.Version{{Record: api.Record{Id: "a", Cats: 256}, Gone: true}}, api.ErrArg},
		{[]api.Version{withRefs(gone("a", 1), "a", "b", "c", "d", "e")}, api.ErrLarge},
	}
	for _, x := range tests {
		if e := store.Check(x.l); e != x.want || wantCheck(x.l) != x.want {
			t.Errorf("Check(%v) = %v, model %v, want %v", x.l, e, wantCheck(x.l), x.want)
		}
	}
}

// P21: more than 5120 are told without a look at them.
func TestCheckOfVeryMany(t *testing.T) {
	for _, n := range []int{5121, 6000, 1 << 20} {
		if e := store.Check(make([]api.Version, n)); e != api.ErrLarge {
			t.Errorf("Check of %d = %v", n, e)
		}
	}
	if e := store.Check(make([]api.Version, 5120)); e != api.ErrForm {
		t.Errorf("Check of 5120 = %v", e)
	}
}

// P22 to P27, P21, P2: further calls answer Check's error first, and nothing else.
func TestCallsRefuseWhatCheckRefuses(t *testing.T) {
	for _, x := range badStores() {
		for _, id := range []string{"a", "zz", "A"} {
			for _, cats := range []int{1, 256} {
				l, e := store.Put(x.l, api.Record{Id: id, Cats: cats})
				m, f := store.Cut(x.l, id, cats)
				n, g := store.Part(x.l, cats)
				if len(l)+len(m)+len(n) > 0 || e != x.want || f != x.want || g != x.want {
					t.Errorf("of %v: %v, %v, %v, %v, %v, %v, want %v", x.l, l, e, m, f, n, g, x.want)
				}
			}
			r, e := store.Get(x.l, id)
			l, f := store.Hist(x.l, id)
			if !isZero(r) || len(l) > 0 || e != x.want || f != x.want {
				t.Errorf("of %v: %v, %v, %v, %v, want %v", x.l, r, e, l, f, x.want)
			}
		}
		if ids, e := store.Ids(x.l); len(ids) > 0 || e != x.want {
			t.Errorf("Ids(%v) = %v, %v, want %v", x.l, ids, e, x.want)
		}
	}
}

// P22: behind all others, whatever lives, and whatever is Gone.
func TestPut(t *testing.T) {
	r := withRefs(put("a", 1, "new"), "b").Record
	for _, l := range goodStores() {
		if wantSame(l, r.Cats) == 20 {
			continue
		}
		got, e := store.Put(l, r)
		if !isSame(got, append(slices.Clone(l), api.Version{Record: r})) || e != api.OK || store.Check(got) != api.OK {
			t.Errorf("Put(%v, %v) = %v, %v", l, r, got, e)
		}
	}
}

// P22: what is no record, ahead of that there are 20 already.
func TestPutRefuses(t *testing.T) {
	full := append(some(20, 1), put("a", 0, "v"), gone("a", 0))
	tests := []struct {
		r    api.Record
		want api.Errno
	}{
		{api.Record{}, api.ErrForm},
		{put("A", 1, "v").Record, api.ErrForm},
		{put("a", 256, "v").Record, api.ErrArg},
		{put("a", -1, "v").Record, api.ErrArg},
		{put("a", 1, "=").Record, api.ErrForm},
		{withRefs(put("a", 2, "v"), "a", "b", "c", "d", "e").Record, api.ErrLarge},
		{put("a", 1, "v").Record, api.ErrLarge},
		{put("naa", 1, "v").Record, api.ErrLarge},
		{put("naa", 0, "v").Record, api.OK},
		{put("naa", 2, "v").Record, api.OK},
		{put("naa", 3, "v").Record, api.OK},
	}
	for _, x := range tests {
		got, e := store.Put(full, x.r)
		if e != x.want || e != api.OK && len(got) > 0 {
			t.Errorf("Put(%v, %v) = %v, %v, want %v", full, x.r, got, e, x.want)
		}
	}
}

// P22, P21: with each of some choices of kinds just 20, those that are Gone
// among them, whatever the others have.
func TestPutUpTo20(t *testing.T) {
	var l []api.Version
	for cats := 0; cats < 256; cats += 17 {
		for i := range 20 {
			var e api.Errno
			before := len(l)
			if i%3 == 2 {
				l, e = store.Cut(l, "a", cats)
			} else {
				l, e = store.Put(l, put("a", cats, "v").Record)
			}
			if e != api.OK || len(l) != before+1 {
				t.Fatalf("%d with %d: %d, %v", i, cats, len(l), e)
			}
		}
		for _, id := range []string{"a", "b"} {
			if got, e := store.Put(l, put(id, cats, "v").Record); len(got) > 0 || e != api.ErrLarge {
				t.Fatalf("one more with %d: %v", cats, e)
			}
		}
	}
	if e := store.Check(l); e != api.OK || !isSame(l[:3], []api.Version{put("a", 0, "v"), put("a", 0, "v"), gone("a", 0)}) {
		t.Error(e, l[:3])
	}
}

// P22, P23, P21: where one alone is missing, there is room just for that one.
func TestPutTheLast(t *testing.T) {
	for _, i := range []int{0, 19, 20, 2571, 5119} {
		l := whole()
		last := l[i]
		l = slices.Delete(l, i, i+1)
		for _, cats := range []int{0, 1, 128, 255} {
			other := put("other", cats, "v").Record
			if got, e := store.Put(l, other); cats != last.Record.Cats && (len(got) > 0 || e != api.ErrLarge) {
				t.Errorf("without %d: one more with %d: %v", i, cats, e)
			}
		}
		got, e := store.Put(l, last.Record)
		if !isSame(got, append(l, last)) || e != api.OK || store.Check(got) != api.OK {
			t.Fatalf("without %d: %v", i, e)
		}
		if more, e := store.Put(got, last.Record); len(more) > 0 || e != api.ErrLarge {
			t.Errorf("behind %d: Put: %v", i, e)
		}
		if more, e := store.Cut(got, last.Record.Id, last.Record.Cats); len(more) > 0 || e != api.ErrLarge {
			t.Errorf("behind %d: Cut: %v", i, e)
		}
	}
}

// P23: Id and Cats alone, behind all others; just that name, with just these kinds, is gone.
func TestCut(t *testing.T) {
	l := []api.Version{withRefs(put("a", 1, "v"), "b"), put("b", 1, "v"), put("a", 3, "w"), put("a", 0, "x")}
	for _, x := range l {
		got, e := store.Cut(l, x.Record.Id, x.Record.Cats)
		if !isSame(got, append(slices.Clone(l), gone(x.Record.Id, x.Record.Cats))) || e != api.OK {
			t.Errorf("Cut of %v = %v, %v", x, got, e)
		}
		for _, y := range l {
			again, e := store.Cut(got, y.Record.Id, y.Record.Cats)
			want := api.OK
			if isSameRecord(x.Record, y.Record) {
				want = api.ErrNone
			}
			if e != want || e != api.OK && len(again) > 0 {
				t.Errorf("Cut of %v, then of %v = %v, %v, want %v", x, y, again, e, want)
			}
		}
	}
}

// P23: each error, in their order.
func TestCutRefuses(t *testing.T) {
	l := slices.Concat(some(20, 1), some(19, 2), []api.Version{gone("naa", 2), put("a", 4, "v"), gone("a", 4)})
	type refused struct {
		id   string
		cats int
		want api.Errno
	}
	tests := []refused{
		{"naa", 1, api.ErrLarge}, {"nat", 1, api.ErrLarge}, {"nau", 1, api.ErrNone},
		{"naa", 2, api.ErrNone}, {"nab", 2, api.ErrLarge}, {"nat", 2, api.ErrNone},
		{"a", 4, api.ErrNone}, {"b", 4, api.ErrNone}, {"naa", 0, api.ErrNone}, {"naa", 3, api.ErrNone}, {"naa", 255, api.ErrNone},
	}
	for _, id := range badNames() {
		tests = append(tests, refused{id, 1, api.ErrForm}, refused{id, 256, api.ErrForm}, refused{id, -1, api.ErrForm})
	}
	for _, cats := range badCats() {
		tests = append(tests, refused{"naa", cats, api.ErrArg}, refused{"zz", cats, api.ErrArg})
	}
	for _, x := range tests {
		if got, e := store.Cut(l, x.id, x.cats); len(got) > 0 || e != x.want {
			t.Errorf("Cut(%v, %q, %d) = %v, %v, want %v", l, x.id, x.cats, got, e, x.want)
		}
	}
}

// P24: of a store with each choice of kinds each part, in order; what is Gone is in it too.
func TestPart(t *testing.T) {
	var l []api.Version
	for cats := range 256 {
		cats = 255 - cats*3%256
		l = append(l, put("a", cats, "v"), gone("a", cats), put("b", cats, "w"))
	}
	for cats := range 256 {
		want, _ := wantPart(l, cats)
		got, e := store.Part(l, cats)
		if !isSame(got, want) || e != api.OK || store.Check(got) != api.OK {
			t.Fatalf("Part(%d) = %v, %v, want %v", cats, got, e, want)
		}
	}
	for _, cats := range badCats() {
		for _, l := range [][]api.Version{nil, l} {
			if got, e := store.Part(l, cats); len(got) > 0 || e != api.ErrArg {
				t.Errorf("Part(%d) = %v, %v", cats, got, e)
			}
		}
	}
}

// P25, P27: a record lives with each set of kinds for itself (the fifth example of the document).
func TestGet(t *testing.T) {
	tests := []struct {
		l    []api.Version
		want string // the value of k; empty, if there is none
	}{
		{nil, ""},
		{[]api.Version{put("b", 1, "1")}, ""},
		{[]api.Version{put("a", 1, "1"), put("b", 1, "2")}, "1"},
		{[]api.Version{put("a", 1, "1"), put("a", 1, "2")}, "2"},
		{[]api.Version{put("a", 7, "1"), put("a", 2, "2"), put("a", 1, "3")}, "3"},
		{[]api.Version{put("a", 1, "1"), put("a", 2, "2"), put("a", 1, "3"), gone("a", 1)}, "2"},
		{[]api.Version{put("a", 1, "1"), put("a", 2, "2"), put("a", 3, "3"), gone("a", 1)}, "3"},
		{[]api.Version{put("a", 1, "1"), put("a", 2, "2"), gone("a", 2)}, "1"},
		{[]api.Version{put("a", 1, "1"), put("a", 2, "2"), gone("a", 2), gone("a", 1)}, ""},
		{[]api.Version{put("a", 1, "1"), gone("a", 1), put("b", 1, "2")}, ""},
		{[]api.Version{put("a", 1, "1"), put("a", 2, "2"), gone("a", 1), put("a", 1, "3")}, "3"},
		{[]api.Version{put("a", 1, "1"), put("a", 2, "2"), gone("a", 2), put("b", 2, "3")}, "1"},
	}
	for _, x := range tests {
		r, e := store.Get(x.l, "a")
		ids, f := store.Ids(x.l)
		if x.want == "" && (!isZero(r) || e != api.ErrNone) || x.want != "" && (len(r.Fields) != 1 || r.Fields[0].Value != x.want || e != api.OK) {
			t.Errorf("Get(%v) = %v, %v, want %q", x.l, r, e, x.want)
		}
		if slices.Contains(ids, "a") != (x.want != "") || f != api.OK {
			t.Errorf("Ids(%v) = %v, %v", x.l, ids, f)
		}
	}
}

// P25, P26: of what is no name there is none.
func TestBadNamesAreNone(t *testing.T) {
	l := []api.Version{put("a", 1, "v"), put("b", 2, "w"), gone("b", 2)}
	for _, id := range append(badNames(), "aa", "0") {
		r, e := store.Get(l, id)
		hist, f := store.Hist(l, id)
		if !isZero(r) || len(hist) > 0 || e != api.ErrNone || f != api.ErrNone {
			t.Errorf("of %q: %v, %v, %v, %v", id, r, e, hist, f)
		}
	}
}

// P26: all of that name, with whatever kinds, those that are Gone among them, in order.
func TestHist(t *testing.T) {
	l := []api.Version{put("a", 1, "1"), put("b", 1, "2"), withRefs(put("a", 6, "3"), "b"), gone("a", 1), gone("b", 1), put("a", 1, "4"), gone("a", 6), gone("a", 1)}
	a := []api.Version{l[0], l[2], l[3], l[5], l[6], l[7]}
	b := []api.Version{l[1], l[4]}
	if got, e := store.Hist(l, "a"); !isSame(got, a) || e != api.OK {
		t.Errorf("Hist of a = %v, %v", got, e)
	}
	if got, e := store.Hist(l, "b"); !isSame(got, b) || e != api.OK {
		t.Errorf("Hist of b = %v, %v", got, e)
	}
}

// P27: each once, by their bytes, however often, and with however many kinds, it lives.
func TestIds(t *testing.T) {
	ids := []string{"b", "aa", "10", "9", "a", "z", "ab", "0"}
	var l []api.Version
	for _, id := range ids {
		l = append(l, put(id, 1, "v"), put(id, 1, "w"), put(id, 0, "v"), put("gone"+id, 2, "v"), gone("gone"+id, 2))
	}
	l = append(l, gone("b", 1), gone("z", 1), gone("z", 0))
	want := []string{"0", "10", "9", "a", "aa", "ab", "b"}
	for range 20 { // the order of a map is another one each time
		if got, e := store.Ids(l); !slices.Equal(got, want) || e != api.OK {
			t.Fatalf("Ids = %v, %v, want %v", got, e, want)
		}
	}
}

// P21 to P27: each list of at most five of eight versions, stores or not.
func TestEachShortList(t *testing.T) {
	var all []api.Version
	for _, id := range []string{"a", "b"} {
		for _, cats := range []int{1, 3} {
			all = append(all, put(id, cats, "v"), gone(id, cats))
		}
	}
	var each func(l []api.Version, n int)
	each = func(l []api.Version, n int) {
		for i, v := range l {
			if !v.Gone {
				l[i] = put(v.Record.Id, v.Record.Cats, string([]byte{'0' + byte(i)}))
			}
		}
		compareAll(t, l, []string{"a", "b"}, []int{0, 1, 2, 3})
		for _, v := range all {
			if n > 0 {
				each(append(slices.Clone(l), v), n-1)
			}
		}
	}
	each(nil, 5)
}

// P21 to P27: many lists, as calls and as chance make them, held against the model.
func TestManyLists(t *testing.T) {
	n := rand.New(rand.NewPCG(4, 21))
	for range 60 {
		var l []api.Version
		for i := range 120 {
			l = step(n, l)
			if i%9 == 0 {
				compareAll(t, l, []string{"a", "b", "ab"}, []int{0, 1, 2, 3, 255, 256})
				compareAll(t, spoiled(n, l), []string{"a", "b"}, []int{1, 255})
			}
		}
	}
}

// step answers l, with one version more, if it may come.
func step(n *rand.Rand, l []api.Version) []api.Version {
	id, cats := []string{"a", "b", "ab"}[n.IntN(3)], []int{0, 1, 1, 2, 3, 7}[n.IntN(6)]
	var next []api.Version
	var e api.Errno
	if n.IntN(3) == 0 {
		next, e = store.Cut(l, id, cats)
	} else {
		next, e = store.Put(l, withRefs(put(id, cats, string([]byte{'!' + byte(n.IntN(10))})), "x").Record)
	}
	if e != api.OK {
		return l
	}
	return next
}

// spoiled answers l, with one version that is another one, is not there, is
// there twice, or stands elsewhere.
func spoiled(n *rand.Rand, l []api.Version) []api.Version {
	if len(l) == 0 {
		return []api.Version{gone("a", 1)}
	}
	l = slices.Clone(l)
	i, j := n.IntN(len(l)), n.IntN(len(l))
	switch n.IntN(6) {
	case 0:
		l[i].Gone = !l[i].Gone
	case 1:
		l[i].Record.Cats = []int{0, 1, 2, 3, 256, -1}[n.IntN(6)]
	case 2:
		l[i].Record.Id = []string{"a", "b", "ab", "", "A"}[n.IntN(5)]
	case 3:
		l = slices.Delete(l, i, i+1)
	case 4:
		l = slices.Insert(l, j, l[i])
	case 5:
		l[i], l[j] = l[j], l[i]
	}
	return l
}

// P24 and the first thing that holds always: what one may see of what calls
// answer is the same, and errors are too, whether what one may not see is there or not.
func TestWhatIsNotSeenIsAsIfItWereNotThere(t *testing.T) {
	n := rand.New(rand.NewPCG(24, 5))
	for range 20 {
		var l []api.Version
		for i := range 100 {
			l = step(n, l)
			for _, sees := range []int{1, 3, 6} {
				if i%7 == 0 {
					compareUnseen(t, l, sees)
				}
			}
		}
	}
}

// compareUnseen changes what may be seen, in l, and in just the part of it that may be seen.
func compareUnseen(t *testing.T, l []api.Version, sees int) {
	t.Helper()
	part, e := store.Part(l, sees)
	if e != api.OK || store.Check(part) != api.OK {
		t.Fatalf("Part(%v, %d) = %v, %v", l, sees, part, e)
	}
	for _, id := range []string{"a", "b", "ab", "new"} {
		for _, cats := range []int{0, 1, 2, 3, 7} {
			if !isAmong(cats, sees) {
				continue
			}
			r := api.Record{Id: id, Cats: cats}
			all, e := store.Put(l, r)
			seen, f := store.Put(part, r)
			compareSeen(t, all, e, seen, f, sees)
			all, e = store.Cut(l, id, cats)
			seen, f = store.Cut(part, id, cats)
			compareSeen(t, all, e, seen, f, sees)
		}
	}
}

func compareSeen(t *testing.T, all []api.Version, e api.Errno, seen []api.Version, f api.Errno, sees int) {
	t.Helper()
	if part, _ := store.Part(all, sees); e != f || !isSame(part, seen) {
		t.Fatalf("who sees %d is told %v, %v, and without the others %v, %v", sees, part, e, seen, f)
	}
}

// P1: whatever it is given, it answers.
func TestLargeThings(t *testing.T) {
	long := strings.Repeat("a", 1<<22)
	r := api.Record{Id: long, Cats: math.MaxInt, Fields: make([]api.Field, 1<<16), Refs: make([]string, 1<<16)}
	l := slices.Repeat([]api.Version{{Record: r, Gone: true}}, 1<<12)
	if e := store.Check(l); e != api.ErrForm {
		t.Error(e)
	}
	_, e := store.Put(nil, r)
	_, f := store.Cut(nil, long, math.MinInt)
	_, g := store.Get(nil, long)
	_, h := store.Hist(nil, long)
	if e != api.ErrForm || f != api.ErrForm || g != api.ErrNone || h != api.ErrNone {
		t.Error(e, f, g, h)
	}
	if l, e := store.Part(nil, 0); len(l) > 0 || e != api.OK {
		t.Error(l, e)
	}
	if ids, e := store.Ids(nil); len(ids) > 0 || e != api.OK {
		t.Error(ids, e)
	}
}
