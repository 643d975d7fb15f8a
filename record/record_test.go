package record_test

import (
	"math"
	"math/rand/v2"
	"regexp"
	"slices"
	"strings"
	"testing"

	"withy/api"
	"withy/record"
)

// What is a name, and what is a value, as patterns: no copy of how the package looks at them.
var (
	namePattern  = regexp.MustCompile(`\A[a-z0-9]{1,8}\z`)
	valuePattern = regexp.MustCompile(`\A[!-+\--:<>-~]{0,12}\z`)
)

// eachByte calls f with each byte.
func eachByte(f func(c byte)) {
	for n := range 256 {
		f(byte(n))
	}
}

// withByte answers s, with c in the place i.
func withByte(s string, i int, c byte) string {
	b := []byte(s)
	b[i] = c
	return string(b)
}

// badNames are no names, each for another reason.
func badNames() []string {
	return []string{"", "A", "aB", "a b", " a", "a ", "a-b", "a_b", "a.b", "a,b", "a;b", "a=b", "a\n", "a\x00", "é", "ａ", "a\xff", "123456789", "aaaaaaaaaaaaaaaaaa"}
}

// badValues are no values, each for another reason.
func badValues() []string {
	return []string{" ", "a b", "a,b", "a;b", "a=b", "=", "\n", "\x00", "\x7f", "\xff", "é", "1234567890123", strings.Repeat("v", 300)}
}

// badCats are just outside of their bounds, or far outside of them.
func badCats() []int {
	return []int{-1, 256, 257, -256, 1 << 32, 1<<32 + 1, math.MinInt, math.MaxInt}
}

// fieldsOf answers a field of each key, whose value is its key in capitals.
func fieldsOf(keys ...string) []api.Field {
	var l []api.Field
	for _, key := range keys {
		l = append(l, api.Field{Key: key, Value: strings.ToUpper(key)})
	}
	return l
}

func isSame(a, b api.Record) bool {
	return a.Id == b.Id && a.Cats == b.Cats && slices.Equal(a.Fields, b.Fields) && slices.Equal(a.Refs, b.Refs)
}

func isZero(r api.Record) bool {
	return isSame(r, api.Record{})
}

// wantCheck goes by the patterns, in the order in which P16 tells the errors.
func wantCheck(r api.Record) api.Errno {
	switch {
	case !namePattern.MatchString(r.Id):
		return api.ErrForm
	case r.Cats < 0 || r.Cats > 255:
		return api.ErrArg
	case len(r.Fields) > 6 || len(r.Refs) > 4:
		return api.ErrLarge
	}
	var keys []string
	for _, f := range r.Fields {
		if !valuePattern.MatchString(f.Value) {
			return api.ErrForm
		}
		keys = append(keys, f.Key)
	}
	if !wantNames(keys) || !wantNames(r.Refs) {
		return api.ErrForm
	}
	return api.OK
}

// wantNames tells whether these are names, in order, each once.
func wantNames(l []string) bool {
	ordered := slices.Compact(slices.Sorted(slices.Values(l)))
	return slices.Equal(l, ordered) && !slices.ContainsFunc(l, func(s string) bool { return !namePattern.MatchString(s) })
}

// compareEachByte asks of each byte, alone, and in each place of good.
func compareEachByte(t *testing.T, name string, is func(s string) bool, good string, want func(c byte) bool) {
	t.Helper()
	eachByte(func(c byte) {
		if s := string([]byte{c}); is(s) != want(c) {
			t.Errorf("%s(%q) = %v", name, s, !want(c))
		}
		for i := range len(good) {
			if s := withByte(good, i, c); is(s) != want(c) {
				t.Errorf("%s(%q) = %v", name, s, !want(c))
			}
		}
	})
}

// P14: each byte, alone, and in each place of a name.
func TestIdOfEachByte(t *testing.T) {
	compareEachByte(t, "Id", record.Id, "abc01289", func(c byte) bool {
		return c >= 'a' && c <= 'z' || c >= '0' && c <= '9'
	})
}

// P14: of each length; what is too long is none, whatever is in it.
func TestIdLengths(t *testing.T) {
	for n := range 300 {
		want := n >= 1 && n <= 8
		for _, letter := range []string{"a", "z", "0", "9"} {
			if s := strings.Repeat(letter, n); record.Id(s) != want {
				t.Errorf("Id of %d times %q = %v", n, letter, !want)
			}
		}
	}
}

// P14: what is no name, and names as one thinks of them.
func TestId(t *testing.T) {
	for _, s := range badNames() {
		if record.Id(s) {
			t.Errorf("Id(%q) = true", s)
		}
	}
	for _, s := range []string{"a", "0", "z9", "a1", "1a", "00", "abcdefgh", "12345678"} {
		if !record.Id(s) {
			t.Errorf("Id(%q) = false", s)
		}
	}
}

// P15: each byte, alone, and in each place of a value.
func TestValueOfEachByte(t *testing.T) {
	compareEachByte(t, "Value", record.Value, "abcXYZ012-+!", func(c byte) bool {
		return c >= 33 && c <= 126 && c != ',' && c != ';' && c != '='
	})
}

// P15: of each length, the empty one included.
func TestValueLengths(t *testing.T) {
	for n := range 300 {
		want := n <= 12
		for _, letter := range []string{"a", "!", "~"} {
			if s := strings.Repeat(letter, n); record.Value(s) != want {
				t.Errorf("Value of %d times %q = %v", n, letter, !want)
			}
		}
	}
	for _, s := range badValues() {
		if record.Value(s) {
			t.Errorf("Value(%q) = true", s)
		}
	}
}

// goodRecords are records: the least, the greatest, and such as are hard to tell in order.
func goodRecords() []api.Record {
	return []api.Record{
		{Id: "a"},
		{Id: "0", Cats: 255, Fields: []api.Field{}, Refs: []string{}},
		{Id: "abcdefgh", Cats: 1, Fields: fieldsOf("k")},
		{Id: "12345678", Cats: 128, Refs: []string{"12345678"}},
		{Id: "a1", Cats: 5, Fields: []api.Field{{Key: "k", Value: "v"}}, Refs: []string{"b"}},
		{Id: "a", Fields: []api.Field{{Key: "k"}, {Key: "kk"}, {Key: "kkk"}}, Refs: []string{"b", "bb"}},
		{Id: "a", Fields: fieldsOf("0", "10", "9", "a", "a0", "z"), Refs: []string{"0", "10", "9", "a"}},
		{Id: "a", Fields: []api.Field{{Key: "a", Value: "same"}, {Key: "b", Value: "same"}}, Refs: []string{"a", "b"}},
		{Id: "a", Fields: []api.Field{{Key: "a", Value: "z"}, {Key: "b", Value: "a"}}},
		{Id: "z", Fields: []api.Field{{Key: "z12345678"[:8], Value: "!\"#$%&'()*+-"}}, Refs: []string{"z"}},
	}
}

type badRecord struct {
	r    api.Record
	want api.Errno
}

// badRecords are no records, each with its error.
func badRecords() []badRecord {
	var l []badRecord
	for _, s := range badNames() {
		l = append(l,
			badRecord{api.Record{Id: s}, api.ErrForm},
			badRecord{api.Record{Id: "a", Fields: []api.Field{{Key: s, Value: "v"}}}, api.ErrForm},
			badRecord{api.Record{Id: "a", Refs: []string{s}}, api.ErrForm})
	}
	for _, s := range badValues() {
		l = append(l, badRecord{api.Record{Id: "a", Fields: []api.Field{{Key: "k", Value: s}}}, api.ErrForm})
	}
	for _, n := range badCats() {
		l = append(l, badRecord{api.Record{Id: "a", Cats: n}, api.ErrArg})
	}
	return append(l,
		badRecord{api.Record{}, api.ErrForm},
		badRecord{api.Record{Id: "a", Fields: fieldsOf("a", "b", "c", "d", "e", "f", "g")}, api.ErrLarge},
		badRecord{api.Record{Id: "a", Refs: []string{"a", "b", "c", "d", "e"}}, api.ErrLarge},
		badRecord{api.Record{Id: "a", Fields: fieldsOf("k", "k")}, api.ErrForm},
		badRecord{api.Record{Id: "a", Fields: []api.Field{{Key: "k", Value: "1"}, {Key: "k", Value: "2"}}}, api.ErrForm},
		badRecord{api.Record{Id: "a", Fields: fieldsOf("m", "k")}, api.ErrForm},
		badRecord{api.Record{Id: "a", Fields: fieldsOf("kk", "k")}, api.ErrForm},
		badRecord{api.Record{Id: "a", Fields: fieldsOf("9", "10")}, api.ErrForm},
		badRecord{api.Record{Id: "a", Fields: fieldsOf("a", "9")}, api.ErrForm},
		badRecord{api.Record{Id: "a", Fields: fieldsOf("a", "c", "b", "d")}, api.ErrForm},
		badRecord{api.Record{Id: "a", Refs: []string{"b", "b"}}, api.ErrForm},
		badRecord{api.Record{Id: "a", Refs: []string{"c", "b"}}, api.ErrForm},
		badRecord{api.Record{Id: "a", Refs: []string{"bb", "b"}}, api.ErrForm},
		badRecord{api.Record{Id: "a", Refs: []string{"9", "10"}}, api.ErrForm},
		badRecord{api.Record{Id: "a", Refs: []string{"a", "9"}}, api.ErrForm},
		badRecord{api.Record{Id: "a", Refs: []string{"a", "c", "b", "d"}}, api.ErrForm},
	)
}

// P16: what is a record, and what is none.
func TestCheck(t *testing.T) {
	for _, r := range goodRecords() {
		if e := record.Check(r); e != api.OK {
			t.Errorf("Check(%v) = %v", r, e)
		}
	}
	for _, x := range badRecords() {
		if e := record.Check(x.r); e != x.want {
			t.Errorf("Check(%v) = %v, want %v", x.r, e, x.want)
		}
	}
}

// P16, P3: each number of kinds.
func TestCheckCats(t *testing.T) {
	for cats := -300; cats <= 600; cats++ {
		want := api.ErrArg
		if cats >= 0 && cats <= 255 {
			want = api.OK
		}
		if e := record.Check(api.Record{Id: "a", Cats: cats}); e != want {
			t.Errorf("Check with Cats %d = %v, want %v", cats, e, want)
		}
	}
}

// P16: as many as there may be, and more, of both lists.
func TestCheckCounts(t *testing.T) {
	names := strings.Split("abcdefghijklmnop", "")
	for fields := range 10 {
		for refs := range 10 {
			r := api.Record{Id: "a", Fields: fieldsOf(names[:fields]...), Refs: names[:refs]}
			want := api.OK
			if fields > 6 || refs > 4 {
				want = api.ErrLarge
			}
			if e := record.Check(r); e != want {
				t.Errorf("Check with %d fields and %d refs = %v, want %v", fields, refs, e, want)
			}
		}
	}
}

// P16: each of the parts, good and bad, with each of the others: the error that
// is told first is the answer.
func TestCheckOrder(t *testing.T) {
	many := slices.Repeat([]api.Field{{Key: "K", Value: "="}}, 7)
	for _, id := range []string{"a", "", "A"} {
		for _, cats := range []int{0, -1, 256} {
			for _, fields := range [][]api.Field{nil, fieldsOf("b", "a"), fieldsOf("a", "b", "c", "d", "e", "f", "g"), many} {
				for _, refs := range [][]string{nil, {"A"}, {"a", "b", "c", "d", "e"}, {"", "", "", "", ""}} {
					r := api.Record{Id: id, Cats: cats, Fields: fields, Refs: refs}
					if e := record.Check(r); e != wantCheck(r) {
						t.Errorf("Check(%v) = %v, want %v", r, e, wantCheck(r))
					}
				}
			}
		}
	}
}

// P16: each place of both lists is looked at, and each two that stand together.
func TestCheckEachPlace(t *testing.T) {
	keys, refs := []string{"b", "d", "f", "h", "j", "l"}, []string{"b", "d", "f", "h"}
	for i := range keys {
		for _, name := range append(badNames(), "a", "b", "c", "d", "e", "f", "g", "h", "i", "j", "k", "l", "m") {
			other := slices.Clone(keys)
			other[i] = name
			compareCheck(t, api.Record{Id: "a", Fields: fieldsOf(other...), Refs: refs})
			compareCheck(t, api.Record{Id: "a", Fields: fieldsOf(other...)})
		}
		for _, value := range append(badValues(), "", "a", "~") {
			fields := fieldsOf(keys...)
			fields[i].Value = value
			compareCheck(t, api.Record{Id: "a", Fields: fields, Refs: refs})
		}
	}
	for i := range refs {
		for _, name := range append(badNames(), "a", "b", "c", "d", "e", "f", "g", "h", "i") {
			other := slices.Clone(refs)
			other[i] = name
			compareCheck(t, api.Record{Id: "a", Fields: fieldsOf(keys...), Refs: other})
			compareCheck(t, api.Record{Id: "a", Refs: other})
		}
	}
}

func compareCheck(t *testing.T, r api.Record) {
	t.Helper()
	if e := record.Check(r); e != wantCheck(r) {
		t.Errorf("Check(%v) = %v, want %v", r, e, wantCheck(r))
	}
}

// P17, P18, P19, P2: further calls answer Check's error first, and nothing else.
func TestCallsRefuseWhatCheckRefuses(t *testing.T) {
	for _, x := range badRecords() {
		for _, key := range []string{"a", "k", "", "A"} {
			if s, e := record.Get(x.r, key); s != "" || e != x.want {
				t.Errorf("Get(%v, %q) = %q, %v, want %v", x.r, key, s, e, x.want)
			}
			for _, value := range []string{"", "v", ";"} {
				f := api.Field{Key: key, Value: value}
				if r, e := record.Set(x.r, f); !isZero(r) || e != x.want {
					t.Errorf("Set(%v, %v) = %v, %v, want %v", x.r, f, r, e, x.want)
				}
			}
		}
		if s, e := record.Write(x.r); s != "" || e != x.want {
			t.Errorf("Write(%v) = %q, %v, want %v", x.r, s, e, x.want)
		}
	}
}

// P17: each key that is there has its value, an empty one included; others have none.
func TestGet(t *testing.T) {
	r := api.Record{Id: "a", Fields: fieldsOf("10", "9", "b", "bb", "d", "f"), Refs: []string{"c"}}
	r.Fields[2].Value = ""
	for _, f := range r.Fields {
		if s, e := record.Get(r, f.Key); s != f.Value || e != api.OK {
			t.Errorf("Get(%v, %q) = %q, %v", r, f.Key, s, e)
		}
	}
	for _, key := range append(badNames(), "0", "1", "100", "a", "c", "bbb", "e", "g", "z") {
		if s, e := record.Get(r, key); s != "" || e != api.ErrNone {
			t.Errorf("Get(%v, %q) = %q, %v, want ErrNone", r, key, s, e)
		}
		if s, e := record.Get(api.Record{Id: "a"}, key); s != "" || e != api.ErrNone {
			t.Errorf("Get of no fields, %q = %q, %v, want ErrNone", key, s, e)
		}
	}
}

// P17, P18: with each choice of eight keys, each of them is asked for, and set.
func TestGetAndSetOfEachChoice(t *testing.T) {
	all := []string{"0", "10", "9", "a", "aa", "b", "ba", "z"}
	for choice := range 1 << len(all) {
		var keys []string
		for i, key := range all {
			if choice>>i%2 == 1 {
				keys = append(keys, key)
			}
		}
		if len(keys) > api.MaxFields {
			continue
		}
		r := api.Record{Id: "x", Cats: 3, Fields: fieldsOf(keys...), Refs: []string{"b", "c"}}
		for _, key := range all {
			compareGet(t, r, key)
			compareSet(t, r, api.Field{Key: key, Value: "new"})
		}
	}
}

func compareGet(t *testing.T, r api.Record, key string) {
	t.Helper()
	want, wantErr := "", api.ErrNone
	for _, f := range r.Fields {
		if f.Key == key {
			want, wantErr = f.Value, api.OK
		}
	}
	if s, e := record.Get(r, key); s != want || e != wantErr {
		t.Errorf("Get(%v, %q) = %q, %v, want %q, %v", r, key, s, e, want, wantErr)
	}
}

// compareSet takes the one with the same key out, and puts f behind all that is below it.
func compareSet(t *testing.T, r api.Record, f api.Field) {
	t.Helper()
	want, wantErr := r, api.OK
	want.Fields = nil
	for _, other := range r.Fields {
		if other.Key != f.Key {
			want.Fields = append(want.Fields, other)
		}
	}
	want.Fields = append(want.Fields, f)
	slices.SortFunc(want.Fields, func(a, b api.Field) int { return strings.Compare(a.Key, b.Key) })
	if len(want.Fields) > 6 {
		want, wantErr = api.Record{}, api.ErrLarge
	}
	if got, e := record.Set(r, f); !isSame(got, want) || e != wantErr {
		t.Errorf("Set(%v, %v) = %v, %v, want %v, %v", r, f, got, e, want, wantErr)
	}
}

// P18: ahead of all, between, behind all, and in the place of one.
func TestSet(t *testing.T) {
	r := api.Record{Id: "a", Cats: 5, Fields: []api.Field{{Key: "k", Value: "v"}, {Key: "m"}}, Refs: []string{"b"}}
	tests := []struct {
		f    api.Field
		want []api.Field
	}{
		{api.Field{Key: "a", Value: "w"}, []api.Field{{Key: "a", Value: "w"}, {Key: "k", Value: "v"}, {Key: "m"}}},
		{api.Field{Key: "l", Value: "w"}, []api.Field{{Key: "k", Value: "v"}, {Key: "l", Value: "w"}, {Key: "m"}}},
		{api.Field{Key: "z"}, []api.Field{{Key: "k", Value: "v"}, {Key: "m"}, {Key: "z"}}},
		{api.Field{Key: "k", Value: "w"}, []api.Field{{Key: "k", Value: "w"}, {Key: "m"}}},
		{api.Field{Key: "k"}, []api.Field{{Key: "k"}, {Key: "m"}}},
		{api.Field{Key: "m", Value: "123456789012"}, []api.Field{{Key: "k", Value: "v"}, {Key: "m", Value: "123456789012"}}},
	}
	for _, x := range tests {
		want := api.Record{Id: "a", Cats: 5, Fields: x.want, Refs: []string{"b"}}
		if got, e := record.Set(r, x.f); !isSame(got, want) || e != api.OK {
			t.Errorf("Set(%v, %v) = %v, %v", r, x.f, got, e)
		}
	}
}

// P18: a field that is none, with few fields, with as many as there may be
// (ErrForm is told ahead of ErrLarge), and for a key that is there.
func TestSetRefuses(t *testing.T) {
	few := api.Record{Id: "a", Cats: 255, Fields: fieldsOf("k")}
	full := api.Record{Id: "a", Fields: fieldsOf("a", "b", "c", "d", "e", "k")}
	for _, r := range []api.Record{{Id: "a"}, few, full} {
		for _, key := range badNames() {
			for _, value := range []string{"", "v", ";"} {
				refuseSet(t, r, api.Field{Key: key, Value: value}, api.ErrForm)
			}
		}
		for _, value := range badValues() {
			for _, key := range []string{"k", "z"} {
				refuseSet(t, r, api.Field{Key: key, Value: value}, api.ErrForm)
			}
		}
	}
	for _, key := range []string{"0", "aa", "f", "z"} {
		refuseSet(t, full, api.Field{Key: key, Value: "v"}, api.ErrLarge)
	}
}

func refuseSet(t *testing.T, r api.Record, f api.Field, want api.Errno) {
	t.Helper()
	if got, e := record.Set(r, f); !isZero(got) || e != want {
		t.Errorf("Set(%v, %v) = %v, %v, want %v", r, f, got, e, want)
	}
}

// P16, P17, P18: many records, good and bad, held against the plain models.
func TestManyRecords(t *testing.T) {
	n := rand.New(rand.NewPCG(3, 14))
	for range 20000 {
		r := someRecord(n)
		compareCheck(t, r)
		if record.Check(r) != api.OK {
			continue
		}
		for range 5 {
			compareGet(t, r, someName(n))
			compareSet(t, r, api.Field{Key: someName(n), Value: "v"})
		}
	}
}

func someName(n *rand.Rand) string {
	b := make([]byte, 1+n.IntN(2))
	for i := range b {
		b[i] = "019abz"[n.IntN(6)]
	}
	return string(b)
}

// someRecord is most often a record, and now and then just none.
func someRecord(n *rand.Rand) api.Record {
	r := api.Record{Id: someName(n), Cats: n.IntN(258) - 1}
	for range n.IntN(8) {
		r.Fields = append(r.Fields, api.Field{Key: someName(n), Value: someName(n)})
	}
	for range n.IntN(6) {
		r.Refs = append(r.Refs, someName(n))
	}
	if n.IntN(8) > 0 {
		slices.SortFunc(r.Fields, func(a, b api.Field) int { return strings.Compare(a.Key, b.Key) })
		slices.Sort(r.Refs)
	}
	if n.IntN(8) > 0 {
		r.Fields = slices.CompactFunc(r.Fields, func(a, b api.Field) bool { return a.Key == b.Key })
		r.Refs = slices.Compact(r.Refs)
	}
	return r
}

// P2: neither a list nor the room behind it is changed.
func TestListsStay(t *testing.T) {
	fields, refs := fieldsOf("b", "d", "f", "h", "z", "y"), []string{"b", "d", "x", "w"}
	fieldsBefore, refsBefore := slices.Clone(fields), slices.Clone(refs)
	for n := range len(fields) + 1 {
		for m := range len(refs) + 1 {
			r := api.Record{Id: "a", Fields: fields[:n], Refs: refs[:m]}
			record.Check(r)
			record.Write(r)
			for _, key := range []string{"a", "b", "c", "d", "e", "f", "z", "A"} {
				record.Get(r, key)
				record.Set(r, api.Field{Key: key, Value: "new"})
			}
		}
	}
	if !slices.Equal(fields, fieldsBefore) || !slices.Equal(refs, refsBefore) {
		t.Errorf("the lists are %v, %v, were %v, %v", fields, refs, fieldsBefore, refsBefore)
	}
}

// P2: what Set answers shares no memory with what it was given, spare room
// included: neither sees what becomes of the other.
func TestSetAnswersNewMemory(t *testing.T) {
	for _, key := range []string{"a", "b", "c", "f", "g"} {
		for n := range 5 {
			fields, refs := fieldsOf("b", "d", "f", "h", "j", "l"), []string{"b", "d", "f", "h"}
			r := api.Record{Id: "a", Fields: fields[:n], Refs: refs[:n]}
			got, e := record.Set(r, api.Field{Key: key, Value: "new"})
			want := api.Record{Id: "a", Fields: slices.Clone(got.Fields), Refs: slices.Clone(got.Refs)}
			fieldsBefore, refsBefore := slices.Clone(fields), slices.Clone(refs)
			wipe(got)
			if !slices.Equal(fields, fieldsBefore) || !slices.Equal(refs, refsBefore) || e != api.OK {
				t.Errorf("with %q: the lists are %v, %v, %v", key, fields, refs, e)
			}
			got, _ = record.Set(r, api.Field{Key: key, Value: "new"})
			wipe(api.Record{Fields: fields, Refs: refs})
			if !isSame(got, want) {
				t.Errorf("with %q: the answer is %v, was %v", key, got, want)
			}
		}
	}
}

// wipe writes over the lists of r, and the room behind them.
func wipe(r api.Record) {
	fields, refs := r.Fields[:cap(r.Fields)], r.Refs[:cap(r.Refs)]
	for i := range fields {
		fields[i] = api.Field{Key: "wiped", Value: "wiped"}
	}
	for i := range refs {
		refs[i] = "wiped"
	}
}

// P2: what is answered hangs on the record as it is now.
func TestNothingIsKept(t *testing.T) {
	r := api.Record{Id: "a", Fields: fieldsOf("b", "d"), Refs: []string{"x"}}
	record.Check(r)
	record.Get(r, "b")
	record.Set(r, api.Field{Key: "c"})
	record.Write(r)
	r.Fields[0], r.Refs[0] = api.Field{Key: "a", Value: "v"}, "y"
	_, e := record.Get(r, "b")
	v, f := record.Get(r, "a")
	s, g := record.Write(r)
	if v != "v" || s != "a;0;a=v,d=D;y" || e != api.ErrNone || f != api.OK || g != api.OK {
		t.Error(v, s, e, f, g)
	}
	r.Refs[0] = "Y"
	if e := record.Check(r); e != api.ErrForm {
		t.Error(e)
	}
}
