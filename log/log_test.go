package log_test

import (
	"fmt"
	"math"
	"math/big"
	"math/rand/v2"
	"slices"
	"strings"
	"testing"

	"withy/api"
	"withy/log"
	"withy/record"
	"withy/rule"
	"withy/storetest"
)

var who = api.Who{Role: 1, Why: 2, Time: 3}

func rulesOf(l ...api.Rule) api.Op { return api.Op{Kind: api.DoRules, Rules: l} }
func put(w api.Who, r api.Record) api.Op {
	return api.Op{Kind: api.DoPut, Who: w, Record: r}
}
func cut(w api.Who, id string, cats int) api.Op {
	return api.Op{Kind: api.DoCut, Who: w, Id: id, Record: api.Record{Cats: cats}}
}

// text is all that o says; no list and an empty one are the same.
func text(o api.Op) string {
	r := o.Record
	return fmt.Sprintf("%d %v %v %q %d %q %q %q %q", o.Kind, o.Who, o.Rules, r.Id, r.Cats, r.Fields, r.Refs, o.Id, o.Field)
}

func texts(l []api.Op) []string {
	var all []string
	for _, o := range l {
		all = append(all, text(o))
	}
	return all
}

// noisy answers o with something in each part that its Kind does not name.
func noisy(o api.Op) api.Op {
	bad := api.Op{Who: api.Who{Role: 9, Why: 9, Time: 9999}, Rules: make([]api.Rule, 21), Record: storetest.Of("n;9;k=v;b")[0].Record, Id: "A", Field: api.Field{Key: "K", Value: "="}}
	switch o.Kind {
	case api.DoRules:
		bad.Record.Cats = -1
		bad.Rules = o.Rules
	case api.DoPut:
		bad.Who, bad.Record = o.Who, o.Record
	case api.DoCut:
		bad.Who, bad.Id = o.Who, o.Id
		bad.Record = api.Record{Id: "A", Cats: o.Record.Cats, Fields: make([]api.Field, 7), Refs: make([]string, 5)}
	}
	bad.Kind = o.Kind
	return bad
}

type goodLine struct {
	o    api.Op
	said string
}

// goodLines are ops, each with what a line says of it, ahead of its sum.
func goodLines() []goodLine {
	all := []goodLine{
		{rulesOf(), "rules"},
		{rulesOf(api.Rule{Role: -1, Why: -1, To: 9, Cats: 3, Allow: true}), "rules -1 -1 0 9 3 yes"},
		{rulesOf(api.Rule{Role: -1, Why: -1, To: 9, Cats: 3, Allow: true}, api.Rule{Role: 1, Why: 2, From: 3, To: 4}), "rules -1 -1 0 9 3 yes 1 2 3 4 0 no"},
		{rulesOf(api.Rule{Role: 7, Why: 3, From: 999, To: 1000, Cats: 255}, api.Rule{To: 1}), "rules 7 3 999 1000 255 no 0 0 0 1 0 no"},
		{rulesOf(slices.Repeat([]api.Rule{{Why: -1, To: 10, Cats: 8, Allow: true}}, 20)...), "rules" + strings.Repeat(" 0 -1 0 10 8 yes", 20)},
		{cut(api.Who{}, "a", 1), "cut 0 0 0 a 1"},
		{cut(who, "a1", 0), "cut 1 2 3 a1 0"},
		{cut(api.Who{Role: 7, Why: 3, Time: 999}, "12345678", 255), "cut 7 3 999 12345678 255"},
	}
	for _, record := range []string{"a;0;;", "a;1;;b", "a1;5;k=v;b", "abcdefgh;255;12345678=123456789012,a=,b=!,c=--,d=0,e=~;a,b,c,d", "a;0;k=;", "put;7;rules=yes;no"} {
		r := storetest.Of(record)[0].Record
		all = append(all, goodLine{put(who, r), "put 1 2 3 " + record})
		all = append(all, goodLine{put(api.Who{Role: 7, Why: 3, Time: 999}, r), "put 7 3 999 " + record})
	}
	return append(all, goodLine{put(api.Who{}, api.Record{Id: "a"}), "put 0 0 0 a;0;;"})
}

func badWhos() []api.Who {
	return []api.Who{
		{Role: -1}, {Role: 8}, {Why: -1}, {Why: 4}, {Time: -1}, {Time: 1000}, {Role: -1, Why: -1, Time: -1},
		{Role: math.MaxInt}, {Role: math.MinInt}, {Why: math.MaxInt}, {Why: math.MinInt}, {Time: math.MaxInt}, {Time: math.MinInt},
	}
}

type badOp struct {
	o    api.Op
	want api.Errno
}

// badOps are ops that no log has, with their errors.
func badOps() []badOp {
	good := api.Rule{To: 1}
	bad := []badOp{
		{rulesOf(api.Rule{}), api.ErrForm},
		{rulesOf(good, api.Rule{From: 2, To: 2}), api.ErrForm},
		{rulesOf(api.Rule{Role: -2, To: 1}), api.ErrArg},
		{rulesOf(api.Rule{Role: 8, To: 1}), api.ErrArg},
		{rulesOf(api.Rule{Why: -2, To: 1}), api.ErrArg},
		{rulesOf(api.Rule{Why: 4, To: 1}), api.ErrArg},
		{rulesOf(api.Rule{From: -1, To: 1}), api.ErrArg},
		{rulesOf(api.Rule{To: 1001}), api.ErrArg},
		{rulesOf(good, good, api.Rule{To: 1, Cats: -1}), api.ErrArg},
		{rulesOf(api.Rule{To: 1, Cats: 256}), api.ErrArg},
		{rulesOf(make([]api.Rule, 21)...), api.ErrLarge},
		{rulesOf(slices.Repeat([]api.Rule{good}, 21)...), api.ErrLarge},
		{put(who, api.Record{}), api.ErrForm},
		{put(who, api.Record{Id: "A"}), api.ErrForm},
		{put(who, api.Record{Id: "a", Cats: -1}), api.ErrArg},
		{put(who, api.Record{Id: "a", Cats: 256}), api.ErrArg},
		{put(who, api.Record{Id: "a", Fields: make([]api.Field, 7)}), api.ErrLarge},
		{put(who, api.Record{Id: "a", Refs: make([]string, 5)}), api.ErrLarge},
		{put(who, api.Record{Id: "a", Fields: []api.Field{{Key: "k", Value: " "}}}), api.ErrForm},
		{put(who, api.Record{Id: "a", Fields: []api.Field{{Key: "k", Value: "\n"}}}), api.ErrForm},
		{put(who, api.Record{Id: "a", Refs: []string{"b", "a"}}), api.ErrForm},
		{put(api.Who{Role: 8}, api.Record{}), api.ErrArg},
		{put(api.Who{Why: 4}, api.Record{Id: "a", Fields: make([]api.Field, 7)}), api.ErrArg},
		{cut(api.Who{Time: 1000}, "A", 1), api.ErrArg},
	}
	for _, w := range badWhos() {
		bad = append(bad, badOp{put(w, api.Record{Id: "a"}), api.ErrArg}, badOp{cut(w, "a", 1), api.ErrArg})
	}
	for _, cats := range []int{-1, 256, 257, 1 << 32, math.MinInt, math.MaxInt} {
		bad = append(bad, badOp{cut(who, "a", cats), api.ErrArg}, badOp{cut(who, "", cats), api.ErrArg})
	}
	for _, id := range []string{"", "A", "a b", " a", "a ", "a\n", "a=", "123456789", "\xff"} {
		bad = append(bad, badOp{cut(who, id, 1), api.ErrForm})
	}
	for _, kind := range []int{0, api.DoGet, api.DoFind, api.DoHist, api.DoBreak, api.DoAudit, 9, -1, math.MinInt, math.MaxInt} {
		o := put(who, api.Record{Id: "a"})
		o.Kind, o.Id = kind, "a"
		bad = append(bad, badOp{o, api.ErrForm}, badOp{api.Op{Kind: kind, Who: api.Who{Role: 8}, Rules: make([]api.Rule, 21)}, api.ErrForm})
	}
	return bad
}

// P44: what a log has; what the kind does not name is not looked at.
func TestCheck(t *testing.T) {
	for _, x := range goodLines() {
		for _, o := range []api.Op{x.o, noisy(x.o)} {
			if e := log.Check(o); e != api.OK {
				t.Errorf("Check(%v) = %v", text(o), e)
			}
		}
	}
}

// P44: what it has not, by which error.
func TestCheckRefuses(t *testing.T) {
	for _, x := range badOps() {
		for _, o := range []api.Op{x.o, noisy(x.o)} {
			if e := log.Check(o); e != x.want {
				t.Errorf("Check(%v) = %v, want %v", text(o), e, x.want)
			}
		}
	}
}

// wantCheck goes error by error, in their order.
func wantCheck(o api.Op) api.Errno {
	isWho := rule.Who(o.Who)
	cats := o.Record.Cats
	switch {
	case o.Kind == api.DoRules:
		return rule.Check(o.Rules)
	case o.Kind == api.DoPut && isWho:
		return record.Check(o.Record)
	case o.Kind == api.DoPut, o.Kind == api.DoCut && (!isWho || cats < 0 || cats > 255):
		return api.ErrArg
	case o.Kind == api.DoCut && record.Id(o.Id):
		return api.OK
	}
	return api.ErrForm
}

// some answers a number from low to high, and now and then one just outside.
func some(n *rand.Rand, low, high int) int {
	if n.IntN(30) == 0 {
		return low - 1 + n.IntN(2)*(high-low+2)
	}
	return low + n.IntN(high-low+1)
}

// someOp is good as to most of its parts.
func someOp(n *rand.Rand) api.Op {
	o := api.Op{Kind: some(n, 1, 3), Who: api.Who{Role: some(n, 0, 7), Why: some(n, 0, 3), Time: some(n, 0, 999)}}
	o.Id = append(storetest.Names(), "", "A")[min(n.IntN(30), 7)]
	o.Record = storetest.Record(o.Id, some(n, 0, 255), n.IntN)
	for range n.IntN(4) {
		from := some(n, 0, 998)
		o.Rules = append(o.Rules, api.Rule{Role: some(n, -1, 7), Why: some(n, -1, 3), From: from, To: some(n, from+1, 1000), Cats: some(n, 0, 255), Allow: n.IntN(2) == 0})
	}
	return o
}

// wantSaid goes by formats.
func wantSaid(o api.Op) string {
	w := o.Who
	switch o.Kind {
	case api.DoRules:
		s := "rules"
		for _, r := range o.Rules {
			allow := map[bool]string{true: "yes", false: "no"}[r.Allow]
			s += fmt.Sprintf(" %d %d %d %d %d %s", r.Role, r.Why, r.From, r.To, r.Cats, allow)
		}
		return s
	case api.DoPut:
		record := storetest.Texts([]api.Version{{Record: o.Record}})[0]
		return fmt.Sprintf("put %d %d %d %s", w.Role, w.Why, w.Time, record)
	}
	return fmt.Sprintf("cut %d %d %d %s %d", w.Role, w.Why, w.Time, o.Id, o.Record.Cats)
}

// wantOp answers o with just what its line says.
func wantOp(o api.Op) api.Op {
	switch o.Kind {
	case api.DoRules:
		return rulesOf(o.Rules...)
	case api.DoPut:
		return put(o.Who, o.Record)
	}
	return cut(o.Who, o.Id, o.Record.Cats)
}

// wantSum adds all up, and divides once.
func wantSum(s string) int {
	sum := new(big.Int)
	for i := range len(s) {
		sum.Add(sum, big.NewInt(int64(s[i])*int64(i+1)))
	}
	return int(sum.Mod(sum, big.NewInt(65521)).Int64())
}

// line answers the line that says this, with its sum.
func line(said string) string { return fmt.Sprintf("%s =%d\n", said, wantSum(said)) }

// P45: places count from 1 on, and bytes from 0 on.
func TestSum(t *testing.T) {
	zeros := strings.Repeat("\x00", 258)
	for s, want := range map[string]int{
		"":                                      0,
		"\x00":                                  0,
		"\x01":                                  1,
		"a":                                     97,
		"\xff":                                  255,
		"ab":                                    293,
		"ba":                                    292,
		"\x00a":                                 194,
		"a\x00":                                 97,
		"rules":                                 1651,
		"é":                                     0xc3 + 2*0xa9,
		"\x00" + zeros + "\xfc":                 65520,
		"\x01" + zeros + "\xfc":                 0,
		"\x02" + zeros + "\xfc":                 1,
		"\x02" + zeros + "\xfc\n":               1 + 2610,
		strings.Repeat("\x00", 65520) + "\xff":  0,
		strings.Repeat("\x00", 65521) + "\xff":  255,
		strings.Repeat("\x00", 131041) + "\x01": 0,
	} {
		if n := log.Sum(s); n != want {
			t.Errorf("Sum of %d bytes %.9q = %v, want %v", len(s), s, n, want)
		}
	}
}

// P45: long and short texts, of any bytes.
func TestSumOfManyTexts(t *testing.T) {
	n := rand.New(rand.NewPCG(45, 1))
	for _, length := range append([]int{255, 256, 65520, 65521, 65522, 1 << 20}, n.Perm(400)...) {
		b := make([]byte, length)
		for i := range b {
			b[i] = byte(n.Uint32() >> n.IntN(8))
		}
		for _, s := range []string{string(b), strings.Repeat("\xff", length)} {
			if got := log.Sum(s); got != wantSum(s) {
				t.Errorf("Sum of %d bytes %.9q = %v, want %v", length, s, got, wantSum(s))
			}
		}
	}
}

// P46: each kind, each word, and the sum behind.
func TestWrite(t *testing.T) {
	for _, x := range goodLines() {
		for _, o := range []api.Op{x.o, noisy(x.o)} {
			if s, e := log.Write(o); s != line(x.said) || e != api.OK {
				t.Errorf("Write(%v) = %q, %v, want %q", text(o), s, e, line(x.said))
			}
		}
	}
	if s, e := log.Write(rulesOf()); s != "rules =1651\n" || e != api.OK {
		t.Errorf("Write = %q, %v", s, e)
	}
}

// P46, P2: Check's error, and no text.
func TestWriteRefuses(t *testing.T) {
	for _, x := range badOps() {
		if s, e := log.Write(x.o); s != "" || e != x.want {
			t.Errorf("Write(%v) = %q, %v, want %v", text(x.o), s, e, x.want)
		}
	}
}

// P44, P46, P47: many ops, held against the model, and read as they were.
func TestManyOps(t *testing.T) {
	n := rand.New(rand.NewPCG(44, 47))
	codes := map[api.Errno]int{}
	for range 30000 {
		o := someOp(n)
		want := wantCheck(o)
		codes[want]++
		if e := log.Check(o); e != want {
			t.Fatalf("Check(%v) = %v, want %v", text(o), e, want)
		}
		wantLine := ""
		if want == api.OK {
			wantLine = line(wantSaid(o))
		}
		s, e := log.Write(o)
		if s != wantLine || e != want {
			t.Fatalf("Write(%v) = %q, %v, want %q, %v", text(o), s, e, wantLine, want)
		}
		if want == api.OK {
			checkRead(t, s, wantOp(o), len(s))
		}
	}
	if codes[api.OK] < 5000 || codes[api.ErrArg] < 1000 || codes[api.ErrForm] < 1000 {
		t.Error("codes:", codes)
	}
}
