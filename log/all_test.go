package log_test

import (
	"math/rand/v2"
	"reflect"
	"slices"
	"strings"
	"testing"

	"withy/api"
	"withy/log"
	"withy/server"
	"withy/storetest"
)

func checkAll(t *testing.T, s string, want []api.Op, wantBytes int) {
	t.Helper()
	if l, n, e := log.All(s); !slices.Equal(texts(l), texts(want)) || n != wantBytes || e != api.OK {
		t.Fatalf("All(%.300q) = %v, %v, %v, want %v, %v", s, texts(l), n, e, texts(want), wantBytes)
	}
}

// refuseAll looks, too, whether anything but the error is answered.
func refuseAll(t *testing.T, s string, want api.Errno) {
	t.Helper()
	if l, n, e := log.All(s); len(l) != 0 || n != 0 || e != want {
		t.Fatalf("All(%.300q) = %v, %v, %v, want %v", s, texts(l), n, e, want)
	}
}

// goodLog answers all good lines together, and what they say.
func goodLog() (string, []api.Op) {
	all := ""
	var ops []api.Op
	for _, x := range goodLines() {
		all += line(x.said)
		ops = append(ops, x.o)
	}
	return all, ops
}

// P48: all lines; what is cut off behind them is not told, whatever it is.
func TestAll(t *testing.T) {
	s, ops := goodLog()
	for _, more := range []string{"", "x", "cut", "rules =1651", "rules =1652", " =", "\x00", strings.Repeat("x", 100)} {
		checkAll(t, s+more, ops, len(s))
		checkAll(t, more, nil, 0)
	}
	for _, x := range goodLines() {
		checkAll(t, line(x.said), []api.Op{x.o}, len(line(x.said)))
		checkAll(t, line(x.said)+line(x.said), []api.Op{x.o, x.o}, 2*len(line(x.said)))
	}
}

// P48: the first line that is wrong tells its error, and nothing else is answered.
func TestAllRefuses(t *testing.T) {
	s, _ := goodLog()
	bad := map[string]api.Errno{
		"\n":                       api.ErrWord,
		"rules\n":                  api.ErrWord,
		"rules =1652\n":            api.ErrSum,
		"rules =01651\n":           api.ErrWord,
		line("x"):                  api.ErrWord,
		line("cut 0 0 0 A 1"):      api.ErrForm,
		line("cut 8 0 0 a 1"):      api.ErrArg,
		line("put 0 0 0 A;0;;"):    api.ErrWord,
		line("rules 0 0 0 0 0 no"): api.ErrForm,
		line("rules" + strings.Repeat(" 0 0 0 1 0 yes", 21)): api.ErrLarge,
	}
	for one, want := range bad {
		refuseAll(t, one, want)
		refuseAll(t, one+s, want)
		refuseAll(t, s+one, want)
		refuseAll(t, s+one+"x", want)
		for other := range bad {
			refuseAll(t, one+other, want)
			refuseAll(t, s+one+s+other, want)
		}
		checkAll(t, strings.TrimSuffix(one, "\n"), nil, 0)
	}
}

// P48: just up to 20000 bytes, what is cut off among them.
func TestAllBound(t *testing.T) {
	rules := strings.Repeat("rules =1651\n", 1666)
	ops := slices.Repeat([]api.Op{rulesOf()}, 1666)
	checkAll(t, rules, ops, 19992)
	checkAll(t, rules+"rules =1", ops, 19992)
	for _, more := range []string{"rules =16", "rules =1651\n", "xxxxxxxx\n", strings.Repeat("x", 1<<24)} {
		refuseAll(t, rules+more, api.ErrLarge)
	}
	checkAll(t, strings.Repeat("x", 20000), nil, 0)
	refuseAll(t, strings.Repeat("x", 20001), api.ErrLarge)
	refuseAll(t, strings.Repeat("\n", 20000), api.ErrWord)
	refuseAll(t, strings.Repeat("\n", 20001), api.ErrLarge)
	refuseAll(t, "rules =1652\n"+rules+"rules =1\n", api.ErrLarge)

	full := "rules" + strings.Repeat(" -1 -1 100 1000 255 yes", 20)
	long := strings.Repeat(line(full), 20000/len(line(full)))
	l, n, e := log.All(long)
	if len(l) != 20000/len(line(full)) || n != len(long) || e != api.OK {
		t.Error(len(l), n, e)
	}
}

// P48: of many logs, broken off or damaged, Read says line by line what there is.
func TestAllLineByLine(t *testing.T) {
	n := rand.New(rand.NewPCG(48, 84))
	codes := map[api.Errno]int{}
	for range 3000 {
		s := someLog(n)
		var want []api.Op
		end := 0
		o, size, e := wantRead(s)
		for e == api.OK {
			want = append(want, o)
			end += size
			o, size, e = wantRead(s[end:])
		}
		codes[e]++
		if e == api.ErrShort {
			checkAll(t, s, want, end)
		} else {
			refuseAll(t, s, e)
		}
	}
	checkTold(t, codes, api.ErrArg, api.ErrForm, api.ErrShort, api.ErrSum, api.ErrWord)
}

// someLog answers some lines, of which now and then one is not good, and now
// and then a byte is damaged.
func someLog(n *rand.Rand) string {
	s := ""
	for range n.IntN(8) {
		o := someOp(n)
		if wantCheck(o) == api.OK || n.IntN(8) == 0 {
			s += line(wantSaid(o))
		}
	}
	if s != "" && n.IntN(3) == 0 {
		i := n.IntN(len(s))
		s = s[:i] + string([]byte{byte(n.Uint32())}) + s[i+1:]
	}
	return s[:len(s)-n.IntN(len(s)+1)*n.IntN(2)]
}

// state is all that a log makes of a server.
func state(s *server.Server) string {
	return strings.Join(storetest.Texts(s.Versions()), " ") + text(rulesOf(s.Rules()...))
}

// someChange answers what changes a server now and then.
func someChange(n *rand.Rand) api.Op {
	names := storetest.Names()
	w := api.Who{Role: n.IntN(3), Why: n.IntN(4), Time: n.IntN(1000)}
	switch id, cats := names[n.IntN(len(names))], n.IntN(4); n.IntN(6) {
	case 0:
		return rulesOf(
			api.Rule{Role: n.IntN(3), Why: -1, To: 1000, Cats: 3, Allow: true},
			api.Rule{Role: -1, Why: n.IntN(4), From: n.IntN(500), To: 1000, Cats: n.IntN(4), Allow: n.IntN(4) > 0},
		)
	case 1, 2:
		return cut(w, id, cats)
	default:
		return put(w, storetest.Record(id, cats, n.IntN))
	}
}

// P46, P47, P48: a log that breaks off anywhere makes a server that the first one was.
func TestLogMakesServer(t *testing.T) {
	n := rand.New(rand.NewPCG(9, 48))
	up := []int{0, 1, 2}
	for range 3 {
		first, _ := server.New(up)
		all := ""
		ends, states := []int{0}, []string{state(first)}
		for len(states) < 25 {
			o := someChange(n)
			if first.Do(o).Code != api.OK {
				continue
			}
			s, e := log.Write(o)
			if e != api.OK {
				t.Fatalf("Write(%v) = %v", text(o), e)
			}
			all += s
			ends, states = append(ends, len(all)), append(states, state(first))
		}
		for i := range len(all) + 1 {
			k, isEnd := slices.BinarySearch(ends, i)
			if !isEnd {
				k--
			}
			compareServer(t, up, all[:i], ends[k], states[k])
		}
	}
}

// compareServer makes a server of the log, and holds it against how the first one was.
func compareServer(t *testing.T, up []int, s string, wantBytes int, want string) {
	t.Helper()
	l, n, e := log.All(s)
	if n != wantBytes || e != api.OK {
		t.Fatalf("All(%q) = %v, %v, want %v", s, n, e, wantBytes)
	}
	second, _ := server.New(up)
	for _, o := range l {
		if told := second.Do(o); told.Code != api.OK {
			t.Fatalf("Do(%v) = %v", text(o), told.Code)
		}
	}
	if state(second) != want {
		t.Fatalf("of %q there comes %v, want %v", s, state(second), want)
	}
}

// roomy answers o with room behind each list in it, and something in all that room.
func roomy(o api.Op) api.Op {
	o.Rules = append(slices.Clone(o.Rules), api.Rule{Role: 7}, api.Rule{Why: 3})[:len(o.Rules)]
	o.Record = storetest.Roomy([]api.Version{{Record: o.Record}})[0].Record
	return o
}

// room answers a copy of all lists in o, and of the room behind them.
func room(o api.Op) []any {
	return []any{slices.Clone(o.Rules[:cap(o.Rules)]), storetest.Room([]api.Version{{Record: o.Record}})[0]}
}

// wipe writes over all lists in o, and over the room behind them.
func wipe(o api.Op) {
	clear(o.Rules[:cap(o.Rules)])
	storetest.Wipe([]api.Version{{Record: o.Record}})
}

// P2: what is handed in is not changed, the room behind its lists included.
func TestOpsAreNotChanged(t *testing.T) {
	ops := []api.Op{}
	for _, x := range goodLines() {
		ops = append(ops, x.o, noisy(x.o))
	}
	for _, x := range badOps() {
		ops = append(ops, x.o)
	}
	for _, o := range ops {
		o = roomy(o)
		before, was := room(o), text(o)
		log.Check(o)
		log.Write(o)
		if !reflect.DeepEqual(room(o), before) || text(o) != was {
			t.Errorf("the op is %v, was %v", text(o), was)
		}
	}
}

// P2: what Read and All answer is new memory, each list for itself, whether or
// not lines are the same.
func TestAnswersAreNewMemory(t *testing.T) {
	for _, x := range goodLines() {
		s := line(x.said)
		first, _, _ := log.Read(s)
		second, _, _ := log.Read(s)
		wipe(first)
		if text(second) != text(x.o) {
			t.Errorf("an answer has become %v, was %v", text(second), text(x.o))
		}
		checkRead(t, s, x.o, len(s))
		l, _, _ := log.All(s + s + s)
		other, _, _ := log.All(s + s + s)
		for i := range l {
			wipe(l[i])
			l[i] = api.Op{}
			for _, o := range append(slices.Clone(l[i+1:]), other...) {
				if text(o) != text(x.o) {
					t.Errorf("an answer has become %v, was %v", text(o), text(x.o))
				}
			}
		}
	}
}

// P2: what was asked ahead of it changes nothing.
func TestNothingIsKept(t *testing.T) {
	s, ops := goodLog()
	for range 3 {
		refuseAll(t, s+line("x"), api.ErrWord)
		refuseRead(t, "rules =1652\n", api.ErrSum)
		checkAll(t, s, ops, len(s))
		checkRead(t, s, ops[0], len("rules =1651\n"))
		for _, x := range badOps() {
			if e := log.Check(x.o); e != x.want {
				t.Errorf("Check(%v) = %v, want %v", text(x.o), e, x.want)
			}
		}
	}
}
