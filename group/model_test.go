package group_test

import (
	"math/rand/v2"
	"slices"
	"strings"
	"testing"

	"withy/api"
	"withy/group"
	"withy/log"
	"withy/server"
)

// model goes by the words of the chapter: it looks for all errors, entry by entry.
type model struct {
	nodes [][]string
	tells [][]int // all that each node told
}

func newModel(n int) *model {
	return &model{nodes: make([][]string, n), tells: make([][]int, n)}
}

// errorIf answers the first of these errors that applies.
func errorIf(errors ...any) api.Errno {
	for i := 0; i < len(errors); i += 2 {
		if errors[i].(bool) {
			return errors[i+1].(api.Errno)
		}
	}
	return api.OK
}

func (m *model) follows(i int) bool { return i > 0 && i < len(m.nodes) }

// has answers how many entries node i has; of no node none.
func (m *model) has(i int) int {
	if i < 0 || i >= len(m.nodes) {
		return 0
	}
	return len(m.nodes[i])
}

func (m *model) told(i int) int {
	if !m.follows(i) {
		return 0
	}
	return slices.Max(append(slices.Clone(m.tells[i]), 0))
}

// other tells whether node i has another one in the place of one of l.
func (m *model) other(i, from int, l []string) bool {
	for k, s := range l {
		if place := from + k; place >= 0 && place < m.has(i) && m.nodes[i][place] != s {
			return true
		}
	}
	return false
}

func (m *model) add(s string) (int, api.Errno) {
	if e := errorIf(m.has(0) == 60, api.ErrLarge); e != api.OK {
		return 0, e
	}
	m.nodes[0] = append(m.nodes[0], s)
	return m.has(0), api.OK
}

func (m *model) send(i, from int) ([]string, api.Errno) {
	if e := errorIf(!m.follows(i), api.ErrNone, from < 0 || from > m.has(0), api.ErrArg); e != api.OK {
		return nil, e
	}
	return m.nodes[0][from:], api.OK
}

func (m *model) take(i, from int, l []string) (int, api.Errno) {
	e := errorIf(
		!m.follows(i), api.ErrNone,
		from < 0 || len(l) > 60, api.ErrArg,
		from > m.has(i), api.ErrGap,
		m.other(i, from, l), api.ErrForm,
		from+len(l) > 60, api.ErrLarge,
	)
	if e != api.OK {
		return 0, e
	}
	for k, s := range l {
		if from+k == m.has(i) {
			m.nodes[i] = append(m.nodes[i], s)
		}
	}
	return m.has(i), api.OK
}

func (m *model) ack(i, n int) api.Errno {
	e := errorIf(!m.follows(i), api.ErrNone, n < 0 || n > m.has(i) || n > m.has(0), api.ErrArg)
	if e == api.OK {
		m.tells[i] = append(m.tells[i], n)
	}
	return e
}

func (m *model) lose(i, n int) api.Errno {
	e := errorIf(!m.follows(i), api.ErrNone, n < m.told(i) || n > m.has(i), api.ErrArg)
	if e == api.OK {
		m.nodes[i] = slices.Clone(m.nodes[i][:n])
	}
	return e
}

// sure tries all numbers.
func (m *model) sure() int {
	for n := 60; ; n-- {
		tell := 0
		for i := range m.nodes {
			if i == 0 && m.has(0) >= n || i > 0 && m.told(i) >= n {
				tell++
			}
		}
		if 2*tell > len(m.nodes) {
			return n
		}
	}
}

// compare holds g against m, and looks for what always holds of what is sure:
// more than half of all nodes have as many.
func compare(t *testing.T, g *group.Group, m *model) {
	t.Helper()
	for i, l := range m.nodes {
		checkLog(t, g, i, l...)
	}
	checkSure(t, g, m.sure())
	have := 0
	for _, l := range m.nodes {
		if len(l) >= g.Sure() {
			have++
		}
	}
	if 2*have <= len(m.nodes) {
		t.Fatalf("%d are sure, and there are %q", g.Sure(), m.nodes)
	}
}

// someEntries are, most times, what the leader has from that place on.
func someEntries(n *rand.Rand, m *model, from int) []string {
	l := []string{}
	if from >= 0 && from <= m.has(0) {
		l = slices.Clone(m.nodes[0][from:])
	}
	for range n.IntN(3) {
		l = append(l, string(rune('a'+n.IntN(3))))
	}
	switch n.IntN(12) {
	case 0:
		return slices.Repeat(append(l, "a"), 1+n.IntN(70))
	case 1:
		if len(l) > 0 {
			l[n.IntN(len(l))] = "x"
		}
	}
	return l[:n.IntN(len(l)+1)]
}

// step asks both for the same, and answers the error.
func step(t *testing.T, n *rand.Rand, g *group.Group, m *model) api.Errno {
	t.Helper()
	i := n.IntN(len(m.nodes)+2) - 1
	k := n.IntN(m.has(i)+4) - 2
	switch n.IntN(6) {
	case 0:
		s := string(rune('a' + n.IntN(3)))
		want, e := m.add(s)
		if got, f := g.Add(s); got != want || f != e {
			t.Fatalf("Add(%q) = %d, %v, want %d, %v", s, got, f, want, e)
		}
		return e
	case 1:
		want, e := m.send(i, k)
		if got, f := g.Send(i, k); !slices.Equal(got, want) || f != e {
			t.Fatalf("Send(%d, %d) = %q, %v, want %q, %v", i, k, got, f, want, e)
		}
		return e
	case 2, 3:
		l := someEntries(n, m, k)
		want, e := m.take(i, k, l)
		if got, f := g.Take(i, k, l); got != want || f != e {
			t.Fatalf("Take(%d, %d, %q) = %d, %v, want %d, %v", i, k, l, got, f, want, e)
		}
		return e
	case 4:
		e := m.ack(i, k)
		if f := g.Ack(i, k); f != e {
			t.Fatalf("Ack(%d, %d) = %v, want %v", i, k, f, e)
		}
		return e
	default:
		e := m.lose(i, k)
		if f := g.Lose(i, k); f != e {
			t.Fatalf("Lose(%d, %d) = %v, want %v", i, k, f, e)
		}
		return e
	}
}

// P49 to P56: many groups, each asked for much, held against the model; one that
// changed where it should not would say so later on.
func TestManyGroups(t *testing.T) {
	n := rand.New(rand.NewPCG(49, 56))
	codes := map[api.Errno]int{}
	for round := range 100 {
		nodes := 1 + round%5
		g, m := newGroup(t, nodes), newModel(nodes)
		for range 500 {
			codes[step(t, n, g, m)]++
			compare(t, g, m)
		}
	}
	t.Log("codes:", codes)
	for _, e := range []api.Errno{api.OK, api.ErrArg, api.ErrLarge, api.ErrForm, api.ErrNone, api.ErrGap} {
		if codes[e] == 0 {
			t.Error("the error was never told:", e)
		}
	}
}

// checkBegun looks for what always holds, where followers take what the leader
// sends: each has how the leader began, and what is sure more than half have.
func checkBegun(t *testing.T, g *group.Group, nodes, wasSure int) {
	t.Helper()
	all, sure := logs(g), g.Sure()
	have := 0
	for _, l := range all {
		if len(l) > len(all[0]) || !slices.Equal(l, all[0][:len(l)]) {
			t.Fatalf("the leader did not begin so: %q", all)
		}
		if len(l) >= sure {
			have++
		}
	}
	if 2*have <= nodes || sure < wasSure {
		t.Fatalf("%d are sure, were %d, and there are %q", sure, wasSure, all)
	}
}

// Of what is sure more than half of all nodes have all, and each has how the
// leader began: what is sent comes late, twice, or not at all, and followers
// lose what they may.
func TestWhatIsSure(t *testing.T) {
	n := rand.New(rand.NewPCG(51, 56))
	for round := range 60 {
		nodes := 1 + round%5
		g := newGroup(t, nodes)
		type message struct {
			i, from int
			l       []string
		}
		var under []message // on the way
		for range 400 {
			wasSure := g.Sure()
			i, from := n.IntN(nodes+1), n.IntN(12)
			switch n.IntN(6) {
			case 0:
				g.Add(string(rune('a' + n.IntN(2))))
			case 1:
				if l, e := g.Send(i, from); e == api.OK {
					under = append(under, message{i, from, l})
				}
			case 2, 3:
				if len(under) > 0 {
					x := under[n.IntN(len(under))]
					if _, e := g.Take(x.i, x.from, x.l); e != api.OK && e != api.ErrGap {
						t.Fatalf("Take(%d, %d, %q) = %v", x.i, x.from, x.l, e)
					}
				}
			case 4:
				g.Ack(i, from)
			default:
				g.Lose(i, from)
			}
			checkBegun(t, g, nodes, wasSure)
		}
	}
}

// A follower that took what the leader has of a log makes the server that the
// first one was.
func TestFollowerMakesServer(t *testing.T) {
	g := newGroup(t, 3)
	who := api.Who{Role: 0, Why: 1, Time: 2}
	first, _ := server.New([]int{0})
	for _, o := range []api.Op{
		{Kind: api.DoRules, Rules: []api.Rule{{Role: 0, Why: -1, To: 1000, Cats: 3, Allow: true}}},
		{Kind: api.DoPut, Who: who, Record: api.Record{Id: "a", Cats: 1, Refs: []string{"b"}}},
		{Kind: api.DoPut, Who: who, Record: api.Record{Id: "b", Cats: 3}},
		{Kind: api.DoCut, Who: who, Id: "a", Record: api.Record{Cats: 1}},
	} {
		if told := first.Do(o); told.Code != api.OK {
			t.Fatal(o, told.Code)
		}
		s, _ := log.Write(o)
		g.Add(s)
	}
	sent, _ := g.Send(2, 0)
	take(t, g, 2, 0, sent[:3], 3)
	sent, _ = g.Send(2, 3)
	take(t, g, 2, 3, sent, 4)
	l, _ := g.Log(2)
	ops, _, e := log.All(strings.Join(l, ""))
	if e != api.OK {
		t.Fatal(l, e)
	}
	second, _ := server.New([]int{0})
	for _, o := range ops {
		second.Do(o)
	}
	want, got := first.Versions(), second.Versions()
	if len(got) != 3 || len(want) != 3 || !slices.Equal(second.Rules(), first.Rules()) {
		t.Fatal(got, want, second.Rules())
	}
	for i := range want {
		if got[i].Gone != want[i].Gone || got[i].Record.Id != want[i].Record.Id || got[i].Record.Cats != want[i].Record.Cats {
			t.Error(got[i], want[i])
		}
	}
}
