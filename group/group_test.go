package group_test

import (
	"math"
	"slices"
	"strconv"
	"strings"
	"testing"

	"withy/api"
	"withy/group"
)

// entries answers n entries, that are all others.
func entries(n int) []string {
	var l []string
	for i := range n {
		l = append(l, "e"+strconv.Itoa(i))
	}
	return l
}

// newGroup answers a group of n nodes whose leader has these entries.
func newGroup(t *testing.T, n int, l ...string) *group.Group {
	t.Helper()
	g, e := group.New(n)
	if g == nil || e != api.OK {
		t.Fatalf("New(%d) = %v, %v", n, g, e)
	}
	for i, s := range l {
		add(t, g, s, i+1)
	}
	return g
}

func add(t *testing.T, g *group.Group, s string, want int) {
	t.Helper()
	if n, e := g.Add(s); n != want || e != api.OK {
		t.Fatalf("Add(%q) = %d, %v, want %d", s, n, e, want)
	}
}

func checkSend(t *testing.T, g *group.Group, i, from int, want ...string) {
	t.Helper()
	if l, e := g.Send(i, from); !slices.Equal(l, want) || e != api.OK {
		t.Fatalf("Send(%d, %d) = %q, %v, want %q", i, from, l, e, want)
	}
}

func take(t *testing.T, g *group.Group, i, from int, l []string, want int) {
	t.Helper()
	if n, e := g.Take(i, from, l); n != want || e != api.OK {
		t.Fatalf("Take(%d, %d, %q) = %d, %v, want %d", i, from, l, n, e, want)
	}
}

func ack(t *testing.T, g *group.Group, i, n int) {
	t.Helper()
	if e := g.Ack(i, n); e != api.OK {
		t.Fatalf("Ack(%d, %d) = %v", i, n, e)
	}
}

func lose(t *testing.T, g *group.Group, i, n int) {
	t.Helper()
	if e := g.Lose(i, n); e != api.OK {
		t.Fatalf("Lose(%d, %d) = %v", i, n, e)
	}
}

func checkSure(t *testing.T, g *group.Group, want int) {
	t.Helper()
	if n := g.Sure(); n != want {
		t.Fatalf("Sure() = %d, want %d", n, want)
	}
}

func checkLog(t *testing.T, g *group.Group, i int, want ...string) {
	t.Helper()
	if l, e := g.Log(i); !slices.Equal(l, want) || e != api.OK {
		t.Fatalf("Log(%d) = %q, %v, want %q", i, l, e, want)
	}
}

// logs answers what all nodes have.
func logs(g *group.Group) [][]string {
	var all [][]string
	for i := 0; ; i++ {
		l, e := g.Log(i)
		if e != api.OK {
			return all
		}
		all = append(all, l)
	}
}

// refusing looks, when it is called, whether g has changed.
func refusing(t *testing.T, g *group.Group) func() {
	t.Helper()
	before, sure := logs(g), g.Sure()
	return func() {
		t.Helper()
		if after := logs(g); !slices.EqualFunc(after, before, slices.Equal[[]string]) || g.Sure() != sure {
			t.Fatalf("it has become %q, %d, was %q, %d", after, g.Sure(), before, sure)
		}
	}
}

func refuseAdd(t *testing.T, g *group.Group, s string, want api.Errno) {
	t.Helper()
	defer refusing(t, g)()
	if n, e := g.Add(s); n != 0 || e != want {
		t.Fatalf("Add(%q) = %d, %v, want %v", s, n, e, want)
	}
}

func refuseSend(t *testing.T, g *group.Group, i, from int, want api.Errno) {
	t.Helper()
	defer refusing(t, g)()
	if l, e := g.Send(i, from); len(l) > 0 || e != want {
		t.Fatalf("Send(%d, %d) = %q, %v, want %v", i, from, l, e, want)
	}
}

func refuseTake(t *testing.T, g *group.Group, i, from int, l []string, want api.Errno) {
	t.Helper()
	defer refusing(t, g)()
	if n, e := g.Take(i, from, l); n != 0 || e != want {
		t.Fatalf("Take(%d, %d, %q) = %d, %v, want %v", i, from, l, n, e, want)
	}
}

func refuseAck(t *testing.T, g *group.Group, i, n int, want api.Errno) {
	t.Helper()
	defer refusing(t, g)()
	if e := g.Ack(i, n); e != want {
		t.Fatalf("Ack(%d, %d) = %v, want %v", i, n, e, want)
	}
}

func refuseLose(t *testing.T, g *group.Group, i, n int, want api.Errno) {
	t.Helper()
	defer refusing(t, g)()
	if e := g.Lose(i, n); e != want {
		t.Fatalf("Lose(%d, %d) = %v, want %v", i, n, e, want)
	}
}

// noFollowers of a group of n nodes.
func noFollowers(n int) []int {
	return []int{math.MinInt, math.MinInt + 1, -n, -1, 0, n, n + 1, 60, math.MaxInt}
}

// P49: n nodes, and nobody has an entry, or has told anything.
func TestNew(t *testing.T) {
	for n := 1; n <= 5; n++ {
		g := newGroup(t, n)
		if all := logs(g); len(all) != n {
			t.Errorf("New(%d) has %d nodes", n, len(all))
		}
		for i := range n {
			checkLog(t, g, i)
		}
		checkSure(t, g, 0)
		for i := 1; i < n; i++ {
			checkSend(t, g, i, 0)
			take(t, g, i, 0, nil, 0)
			ack(t, g, i, 0)
			lose(t, g, i, 0)
		}
	}
}

// P49: from 1 to 5.
func TestNewOfOtherNumbers(t *testing.T) {
	for _, n := range []int{math.MinInt, -5, -1, 0, 6, 7, 60, math.MaxInt} {
		if g, e := group.New(n); g != nil || e != api.ErrArg {
			t.Errorf("New(%d) = %v, %v, want nil and ErrArg", n, g, e)
		}
	}
}

// P50: just the leader has one more, whatever text it is.
func TestAdd(t *testing.T) {
	texts := []string{"a", "", "a", "\x00\xff\n", strings.Repeat("long", 1<<20), "é", ""}
	for n := 1; n <= 5; n++ {
		g := newGroup(t, n)
		for i, s := range texts {
			add(t, g, s, i+1)
			checkLog(t, g, 0, texts[:i+1]...)
			for k := 1; k < n; k++ {
				checkLog(t, g, k)
			}
		}
	}
}

// P50: it may have 60.
func TestAddToMany(t *testing.T) {
	l := entries(60)
	g := newGroup(t, 2, l...)
	for range 3 {
		refuseAdd(t, g, "more", api.ErrLarge)
	}
	refuseAdd(t, g, "", api.ErrLarge)
	take(t, g, 1, 0, l[:59], 59)
	lose(t, g, 1, 3)
	refuseAdd(t, g, "more", api.ErrLarge)
	checkLog(t, g, 0, l...)
}

// P51: from each place, also where there is nothing, the same to each follower,
// whatever that one has.
func TestSend(t *testing.T) {
	l := []string{"a", "", "b", "a"}
	g := newGroup(t, 3, l...)
	take(t, g, 1, 0, []string{"x", "y"}, 2)
	for i := 1; i <= 2; i++ {
		for from := range len(l) + 1 {
			checkSend(t, g, i, from, l[from:]...)
		}
	}
	checkLog(t, g, 1, "x", "y")
	checkLog(t, g, 2)
	many := entries(60)
	checkSend(t, newGroup(t, 5, many...), 4, 0, many...)
	checkSend(t, newGroup(t, 5, many...), 4, 59, many[59])
	checkSend(t, newGroup(t, 5, many...), 4, 60)
}

// P51: who is no follower is told that first; then places that there are not.
func TestSendErrors(t *testing.T) {
	for n := 1; n <= 5; n++ {
		g := newGroup(t, n, "a", "b")
		for _, i := range noFollowers(n) {
			for _, from := range []int{math.MinInt, -1, 0, 2, 3, math.MaxInt} {
				refuseSend(t, g, i, from, api.ErrNone)
			}
		}
		for i := 1; i < n; i++ {
			take(t, g, i, 0, []string{"a", "b", "c"}, 3) // how many the leader has counts
			for _, from := range []int{math.MinInt, -2, -1, 3, 4, 60, math.MaxInt} {
				refuseSend(t, g, i, from, api.ErrArg)
			}
		}
	}
}

// P52: from each place that it has on, and from behind these; those that it has
// already stay, those behind what is told, too.
func TestTake(t *testing.T) {
	l := entries(6)
	for has := range len(l) + 1 {
		for from := range has + 1 {
			for to := from; to <= len(l); to++ {
				g := newGroup(t, 3)
				take(t, g, 1, 0, l[:has], has)
				want := max(has, to)
				take(t, g, 1, from, l[from:to], want)
				checkLog(t, g, 1, l[:want]...)
				take(t, g, 1, from, l[from:to], want)
				checkLog(t, g, 1, l[:want]...)
				checkLog(t, g, 2)
				checkLog(t, g, 0)
			}
		}
	}
}

// P52: any texts, and any that the leader does not have.
func TestTakeAnyTexts(t *testing.T) {
	g := newGroup(t, 2, "a", "b")
	take(t, g, 1, 0, []string{"", "", "\xff"}, 3)
	take(t, g, 1, 1, []string{"", "\xff", "b", strings.Repeat("x", 1<<20)}, 5)
	checkLog(t, g, 1, "", "", "\xff", "b", strings.Repeat("x", 1<<20))
	checkLog(t, g, 0, "a", "b")
}

// P52: each follower has its own entries.
func TestTakeOfEach(t *testing.T) {
	g := newGroup(t, 5)
	l := entries(4)
	for i := 1; i <= 4; i++ {
		take(t, g, i, 0, l[i-1:], 5-i)
	}
	for i := 1; i <= 4; i++ {
		checkLog(t, g, i, l[i-1:]...)
	}
}

// P52: it may have 60, and 60 may be taken at once.
func TestTakeMany(t *testing.T) {
	l := entries(61)
	g := newGroup(t, 2)
	refuseTake(t, g, 1, 0, l, api.ErrArg)
	take(t, g, 1, 0, l[:60], 60)
	take(t, g, 1, 0, l[:60], 60)
	take(t, g, 1, 59, l[59:60], 60)
	take(t, g, 1, 60, nil, 60)
	refuseTake(t, g, 1, 60, l[60:], api.ErrLarge)
	refuseTake(t, g, 1, 59, l[59:], api.ErrLarge)
	refuseTake(t, g, 1, 1, l[1:], api.ErrLarge)
	lose(t, g, 1, 59)
	refuseTake(t, g, 1, 59, l[59:], api.ErrLarge)
	refuseTake(t, g, 1, 58, l[58:], api.ErrLarge)
	take(t, g, 1, 58, l[58:60], 60)
	checkLog(t, g, 1, l[:60]...)
}

// P52: with another one in one place nothing is taken.
func TestTakeOther(t *testing.T) {
	l := entries(5)
	g := newGroup(t, 2, l...)
	take(t, g, 1, 0, l[:4], 4)
	for from := range 4 {
		for k := from; k < 4; k++ {
			for _, other := range []string{"", "x", l[k] + "x", strings.ToUpper(l[k]), "e"} {
				changed := slices.Clone(l)
				changed[k] = other
				refuseTake(t, g, 1, from, changed[from:], api.ErrForm)
				refuseTake(t, g, 1, from, changed[from:k+1], api.ErrForm)
			}
		}
	}
	refuseTake(t, g, 1, 1, l[:1], api.ErrForm)
	take(t, g, 1, 4, []string{"x"}, 5)
	refuseTake(t, g, 1, 4, l[4:], api.ErrForm)
}

// P52: each error, and each ahead of those that are told later.
func TestTakeErrors(t *testing.T) {
	l := entries(80)
	for n := 1; n <= 5; n++ {
		g := newGroup(t, n, l[:5]...)
		for _, i := range noFollowers(n) {
			refuseTake(t, g, i, 0, l[:1], api.ErrNone)
			refuseTake(t, g, i, -1, nil, api.ErrNone)
			refuseTake(t, g, i, 9, l, api.ErrNone)
		}
	}
	g := newGroup(t, 2, l[:5]...)
	take(t, g, 1, 0, l[:3], 3)
	for _, from := range []int{math.MinInt, math.MinInt + 60, -60, -2, -1} {
		refuseTake(t, g, 1, from, nil, api.ErrArg)
		refuseTake(t, g, 1, from, l[:3], api.ErrArg)
	}
	for _, from := range []int{0, 3, 4, math.MaxInt} {
		refuseTake(t, g, 1, from, l[:61], api.ErrArg) // ahead of all others
		refuseTake(t, g, 1, from, make([]string, 1<<20), api.ErrArg)
	}
	for _, from := range []int{4, 5, 60, 61, math.MaxInt - 1, math.MaxInt} {
		refuseTake(t, g, 1, from, nil, api.ErrGap)
		refuseTake(t, g, 1, from, l[4:5], api.ErrGap)
		refuseTake(t, g, 1, from, l[:60], api.ErrGap) // ahead of ErrLarge
	}
	refuseTake(t, g, 1, 1, l[:60], api.ErrForm) // ahead of ErrLarge
	refuseTake(t, g, 1, 1, l[1:61], api.ErrLarge)
	refuseTake(t, g, 1, 3, l[3:61], api.ErrLarge)
	take(t, g, 1, 3, l[3:60], 60)
}

// P53: the most that it told counts.
func TestAck(t *testing.T) {
	l := entries(5)
	g := newGroup(t, 2, l...)
	take(t, g, 1, 0, l[:4], 4)
	for _, x := range []struct{ n, want int }{{0, 0}, {2, 2}, {1, 2}, {0, 2}, {3, 3}, {2, 3}, {4, 4}, {3, 4}} {
		ack(t, g, 1, x.n)
		checkSure(t, g, x.want)
	}
}

// P53: just what that follower has counts, not what another one has.
func TestAckOfEach(t *testing.T) {
	l := entries(3)
	g := newGroup(t, 3, l...)
	take(t, g, 2, 0, l[:2], 2)
	refuseAck(t, g, 1, 1, api.ErrArg)
	ack(t, g, 2, 1)
	checkSure(t, g, 1)
	lose(t, g, 2, 1)
	refuseLose(t, g, 2, 0, api.ErrArg)
	take(t, g, 1, 0, l, 3)
	lose(t, g, 1, 0)
}

// P53: who is no follower is told that first; then what it does not have, or
// what the leader does not have.
func TestAckErrors(t *testing.T) {
	l := entries(4)
	for n := 1; n <= 5; n++ {
		g := newGroup(t, n, l...)
		for _, i := range noFollowers(n) {
			for _, told := range []int{-1, 0, 1, 61} {
				refuseAck(t, g, i, told, api.ErrNone)
			}
		}
	}
	for _, has := range []int{0, 1, 3, 4, 5, 60} {
		g := newGroup(t, 2, l...)
		take(t, g, 1, 0, append(slices.Clone(l), entries(56)...)[:has], has)
		most := min(has, 4)
		for _, told := range []int{math.MinInt, -1, most + 1, has + 1, 61, math.MaxInt} {
			refuseAck(t, g, 1, told, api.ErrArg)
		}
		ack(t, g, 1, most)
		checkSure(t, g, most)
	}
}

// P53: what the leader has now counts, not what it had.
func TestAckOfMoreThanTheLeaderHas(t *testing.T) {
	g := newGroup(t, 2, "a")
	take(t, g, 1, 0, []string{"a", "b"}, 2)
	refuseAck(t, g, 1, 2, api.ErrArg)
	add(t, g, "b", 2)
	ack(t, g, 1, 2)
	checkSure(t, g, 2)
}

// P54: of each group what each way to tell makes sure.
func TestSure(t *testing.T) {
	for _, x := range []struct {
		has  int // the leader
		told []int
		want int
	}{
		{0, nil, 0}, {3, nil, 3}, {60, nil, 60},
		{3, []int{0}, 0}, {3, []int{2}, 2}, {3, []int{3}, 3},
		{3, []int{0, 0}, 0}, {3, []int{2, 0}, 2}, {3, []int{0, 2}, 2}, {3, []int{1, 2}, 2}, {3, []int{3, 3}, 3},
		{3, []int{3, 0, 0}, 0}, {3, []int{2, 0, 1}, 1}, {3, []int{1, 3, 2}, 2}, {3, []int{3, 3, 3}, 3},
		{4, []int{4, 0, 0, 0}, 0}, {4, []int{0, 3, 0, 4}, 3}, {4, []int{1, 2, 3, 4}, 3}, {4, []int{2, 1, 1, 2}, 2}, {4, []int{4, 4, 4, 4}, 4},
		{60, []int{60, 59, 0, 0}, 59},
	} {
		l := entries(x.has)
		g := newGroup(t, len(x.told)+1, l...)
		for i, n := range x.told {
			take(t, g, i+1, 0, l, x.has) // to have it is not to tell it
			ack(t, g, i+1, n)
		}
		if n := g.Sure(); n != x.want {
			t.Errorf("Sure with %d of the leader, told %v, is %d, want %d", x.has, x.told, n, x.want)
		}
	}
}

// P54: the leader tells all that it has, at once.
func TestLeaderTellsAll(t *testing.T) {
	alone, pair := newGroup(t, 1), newGroup(t, 2)
	for i, s := range entries(60) {
		add(t, alone, s, i+1)
		checkSure(t, alone, i+1)
		add(t, pair, s, i+1)
		checkSure(t, pair, 0)
	}
}

// P55: each node's own; of no others.
func TestLog(t *testing.T) {
	for n := 1; n <= 5; n++ {
		l := entries(6)
		g := newGroup(t, n, l...)
		for i := 1; i < n; i++ {
			take(t, g, i, 0, l[:i], i)
		}
		checkLog(t, g, 0, l...)
		for i := 1; i < n; i++ {
			checkLog(t, g, i, l[:i]...)
		}
		for _, i := range noFollowers(n) {
			if i == 0 {
				continue
			}
			if l, e := g.Log(i); len(l) > 0 || e != api.ErrNone {
				t.Errorf("Log(%d) of %d nodes = %q, %v, want ErrNone", i, n, l, e)
			}
		}
	}
}

// P56: from all that it has down to what it told; and then there is room for others.
func TestLose(t *testing.T) {
	l := entries(6)
	for told := range len(l) + 1 {
		for n := told; n <= len(l); n++ {
			g := newGroup(t, 3, l...)
			take(t, g, 1, 0, l, 6)
			take(t, g, 2, 0, l, 6)
			ack(t, g, 1, told)
			lose(t, g, 1, n)
			checkLog(t, g, 1, l[:n]...)
			checkLog(t, g, 2, l...)
			checkLog(t, g, 0, l...)
			checkSure(t, g, told)
			refuseTake(t, g, 1, n+1, nil, api.ErrGap)
			take(t, g, 1, n, []string{"x"}, n+1)
			checkLog(t, g, 1, append(slices.Clone(l[:n]), "x")...)
		}
	}
}

// P56: who is no follower is told that first; then what it told, or does not have.
func TestLoseErrors(t *testing.T) {
	l := entries(5)
	for n := 1; n <= 5; n++ {
		g := newGroup(t, n, l...)
		for _, i := range noFollowers(n) {
			for _, less := range []int{-1, 0, 5, 6} {
				refuseLose(t, g, i, less, api.ErrNone)
			}
		}
	}
	g := newGroup(t, 2, l...)
	take(t, g, 1, 0, l[:4], 4)
	for _, n := range []int{math.MinInt, -1, 5, 6, 60, math.MaxInt} {
		refuseLose(t, g, 1, n, api.ErrArg)
	}
	ack(t, g, 1, 2)
	ack(t, g, 1, 1) // less than it told ahead, that counts
	for _, n := range []int{math.MinInt, -1, 0, 1, 5, math.MaxInt} {
		refuseLose(t, g, 1, n, api.ErrArg)
	}
	lose(t, g, 1, 3)
	refuseLose(t, g, 1, 4, api.ErrArg)
	lose(t, g, 1, 2)
	refuseLose(t, g, 1, 1, api.ErrArg)
	checkSure(t, g, 2)
}

// P56: what was told is not lost, also where others told more, or less.
func TestToldIsNotLost(t *testing.T) {
	l := entries(4)
	g := newGroup(t, 3, l...)
	take(t, g, 1, 0, l, 4)
	take(t, g, 2, 0, l, 4)
	ack(t, g, 1, 3)
	ack(t, g, 2, 1)
	refuseLose(t, g, 1, 2, api.ErrArg)
	lose(t, g, 1, 3)
	lose(t, g, 2, 1)
	refuseLose(t, g, 2, 0, api.ErrArg)
	checkSure(t, g, 3)
}
