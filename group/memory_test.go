package group_test

import (
	"slices"
	"testing"

	"withy/api"
	"withy/group"
	"withy/storetest"
)

// P2: what is taken is neither changed nor kept, the room behind it included.
func TestListsAreNotKept(t *testing.T) {
	room := append(entries(6), "room", "more room")
	before := slices.Clone(room)
	g := newGroup(t, 4)
	take(t, g, 1, 0, room[:6], 6)
	take(t, g, 2, 0, room[:2], 2)
	take(t, g, 2, 1, room[1:6], 6)
	take(t, g, 3, 0, room[:3], 3)
	refuseTake(t, g, 3, 1, room[:6], api.ErrForm)
	take(t, g, 3, 3, []string{"x", "y"}, 5)
	take(t, g, 3, 5, nil, 5)
	lose(t, g, 1, 1)
	take(t, g, 1, 1, []string{"z"}, 2)
	if !slices.Equal(room, before) {
		t.Errorf("the list is %q, was %q", room, before)
	}
	storetest.WipeTexts(room[:0])
	checkLog(t, g, 1, "e0", "z")
	checkLog(t, g, 2, before[:6]...)
	checkLog(t, g, 3, "e0", "e1", "e2", "x", "y")
}

// P2: followers that took the same list, or what was sent, do not share it.
func TestNodesAreApart(t *testing.T) {
	l := entries(4)
	g := newGroup(t, 4, l...)
	sent, _ := g.Send(1, 0)
	for i := 1; i <= 3; i++ {
		take(t, g, i, 0, sent, 4)
	}
	lose(t, g, 1, 2)
	take(t, g, 1, 2, []string{"x", "y"}, 4)
	lose(t, g, 2, 0)
	take(t, g, 3, 4, []string{"z"}, 5)
	add(t, g, "more", 5)
	checkLog(t, g, 0, append(slices.Clone(l), "more")...)
	checkLog(t, g, 1, "e0", "e1", "x", "y")
	checkLog(t, g, 2)
	checkLog(t, g, 3, append(slices.Clone(l), "z")...)
	if !slices.Equal(sent, l) {
		t.Errorf("what was sent has become %q", sent)
	}
}

// P2: what is answered is new each time, spare room included, and stays as it is.
func TestAnswersAreNewMemory(t *testing.T) {
	l := entries(5)
	g := newGroup(t, 2, l...)
	take(t, g, 1, 0, l, 5)
	lose(t, g, 1, 3)
	asks := []struct {
		ask  func() []string
		want []string
	}{
		{func() []string { l, _ := g.Send(1, 0); return l }, l},
		{func() []string { l, _ := g.Send(1, 2); return l }, l[2:]},
		{func() []string { l, _ := g.Send(1, 5); return l }, nil},
		{func() []string { l, _ := g.Log(0); return l }, l},
		{func() []string { l, _ := g.Log(1); return l }, l[:3]},
	}
	var first [][]string
	for _, a := range asks {
		got, again := a.ask(), a.ask()
		storetest.WipeTexts(got)
		for _, l := range [][]string{again, a.ask()} {
			if !slices.Equal(l, a.want) {
				t.Errorf("the answer is %q, want %q", l, a.want)
			}
		}
		first = append(first, again)
	}
	lose(t, g, 1, 1)
	take(t, g, 1, 1, []string{"x", "y", "z", "z", "z"}, 6)
	add(t, g, "more", 6)
	for i, a := range asks {
		if !slices.Equal(first[i], a.want) {
			t.Errorf("an answer has become %q, was %q", first[i], a.want)
		}
	}
	checkLog(t, g, 0, append(slices.Clone(l), "more")...)
	checkLog(t, g, 1, "e0", "x", "y", "z", "z", "z")
}

// P2: what one group is told another one does not know.
func TestGroupsAreApart(t *testing.T) {
	g, other := newGroup(t, 2, "a"), newGroup(t, 2)
	take(t, g, 1, 0, []string{"a"}, 1)
	ack(t, g, 1, 1)
	add(t, other, "b", 1)
	take(t, other, 1, 0, []string{"b", "c"}, 2)
	checkLog(t, g, 0, "a")
	checkLog(t, g, 1, "a")
	checkSure(t, g, 1)
	checkSure(t, other, 0)
}

// P1: a group that no New made is a leader whom nobody follows.
func TestZeroGroup(t *testing.T) {
	var g group.Group
	checkSure(t, &g, 0)
	checkLog(t, &g, 0)
	for i := range 3 {
		refuseSend(t, &g, i, 0, api.ErrNone)
		refuseTake(t, &g, i, 0, nil, api.ErrNone)
		refuseAck(t, &g, i, 0, api.ErrNone)
		refuseLose(t, &g, i, 0, api.ErrNone)
	}
	add(t, &g, "a", 1)
	checkLog(t, &g, 0, "a")
	checkSure(t, &g, 1)
	if l, e := g.Log(1); len(l) > 0 || e != api.ErrNone {
		t.Error(l, e)
	}
}
