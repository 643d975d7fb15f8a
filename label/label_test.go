package label_test

import (
	"math"
	"testing"

	"withy/api"
	"withy/label"
)

func allLabels() []api.Label {
	var all []api.Label
	for level := 0; level <= api.MaxLevel; level++ {
		for cats := 0; cats < 1<<api.MaxCats; cats++ {
			all = append(all, api.Label{Level: level, Cats: cats})
		}
	}
	return all
}

// badLabels are just outside of each bound, or far outside of it.
func badLabels() []api.Label {
	return []api.Label{
		{Level: -1}, {Level: 4}, {Level: -1, Cats: 255}, {Level: 4, Cats: 255},
		{Cats: -1}, {Cats: 256}, {Level: 3, Cats: -1}, {Level: 3, Cats: 256},
		{Cats: 257}, {Cats: -256}, {Level: 256, Cats: 256}, {Level: -1, Cats: -1},
		{Level: math.MinInt}, {Level: math.MaxInt}, {Cats: math.MinInt}, {Cats: math.MaxInt},
		{Level: 1 << 32}, {Cats: 1 << 32}, {Cats: 1<<32 + 7}, {Level: math.MinInt, Cats: math.MaxInt},
	}
}

// hasKind goes by division, so that it is no copy of how the package does it.
func hasKind(cats, kind int) bool {
	for range kind {
		cats /= 2
	}
	return cats%2 == 1
}

func isBelow(a, b api.Label) bool {
	for kind := range api.MaxCats {
		if hasKind(a.Cats, kind) && !hasKind(b.Cats, kind) {
			return false
		}
	}
	return a.Level <= b.Level
}

// P3: each of the 1024 labels is one, no kinds at all included.
func TestCheckTakesEachLabel(t *testing.T) {
	for _, l := range allLabels() {
		if e := label.Check(l); e != api.OK {
			t.Errorf("Check(%v) = %v", l, e)
		}
	}
}

// P3: what is out of bounds is no label.
func TestCheckRefuses(t *testing.T) {
	for _, l := range badLabels() {
		if e := label.Check(l); e != api.ErrArg {
			t.Errorf("Check(%v) = %v, want ErrArg", l, e)
		}
	}
}

// P3, P2: further calls answer Check's error, of either label, and nothing else.
func TestCallsRefuseWhatCheckRefuses(t *testing.T) {
	good := api.Label{Level: 3, Cats: 255}
	for _, bad := range badLabels() {
		for _, pair := range [][2]api.Label{{bad, good}, {good, bad}, {bad, bad}} {
			a, b := pair[0], pair[1]
			if is, e := label.Below(a, b); is || e != api.ErrArg {
				t.Errorf("Below(%v, %v) = %v, %v", a, b, is, e)
			}
			if l, e := label.Join(a, b); l != (api.Label{}) || e != api.ErrArg {
				t.Errorf("Join(%v, %v) = %v, %v", a, b, l, e)
			}
			if l, e := label.Meet(a, b); l != (api.Label{}) || e != api.ErrArg {
				t.Errorf("Meet(%v, %v) = %v, %v", a, b, l, e)
			}
		}
		if n, e := label.Count(bad); n != 0 || e != api.ErrArg {
			t.Errorf("Count(%v) = %v, %v", bad, n, e)
		}
		if n, e := label.Rank(bad); n != 0 || e != api.ErrArg {
			t.Errorf("Rank(%v) = %v, %v", bad, n, e)
		}
	}
}

// P4: levels and kinds are both looked at, each for itself.
func TestBelow(t *testing.T) {
	tests := []struct {
		a, b api.Label
		want bool
	}{
		{api.Label{}, api.Label{}, true},
		{api.Label{Level: 1, Cats: 3}, api.Label{Level: 2, Cats: 7}, true},
		{api.Label{Level: 2, Cats: 3}, api.Label{Level: 2, Cats: 3}, true},
		{api.Label{Level: 3, Cats: 3}, api.Label{Level: 2, Cats: 7}, false},
		{api.Label{Level: 1, Cats: 3}, api.Label{Level: 2, Cats: 5}, false},
		{api.Label{Level: 1, Cats: 7}, api.Label{Level: 2, Cats: 3}, false},
		{api.Label{Level: 0, Cats: 128}, api.Label{Level: 3, Cats: 127}, false},
		{api.Label{Level: 0, Cats: 2}, api.Label{Level: 3, Cats: 4}, false},
		{api.Label{Level: 3}, api.Label{Level: 2, Cats: 255}, false},
	}
	for _, x := range tests {
		if is, e := label.Below(x.a, x.b); is != x.want || e != api.OK {
			t.Errorf("Below(%v, %v) = %v, %v", x.a, x.b, is, e)
		}
	}
}

// P4, P5: of each two labels, part by part.
func TestEachTwoLabels(t *testing.T) {
	all := allLabels()
	for _, a := range all {
		for _, b := range all {
			is, e := label.Below(a, b)
			join, f := label.Join(a, b)
			meet, g := label.Meet(a, b)
			if e != api.OK || f != api.OK || g != api.OK {
				t.Fatalf("%v and %v: errors %v, %v, %v", a, b, e, f, g)
			}
			if is != isBelow(a, b) {
				t.Fatalf("Below(%v, %v) = %v", a, b, is)
			}
			wantJoin, wantMeet := wantJoinAndMeet(a, b)
			if join != wantJoin || meet != wantMeet {
				t.Fatalf("%v and %v: Join %v, Meet %v", a, b, join, meet)
			}
		}
	}
}

func wantJoinAndMeet(a, b api.Label) (join, meet api.Label) {
	join.Level, meet.Level = a.Level, b.Level
	if a.Level < b.Level {
		join.Level, meet.Level = b.Level, a.Level
	}
	power := 1
	for range api.MaxCats {
		inA, inB := a.Cats/power%2, b.Cats/power%2
		if inA+inB > 0 {
			join.Cats += power
		}
		if inA+inB == 2 {
			meet.Cats += power
		}
		power *= 2
	}
	return join, meet
}

// P5: the first example of the document, and labels that have no kind in common.
func TestJoinAndMeet(t *testing.T) {
	tests := []struct{ a, b, join, meet api.Label }{
		{
			api.Label{Cats: 6}, api.Label{Cats: 3},
			api.Label{Cats: 7}, api.Label{Cats: 2},
		},
		{
			api.Label{Level: 3, Cats: 1}, api.Label{Level: 1, Cats: 128},
			api.Label{Level: 3, Cats: 129}, api.Label{Level: 1},
		},
		{
			api.Label{}, api.Label{Level: 3, Cats: 255},
			api.Label{Level: 3, Cats: 255}, api.Label{},
		},
	}
	for _, x := range tests {
		for _, pair := range [][2]api.Label{{x.a, x.b}, {x.b, x.a}} {
			if l, e := label.Join(pair[0], pair[1]); l != x.join || e != api.OK {
				t.Errorf("Join(%v, %v) = %v, %v", pair[0], pair[1], l, e)
			}
			if l, e := label.Meet(pair[0], pair[1]); l != x.meet || e != api.OK {
				t.Errorf("Meet(%v, %v) = %v, %v", pair[0], pair[1], l, e)
			}
		}
	}
}

// P6: the least label, the greatest, and some between.
func TestCountAndRank(t *testing.T) {
	tests := []struct {
		l           api.Label
		count, rank int
	}{
		{api.Label{}, 1, 0},
		{api.Label{Level: 3}, 4, 3},
		{api.Label{Cats: 255}, 256, 8},
		{api.Label{Cats: 128}, 2, 1},
		{api.Label{Level: 2, Cats: 5}, 12, 4},
		{api.Label{Level: 3, Cats: 255}, 1024, 11},
	}
	for _, x := range tests {
		if n, e := label.Count(x.l); n != x.count || e != api.OK {
			t.Errorf("Count(%v) = %v, %v, want %v", x.l, n, e, x.count)
		}
		if n, e := label.Rank(x.l); n != x.rank || e != api.OK {
			t.Errorf("Rank(%v) = %v, %v, want %v", x.l, n, e, x.rank)
		}
	}
}

// P6: of each label, by counting.
func TestCountAndRankOfEach(t *testing.T) {
	all := allLabels()
	for _, l := range all {
		count, rank := 0, l.Level
		for _, other := range all {
			if isBelow(other, l) {
				count++
			}
		}
		for kind := range api.MaxCats {
			if hasKind(l.Cats, kind) {
				rank++
			}
		}
		if n, e := label.Count(l); n != count || e != api.OK {
			t.Errorf("Count(%v) = %v, %v, want %v", l, n, e, count)
		}
		if n, e := label.Rank(l); n != rank || e != api.OK {
			t.Errorf("Rank(%v) = %v, %v, want %v", l, n, e, rank)
		}
	}
}
