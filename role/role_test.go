package role_test

import (
	"math"
	"slices"
	"testing"

	"withy/api"
	"withy/role"
)

// eachList calls f with each good list of n roles; f must not keep the list.
func eachList(n int, f func(up []int)) {
	up := make([]int, n)
	var fill func(i int)
	fill = func(i int) {
		if i == n {
			f(up)
			return
		}
		for with := range 1 << i {
			up[i] = with
			fill(i + 1)
		}
	}
	fill(0)
}

// wantHas goes from role to role, as P8 tells it.
func wantHas(up []int, i, k int) bool {
	if i == k {
		return true
	}
	for r := range i {
		if up[i]>>r%2 == 1 && wantHas(up, r, k) {
			return true
		}
	}
	return false
}

func wantDeep(up []int, i int) int {
	if up[i] == 0 {
		return 0
	}
	most := 0
	for r := range i {
		if up[i]>>r%2 == 1 {
			most = max(most, wantDeep(up, r))
		}
	}
	return most + 1
}

type badList struct {
	up   []int
	want api.Errno
}

// badLists are lists that Check refuses, each with the error that is told first.
func badLists() []badList {
	return []badList{
		{make([]int, 9), api.ErrLarge},
		{make([]int, 1000), api.ErrLarge},
		{[]int{-1, 0, 0, 0, 0, 0, 0, 0, 0}, api.ErrLarge},
		{[]int{-1}, api.ErrArg},
		{[]int{1}, api.ErrArg},
		{[]int{2}, api.ErrArg},
		{[]int{256}, api.ErrArg},
		{[]int{0, 2}, api.ErrArg},
		{[]int{0, 4}, api.ErrArg},
		{[]int{0, -1}, api.ErrArg},
		{[]int{0, 1, 4}, api.ErrArg},
		{[]int{0, 1, 5}, api.ErrArg},
		{[]int{0, 1, 9}, api.ErrArg},
		{[]int{0, 2, 3}, api.ErrArg},
		{[]int{0, 1, 3, math.MinInt}, api.ErrArg},
		{[]int{0, 1, 3, math.MaxInt}, api.ErrArg},
		{[]int{0, 1, 3, 1 << 32}, api.ErrArg},
		{[]int{0, 0, 0, 0, 0, 0, 0, 128}, api.ErrArg},
		{[]int{0, 0, 0, 0, 0, 0, 0, -128}, api.ErrArg},
	}
}

// P7: none, and as many as there may be.
func TestCheck(t *testing.T) {
	lists := [][]int{nil, {}, {0}, {0, 1}, {0, 0, 3}, make([]int, 8), {0, 1, 3, 7, 15, 31, 63, 127}}
	for _, up := range lists {
		if e := role.Check(up); e != api.OK {
			t.Errorf("Check(%v) = %v", up, e)
		}
	}
	for _, x := range badLists() {
		if e := role.Check(x.up); e != x.want {
			t.Errorf("Check(%v) = %v, want %v", x.up, e, x.want)
		}
	}
}

// P7: what may come with a role are just the lesser ones.
func TestCheckOfEachRole(t *testing.T) {
	for i := range api.MaxRoles {
		for with := -300; with <= 300; with++ {
			up := make([]int, api.MaxRoles)
			up[i] = with
			want := api.ErrArg
			if with >= 0 && with < 1<<i {
				want = api.OK
			}
			if e := role.Check(up); e != want {
				t.Errorf("Check(%v) = %v, want %v", up, e, want)
			}
		}
	}
}

// P7, P2: further calls answer Check's error first, and nothing else.
func TestCallsRefuseWhatCheckRefuses(t *testing.T) {
	for _, x := range badLists() {
		for _, i := range []int{0, -1, len(x.up), math.MinInt, math.MaxInt} {
			if n, e := role.All(x.up, i); n != 0 || e != x.want {
				t.Errorf("All(%v, %v) = %v, %v, want %v", x.up, i, n, e, x.want)
			}
			if n, e := role.Deep(x.up, i); n != 0 || e != x.want {
				t.Errorf("Deep(%v, %v) = %v, %v, want %v", x.up, i, n, e, x.want)
			}
			for _, k := range []int{0, -1, len(x.up)} {
				if is, e := role.Has(x.up, i, k); is || e != x.want {
					t.Errorf("Has(%v, %v, %v) = %v, %v, want %v", x.up, i, k, is, e, x.want)
				}
			}
		}
	}
}

// P7, P8: there is no role below 0, nor behind the last one.
func TestCallsRefuseNoRole(t *testing.T) {
	for _, up := range [][]int{nil, {0}, {0, 1}, {0, 1, 3, 7, 15, 31, 63, 127}} {
		for _, no := range []int{-1, len(up), len(up) + 1, 64, math.MinInt, math.MaxInt} {
			if n, e := role.All(up, no); n != 0 || e != api.ErrNone {
				t.Errorf("All(%v, %v) = %v, %v", up, no, n, e)
			}
			if n, e := role.Deep(up, no); n != 0 || e != api.ErrNone {
				t.Errorf("Deep(%v, %v) = %v, %v", up, no, n, e)
			}
			for _, pair := range [][2]int{{no, 0}, {0, no}, {no, no}} {
				if is, e := role.Has(up, pair[0], pair[1]); is || e != api.ErrNone {
					t.Errorf("Has(%v, %v, %v) = %v, %v", up, pair[0], pair[1], is, e)
				}
			}
		}
	}
}

// P8, P9: the second example of the document, a long chain, and a role to
// which a short way and a long one lead.
func TestAllAndDeep(t *testing.T) {
	chain := []int{0, 1, 2, 4, 8, 16, 32, 64}
	tests := []struct {
		up           []int
		i, all, deep int
	}{
		{[]int{0, 1, 2}, 2, 7, 2},
		{[]int{0, 1, 2}, 0, 1, 0},
		{[]int{0, 1, 2}, 1, 3, 1},
		{[]int{0, 0, 3}, 2, 7, 1},
		{[]int{0, 0, 1}, 2, 5, 1},
		{[]int{0, 1, 0, 7}, 3, 15, 2},
		{[]int{0, 1, 2, 5}, 3, 15, 3},
		{[]int{0, 1, 2, 4}, 3, 15, 3},
		{chain, 7, 255, 7},
		{chain, 3, 15, 3},
	}
	for _, x := range tests {
		if n, e := role.All(x.up, x.i); n != x.all || e != api.OK {
			t.Errorf("All(%v, %v) = %v, %v, want %v", x.up, x.i, n, e, x.all)
		}
		if n, e := role.Deep(x.up, x.i); n != x.deep || e != api.OK {
			t.Errorf("Deep(%v, %v) = %v, %v, want %v", x.up, x.i, n, e, x.deep)
		}
	}
}

// P8: a role is one of its own, what comes with it does not have it.
func TestHas(t *testing.T) {
	up := []int{0, 1, 2, 0}
	tests := []struct {
		i, k int
		want bool
	}{
		{0, 0, true}, {2, 2, true}, {2, 1, true}, {2, 0, true}, {1, 0, true},
		{0, 2, false}, {1, 2, false}, {0, 1, false}, {2, 3, false}, {3, 0, false}, {3, 3, true},
	}
	for _, x := range tests {
		if is, e := role.Has(up, x.i, x.k); is != x.want || e != api.OK {
			t.Errorf("Has(%v, %v, %v) = %v, %v", up, x.i, x.k, is, e)
		}
	}
}

// P8, P9: of each role of each list of at most six.
func TestEachList(t *testing.T) {
	for n := range 7 {
		eachList(n, func(up []int) {
			for i := range n {
				compareRole(t, up, i)
			}
		})
	}
}

// P8, P9: of the last role of a list of eight, whatever the two ahead bring.
func TestLongLists(t *testing.T) {
	for six := range 64 {
		for seven := range 128 {
			compareRole(t, []int{0, 1, 0, 4, 8, 3, six, seven}, 7)
		}
	}
}

func compareRole(t *testing.T, up []int, i int) {
	t.Helper()
	want, power := 0, 1
	for k := range up {
		wanted := wantHas(up, i, k)
		if wanted {
			want += power
		}
		power *= 2
		if is, e := role.Has(up, i, k); is != wanted || e != api.OK {
			t.Fatalf("Has(%v, %v, %v) = %v, %v", up, i, k, is, e)
		}
	}
	if n, e := role.All(up, i); n != want || e != api.OK {
		t.Fatalf("All(%v, %v) = %v, %v, want %v", up, i, n, e, want)
	}
	if n, e := role.Deep(up, i); n != wantDeep(up, i) || e != api.OK {
		t.Fatalf("Deep(%v, %v) = %v, %v, want %v", up, i, n, e, wantDeep(up, i))
	}
}

// P2: neither the list nor the room behind it is changed.
func TestListStays(t *testing.T) {
	room := []int{0, 1, 3, 4, -7, 99, 1 << 40}
	before := slices.Clone(room)
	up := room[:4]
	role.Check(up)
	for i := -1; i <= len(up); i++ {
		role.All(up, i)
		role.Deep(up, i)
		role.Has(up, i, 0)
	}
	if !slices.Equal(room, before) {
		t.Errorf("the list is %v, was %v", room, before)
	}
}

// P2: what is answered hangs on the list as it is now.
func TestNothingIsKept(t *testing.T) {
	up := []int{0, 1, 2}
	role.All(up, 2)
	role.Deep(up, 2)
	up[2] = 0
	n, e := role.All(up, 2)
	deep, f := role.Deep(up, 2)
	if n != 4 || deep != 0 || e != api.OK || f != api.OK {
		t.Error(n, deep, e, f)
	}
}
