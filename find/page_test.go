package find_test

import (
	"math"
	"slices"
	"strconv"
	"strings"
	"testing"

	"withy/api"
	"withy/find"
)

// wantPage goes name by name.
func wantPage(ids []string, from string, n int) (page []string, more bool) {
	for _, id := range ids {
		switch {
		case id <= from:
		case len(page) < n:
			page = append(page, id)
		default:
			more = true
		}
	}
	return page, more
}

func checkPage(t *testing.T, ids []string, from string, n int) {
	t.Helper()
	want, wantMore := wantPage(ids, from, n)
	got, more, e := find.Page(ids, from, n)
	if !slices.Equal(got, want) || more != wantMore || e != api.OK {
		t.Fatalf("Page(%v, %q, %d) = %v, %v, %v, want %v, %v", ids, from, n, got, more, e, want, wantMore)
	}
}

// many answers n names in order.
func many(n int) []string {
	var ids []string
	for i := range n {
		ids = append(ids, "n"+strconv.Itoa(10000+i))
	}
	return ids
}

// P30: of each choice among some names, from each of them and from between
// them, pages of each length.
func TestPage(t *testing.T) {
	names := []string{"0", "a", "aa", "ab", "b", "z"}
	froms := append([]string{"", "\x00", "/", "00", "A", "a\x00", "aaa", "ac", "zz", "{", "\xff"}, names...)
	for choice := range 1 << len(names) {
		var ids []string
		for i, id := range names {
			if choice>>i%2 == 1 {
				ids = append(ids, id)
			}
		}
		for _, from := range froms {
			for n := 1; n <= 8; n++ {
				checkPage(t, ids, from, n)
			}
			checkPage(t, ids, from, 60)
		}
	}
}

// P30: by their bytes, and just by their order: what is no name of a record may be one here.
func TestPageOfAnyTexts(t *testing.T) {
	for _, ids := range [][]string{
		{""}, {"", "A", "a"}, {"\x00", " ", "é", "\xff"}, {"10", "9"}, {"a", strings.Repeat("a", 300), "b"},
	} {
		for _, from := range append([]string{"", "z"}, ids...) {
			for n := 1; n <= 4; n++ {
				checkPage(t, ids, from, n)
			}
		}
	}
}

// P30: at and around each bound.
func TestPageBounds(t *testing.T) {
	for _, size := range []int{0, 1, 59, 60, 61, 119, 120, 121, 5119, 5120} {
		ids := many(size)
		for _, n := range []int{1, 2, 59, 60} {
			for _, from := range []string{"", "n10000", "n10001", "n10059", "n10060", "n10061", "n15058", "n15118", "n15119", "n2"} {
				checkPage(t, ids, from, n)
			}
		}
	}
}

// P30: each error, in their order.
func TestPageRefuses(t *testing.T) {
	falling := many(5121)
	falling[0] = "z"
	tests := []struct {
		ids  []string
		n    int
		want api.Errno
	}{
		{many(5121), 1, api.ErrLarge}, {many(6000), 60, api.ErrLarge}, {many(5121), 0, api.ErrLarge},
		{falling, 1, api.ErrLarge}, {falling, 61, api.ErrLarge}, {make([]string, 1<<20), 1, api.ErrLarge},
		{falling[:5120], 1, api.ErrForm}, {falling[:5120], 0, api.ErrForm},
		{[]string{"b", "a"}, 1, api.ErrForm}, {[]string{"a", "a"}, 1, api.ErrForm}, {[]string{"", ""}, 1, api.ErrForm},
		{[]string{"a", "c", "b"}, 1, api.ErrForm}, {[]string{"a", "b", "b"}, 60, api.ErrForm}, {[]string{"9", "10"}, 2, api.ErrForm},
		{[]string{"aa", "a"}, 1, api.ErrForm}, {[]string{"a", ""}, 1, api.ErrForm}, {[]string{"a", "B"}, 1, api.ErrForm},
		{[]string{"b", "a"}, 0, api.ErrForm}, {[]string{"b", "a"}, 61, api.ErrForm}, {[]string{"b", "a"}, -1, api.ErrForm},
		{nil, 0, api.ErrArg}, {nil, -1, api.ErrArg}, {nil, 61, api.ErrArg}, {[]string{"a", "b"}, 0, api.ErrArg},
		{many(100), 61, api.ErrArg}, {many(5120), 100, api.ErrArg}, {many(5120), 0, api.ErrArg}, {many(3), 1<<32 + 1, api.ErrArg},
		{many(3), math.MinInt, api.ErrArg}, {many(3), math.MaxInt, api.ErrArg}, {[]string{"a"}, math.MaxInt - 1, api.ErrArg},
	}
	for _, x := range tests {
		for _, from := range []string{"", "a", "n10001", "zz"} {
			if got, more, e := find.Page(x.ids, from, x.n); len(got) > 0 || more || e != x.want {
				t.Errorf("Page of %d names, %q, %d = %v, %v, %v, want %v", len(x.ids), from, x.n, got, more, e, x.want)
			}
		}
	}
}

// P30: the sixth example of the document: page by page all names come.
func TestPageByPage(t *testing.T) {
	for _, size := range []int{1, 60, 61, 120, 5120} {
		for _, n := range []int{1, 7, 60} {
			ids := many(size)
			var all []string
			for from, more := "", true; more && len(all) <= size; {
				page, isMore, e := find.Page(ids, from, n)
				if len(page) == 0 || e != api.OK {
					t.Fatalf("page from %q of %d: %v, %v", from, size, page, e)
				}
				all = append(all, page...)
				from, more = page[len(page)-1], isMore
			}
			if !slices.Equal(all, ids) {
				t.Errorf("%d names by pages of %d are %v", size, n, all)
			}
		}
	}
}
