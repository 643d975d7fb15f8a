package rule_test

import (
	"math"
	"slices"
	"testing"

	"withy/api"
	"withy/rule"
)

// always is a rule with these kinds for anybody, any purpose and any time.
func always(cats int, allow bool) api.Rule {
	return api.Rule{Role: -1, Why: -1, To: api.MaxTime, Cats: cats, Allow: allow}
}

// edges are numbers around end, around 0, and far from both.
func edges(end int) []int {
	return []int{
		math.MinInt, math.MinInt32, -256, -2, -1, 0, 1,
		end - 1, end, end + 1, end + 256, 1 << 32, 1<<32 + 1, math.MaxInt,
	}
}

type badRule struct {
	r    api.Rule
	want api.Errno
}

// badRules are no rules, each with the error that is told first.
func badRules() []badRule {
	return []badRule{
		{api.Rule{Role: -2, To: 1}, api.ErrArg},
		{api.Rule{Role: 8, To: 1}, api.ErrArg},
		{api.Rule{Why: -2, To: 1}, api.ErrArg},
		{api.Rule{Why: 4, To: 1}, api.ErrArg},
		{api.Rule{From: -1, To: 1}, api.ErrArg},
		{api.Rule{To: 1001}, api.ErrArg},
		{api.Rule{To: 1, Cats: -1}, api.ErrArg},
		{api.Rule{To: 1, Cats: 256}, api.ErrArg},
		{api.Rule{}, api.ErrForm},
		{api.Rule{Role: -1, Why: -1, Cats: 255, Allow: true}, api.ErrForm},
		{api.Rule{From: 3, To: 3}, api.ErrForm},
		{api.Rule{From: 4, To: 3}, api.ErrForm},
		{api.Rule{From: 1000, To: 1000}, api.ErrForm},
		{api.Rule{From: 1001, To: 1000}, api.ErrForm},
		{api.Rule{To: -1}, api.ErrForm},
		{api.Rule{To: math.MinInt}, api.ErrForm},
		{api.Rule{From: math.MaxInt, To: 5}, api.ErrForm},
		{api.Rule{From: math.MaxInt, To: math.MinInt}, api.ErrForm},
		// Where both errors apply ErrArg is told.
		{api.Rule{Role: -2}, api.ErrArg},
		{api.Rule{Role: 8, From: 3, To: 3}, api.ErrArg},
		{api.Rule{Why: -2}, api.ErrArg},
		{api.Rule{Why: 4, From: 4, To: 3}, api.ErrArg},
		{api.Rule{From: -1, To: -1}, api.ErrArg},
		{api.Rule{From: -1, To: -2}, api.ErrArg},
		{api.Rule{From: 1001, To: 1001}, api.ErrArg},
		{api.Rule{From: math.MaxInt, To: math.MaxInt}, api.ErrArg},
		{api.Rule{Cats: -1}, api.ErrArg},
		{api.Rule{From: 3, To: 3, Cats: 256}, api.ErrArg},
		{api.Rule{Role: math.MinInt, Why: math.MinInt, From: math.MinInt, To: math.MinInt, Cats: math.MinInt}, api.ErrArg},
	}
}

// badWhos may not be: just outside of a bound, or far outside of it.
func badWhos() []api.Who {
	return []api.Who{
		{Role: -1}, {Role: 8}, {Role: math.MinInt}, {Role: math.MaxInt}, {Role: 1 << 32},
		{Why: -1}, {Why: 4}, {Why: math.MinInt}, {Why: math.MaxInt},
		{Time: -1}, {Time: 1000}, {Time: math.MinInt}, {Time: math.MaxInt},
		{Role: -1, Why: -1, Time: -1}, {Role: 7, Why: 3, Time: 1000},
	}
}

func goodWhos() []api.Who {
	return []api.Who{{}, {Role: 7}, {Why: 3}, {Time: 999}, {Role: 7, Why: 3, Time: 999}, {Role: 3, Why: 1, Time: 500}}
}

// P10: what is no rule.
func TestOneRefuses(t *testing.T) {
	for _, x := range badRules() {
		for _, allow := range []bool{false, true} {
			x.r.Allow = allow
			if e := rule.One(x.r); e != x.want {
				t.Errorf("One(%v) = %v, want %v", x.r, e, x.want)
			}
		}
	}
}

// P10: each number for itself, at its bounds and outside of them.
func TestOneAtBounds(t *testing.T) {
	good := api.Rule{Role: 2, Why: 1, From: 10, To: 20, Cats: 5}
	tests := []struct {
		name     string
		min, end int
		set      func(r *api.Rule, n int)
	}{
		{"Role", -1, 8, func(r *api.Rule, n int) { r.Role = n }},
		{"Why", -1, 4, func(r *api.Rule, n int) { r.Why = n }},
		{"Cats", 0, 256, func(r *api.Rule, n int) { r.Cats = n }},
	}
	for _, x := range tests {
		for _, n := range edges(x.end) {
			r := good
			x.set(&r, n)
			want := api.ErrArg
			if n >= x.min && n < x.end {
				want = api.OK
			}
			if e := rule.One(r); e != want {
				t.Errorf("%s %d: One = %v, want %v", x.name, n, e, want)
			}
		}
	}
}

// P10: each two times, ErrArg ahead of ErrForm.
func TestOneTimes(t *testing.T) {
	times := append(edges(1000), 2, 499, 500, 501)
	for _, from := range times {
		for _, to := range times {
			want := api.OK
			if from < 0 || to > 1000 {
				want = api.ErrArg
			} else if from >= to {
				want = api.ErrForm
			}
			if e := rule.One(api.Rule{From: from, To: to}); e != want {
				t.Errorf("from %d to %d: One = %v, want %v", from, to, e, want)
			}
		}
	}
}

// P10: no rules, and as many as there may be.
func TestCheck(t *testing.T) {
	good := always(255, true)
	for n := range 21 {
		if e := rule.Check(slices.Repeat([]api.Rule{good}, n)); e != api.OK {
			t.Errorf("Check of %d rules = %v", n, e)
		}
	}
	for _, n := range []int{21, 22, 1000} {
		for _, r := range []api.Rule{good, {}, {Role: -2}} {
			if e := rule.Check(slices.Repeat([]api.Rule{r}, n)); e != api.ErrLarge {
				t.Errorf("Check of %d rules %v = %v", n, r, e)
			}
		}
	}
	if e := rule.Check(nil); e != api.OK {
		t.Errorf("Check(nil) = %v", e)
	}
}

// P10: at each place a rule is looked at, and the first wrong one is told.
func TestCheckOneByOne(t *testing.T) {
	for _, x := range badRules() {
		for _, other := range badRules() {
			for i := range api.MaxRules {
				l := slices.Repeat([]api.Rule{always(1, true)}, api.MaxRules)
				l[i] = x.r
				if i+1 < len(l) {
					l[i+1] = other.r
				}
				if e := rule.Check(l); e != x.want {
					t.Fatalf("Check with %v ahead of %v = %v, want %v", x.r, other.r, e, x.want)
				}
			}
		}
	}
}

// P11: at each bound, and outside of it.
func TestWho(t *testing.T) {
	for _, w := range goodWhos() {
		if !rule.Who(w) {
			t.Errorf("Who(%v) = false", w)
		}
	}
	for _, w := range badWhos() {
		if rule.Who(w) {
			t.Errorf("Who(%v) = true", w)
		}
	}
	for _, role := range edges(8) {
		for _, why := range edges(4) {
			for _, time := range edges(1000) {
				w := api.Who{Role: role, Why: why, Time: time}
				want := role >= 0 && role <= 7 && why >= 0 && why <= 3 && time >= 0 && time <= 999
				if rule.Who(w) != want {
					t.Errorf("Who(%v) = %v", w, !want)
				}
			}
		}
	}
}

// P12: the third example of the document: what is denied is not seen, whoever
// allows it, and wherever that stands.
func TestDeniedIsNotSeen(t *testing.T) {
	up := []int{0, 1, 2}
	allow := []api.Rule{
		always(255, true),
		{Role: 2, Why: 1, From: 5, To: 6, Cats: 255, Allow: true},
	}
	for _, deny := range []api.Rule{
		always(6, false),
		{Role: 0, Why: -1, To: 1000, Cats: 6},
		{Role: 2, Why: 1, From: 5, To: 6, Cats: 6},
	} {
		for i := range len(allow) + 1 {
			l := slices.Insert(slices.Clone(allow), i, deny)
			seen(t, up, l, api.Who{Role: 2, Why: 1, Time: 5}, 249)
		}
	}
}

// P12: nothing is seen that no rule allows.
func TestWhatNoRuleAllows(t *testing.T) {
	for _, l := range [][]api.Rule{nil, {}, {always(0, true)}, {always(255, false)}, {always(0, false)}} {
		seen(t, []int{0}, l, api.Who{}, 0)
	}
	seen(t, []int{0}, []api.Rule{always(1, true), always(0, false), always(128, true)}, api.Who{}, 129)
	seen(t, []int{0}, []api.Rule{always(3, true), always(4, false), always(3, true)}, api.Who{}, 3)
}

// P12: a rule is for who has its role, be it one that came with theirs; a rule
// for a role that there is not is for nobody.
func TestRolesOfRules(t *testing.T) {
	up := []int{0, 1, 2, 0, 8}
	var l []api.Rule
	for i := range api.MaxRoles {
		l = append(l, api.Rule{Role: i, Why: -1, To: 1000, Cats: 1 << i, Allow: true})
	}
	for i, want := range []int{1, 3, 7, 8, 24} {
		seen(t, up, l, api.Who{Role: i}, want)
	}
	deny := slices.Clone(l)
	for i := range deny {
		deny[i].Allow = false
	}
	for i, want := range []int{254, 252, 248, 247, 231} {
		seen(t, up, append(slices.Clone(deny), always(255, true)), api.Who{Role: i}, want)
	}
}

// P12: a rule asks for its purpose, or for any.
func TestPurposesOfRules(t *testing.T) {
	var l []api.Rule
	for why := -1; why < api.MaxWhy; why++ {
		l = append(l, api.Rule{Role: -1, Why: why, To: 1000, Cats: 1 << (why + 1), Allow: true})
	}
	for why, want := range []int{3, 5, 9, 17} {
		seen(t, []int{0}, l, api.Who{Why: why}, want)
	}
}

// P12, P10: a rule holds from From on, and not at To any more.
func TestTimesOfRules(t *testing.T) {
	l := []api.Rule{
		{Role: -1, Why: -1, To: 1, Cats: 1, Allow: true},
		{Role: -1, Why: -1, From: 10, To: 20, Cats: 2, Allow: true},
		{Role: -1, Why: -1, From: 999, To: 1000, Cats: 4, Allow: true},
		{Role: -1, Why: -1, From: 15, To: 16, Cats: 2},
	}
	for time := range api.MaxTime {
		want := 0
		switch {
		case time == 0:
			want = 1
		case time == 999:
			want = 4
		case time >= 10 && time <= 19 && time != 15:
			want = 2
		}
		seen(t, []int{0}, l, api.Who{Time: time}, want)
	}
}

func seen(t *testing.T, up []int, l []api.Rule, w api.Who, want int) {
	t.Helper()
	if n, e := rule.Sees(up, l, w); n != want || e != api.OK {
		t.Errorf("Sees(%v, %v, %v) = %v, %v, want %v", up, l, w, n, e, want)
	}
}

type badAsk struct {
	up   []int
	l    []api.Rule
	w    api.Who
	want api.Errno
}

// badAsks are refused by Sees; those that are wrong in more than one way tell
// which error is told first.
func badAsks() []badAsk {
	good := []api.Rule{always(255, true)}
	form, arg := []api.Rule{{}}, []api.Rule{{Role: -2}}
	large := slices.Repeat(form, 21)
	most := []int{0, 0, 0, 0, 0, 0, 0, 0}
	asks := []badAsk{
		{make([]int, 9), good, api.Who{}, api.ErrLarge},
		{[]int{1}, good, api.Who{}, api.ErrArg},
		{make([]int, 9), arg, api.Who{Role: -1}, api.ErrLarge},
		{[]int{1}, large, api.Who{}, api.ErrArg},
		{[]int{1}, form, api.Who{}, api.ErrArg},
		{[]int{-1}, form, api.Who{Role: 5}, api.ErrArg},
		{most, large, api.Who{}, api.ErrLarge},
		{most, form, api.Who{}, api.ErrForm},
		{most, arg, api.Who{}, api.ErrArg},
		{most, large, api.Who{Role: 8}, api.ErrLarge},
		{most, form, api.Who{Time: 1000}, api.ErrForm},
		{[]int{0}, large, api.Who{Role: 1}, api.ErrLarge},
		{[]int{0}, form, api.Who{Role: 1}, api.ErrForm},
		{[]int{0}, good, api.Who{Role: 1, Time: 1000}, api.ErrArg},
		{[]int{0}, good, api.Who{Role: 8}, api.ErrArg},
		{[]int{0}, good, api.Who{Role: 1}, api.ErrNone},
		{[]int{0}, good, api.Who{Role: 7}, api.ErrNone},
		{[]int{0}, nil, api.Who{Role: 1}, api.ErrNone},
		{nil, good, api.Who{}, api.ErrNone},
		{nil, nil, api.Who{Role: -1}, api.ErrArg},
		{most[:7], good, api.Who{Role: 7}, api.ErrNone},
	}
	for _, w := range badWhos() {
		asks = append(asks, badAsk{most, good, w, api.ErrArg}, badAsk{nil, nil, w, api.ErrArg})
	}
	return asks
}

// P12, P2: what is refused, by which error, and nothing else is answered.
func TestSeesRefuses(t *testing.T) {
	for _, x := range badAsks() {
		if n, e := rule.Sees(x.up, x.l, x.w); n != 0 || e != x.want {
			t.Errorf("Sees(%v, %v, %v) = %v, %v, want %v", x.up, x.l, x.w, n, e, x.want)
		}
	}
}

// P13, P2: May tells Sees' error, whatever the kinds are.
func TestMayRefusesWhatSeesRefuses(t *testing.T) {
	for _, x := range badAsks() {
		for _, cats := range []int{0, 1, 255, 256, -1} {
			if is, e := rule.May(x.up, x.l, x.w, cats); is || e != x.want {
				t.Errorf("May(%v, %v, %v, %v) = %v, %v, want %v", x.up, x.l, x.w, cats, is, e, x.want)
			}
		}
	}
}

// P13: of each number around the kinds, by what is seen.
func TestMay(t *testing.T) {
	for _, sees := range []int{0, 1, 128, 90, 254, 255} {
		l := []api.Rule{always(sees, true)}
		for cats := -300; cats <= 600; cats++ {
			want, wantErr := false, api.ErrArg
			if cats >= 0 && cats <= 255 {
				// All of them are seen, if what is seen gets no more by them.
				want, wantErr = sees|cats == sees, api.OK
			}
			if is, e := rule.May([]int{0}, l, api.Who{}, cats); is != want || e != wantErr {
				t.Errorf("May of %d, who sees %d = %v, %v", cats, sees, is, e)
			}
		}
		for _, cats := range []int{math.MinInt, 1 << 32, math.MaxInt} {
			if is, e := rule.May([]int{0}, l, api.Who{}, cats); is || e != api.ErrArg {
				t.Errorf("May of %d, who sees %d = %v, %v", cats, sees, is, e)
			}
		}
	}
}

// numbers makes the same numbers at each run.
type numbers uint64

func (n *numbers) below(end int) int {
	*n = *n*6364136223846793005 + 1442695040888963407
	return int(uint64(*n)>>33) % end
}

func (n *numbers) roles() []int {
	up := make([]int, 1+n.below(api.MaxRoles))
	for i := range up {
		up[i] = n.below(1<<i) & n.below(1<<i)
	}
	return up
}

func (n *numbers) rule() api.Rule {
	from := n.below(20)
	return api.Rule{
		Role:  n.below(api.MaxRoles+1) - 1,
		Why:   n.below(api.MaxWhy+1) - 1,
		From:  from,
		To:    from + 1 + n.below(20),
		Cats:  n.below(256) & n.below(256),
		Allow: n.below(3) > 0,
	}
}

func (n *numbers) rules() []api.Rule {
	l := make([]api.Rule, n.below(api.MaxRules+1))
	for i := range l {
		l[i] = n.rule()
	}
	return l
}

// hasRole goes from role to role, as P8 tells it.
func hasRole(up []int, i, k int) bool {
	if i == k {
		return true
	}
	for r := range i {
		if up[i]>>r%2 == 1 && hasRole(up, r, k) {
			return true
		}
	}
	return false
}

// wantKind goes by one kind only, and asks each rule of it.
func wantKind(up []int, l []api.Rule, w api.Who, kind int) bool {
	allowed := false
	for _, r := range l {
		isFor := (r.Role == -1 || hasRole(up, w.Role, r.Role)) &&
			(r.Why == -1 || r.Why == w.Why) && w.Time >= r.From && w.Time < r.To
		if !isFor || r.Cats>>kind%2 == 0 {
			continue
		}
		if !r.Allow {
			return false
		}
		allowed = true
	}
	return allowed
}

// P12, P13: many rules, held against a plain model, kind by kind.
func TestManyRules(t *testing.T) {
	n := numbers(1)
	for range 3000 {
		up, l := n.roles(), n.rules()
		for range 20 {
			w := api.Who{Role: n.below(len(up)), Why: n.below(api.MaxWhy), Time: n.below(42)}
			want := 0
			for kind := range api.MaxCats {
				is := wantKind(up, l, w, kind)
				if is {
					want += 1 << kind
				}
				if may, e := rule.May(up, l, w, 1<<kind); may != is || e != api.OK {
					t.Fatalf("May(%v, %v, %v, %v) = %v, %v", up, l, w, 1<<kind, may, e)
				}
			}
			seen(t, up, l, w, want)
		}
	}
}

// P2: neither a list nor the room behind it is changed.
func TestListsStay(t *testing.T) {
	roles := []int{0, 1, 3, -7, 99}
	rules := []api.Rule{always(3, true), always(1, false), {Role: 1, Why: 2, From: 3, To: 4, Cats: 5}, {Role: -9}}
	rolesBefore, rulesBefore := slices.Clone(roles), slices.Clone(rules)
	for _, n := range []int{0, 1, 2, 3, 4} {
		rule.Check(rules[:n])
		for _, w := range append(goodWhos(), badWhos()...) {
			rule.Sees(roles[:3], rules[:n], w)
			rule.May(roles[:3], rules[:n], w, 2)
		}
	}
	if !slices.Equal(roles, rolesBefore) || !slices.Equal(rules, rulesBefore) {
		t.Errorf("the lists are %v, %v, were %v, %v", roles, rules, rolesBefore, rulesBefore)
	}
}

// P2: what is answered hangs on the lists as they are now.
func TestNothingIsKept(t *testing.T) {
	up, l := []int{0, 1}, []api.Rule{{Role: 0, Why: -1, To: 1000, Cats: 7, Allow: true}}
	w := api.Who{Role: 1}
	seen(t, up, l, w, 7)
	l[0].Cats = 5
	seen(t, up, l, w, 5)
	up[1] = 0
	seen(t, up, l, w, 0)
}
