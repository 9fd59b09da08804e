package rule_test

import (
	"math"
	"math/rand"
	"reflect"
	"slices"
	"strings"
	"testing"
	"unsafe"

	"tuplestead/api"
	"tuplestead/plain"
	"tuplestead/rule"
)

func number(n int) api.Value  { return api.Value{Kind: api.Number, N: n} }
func text(s string) api.Value { return api.Value{Kind: api.Text, S: s} }

// row is fields in a row, in memory of its own.
func row(v ...api.Value) []api.Value { return slices.Clone(v) }

// times is as many fields that are all the same.
func times(n int, v api.Value) []api.Value { return slices.Repeat(row(v), n) }

// let and forbid make one rule.
func let(deed, who int, like ...api.Value) api.Rule {
	return api.Rule{Deed: deed, Who: who, Like: row(like...), May: true}
}
func forbid(deed, who int, like ...api.Value) api.Rule {
	return api.Rule{Deed: deed, Who: who, Like: row(like...)}
}

// rules is a list of them.
func rules(r ...api.Rule) []api.Rule { return slices.Clone(r) }

// same is as many rules that are all the same.
func same(n int, r api.Rule) []api.Rule { return slices.Repeat(rules(r), n) }

var (
	anything = api.Value{Kind: api.Any}
	full     = api.Value{Kind: api.Text, S: "abcdefghijklm"}
	odd      = api.Value{Kind: api.Text, S: "A"}
	far      = api.Value{Kind: api.Number, N: api.MaxNumber + 1}
	good     = let(api.Put, 0, anything)
)

// noDeed, noWho and noRuleWho are numbers that may not be.
var (
	noDeed    = []int{math.MinInt, math.MinInt + 1, -1 << 32, -256, -3, -2, -1, 3, 4, 256, 257, 1 << 32, 1<<32 + 1, math.MaxInt - 1, math.MaxInt}
	noRuleWho = []int{math.MinInt, math.MinInt + 1, -1 << 32, -1_000_001, -1_000_000, -256, -3, -2, 1_000_001, 1_000_002, 1 << 32, 1<<32 + 1, math.MaxInt - 1, math.MaxInt}
	noWho     = append(slices.Clone(noRuleWho), -1)
)

// badRow is a row that is no tuple, and what is wrong with it; likeToo, where nobody may ask for it either.
type badRow struct {
	r       []api.Value
	wrong   api.Errno
	likeToo bool
}

func badRows() []badRow {
	return []badRow{
		{nil, api.ErrNone, true},
		{[]api.Value{}, api.ErrNone, true},
		{times(3, number(1))[:0], api.ErrNone, true},
		{times(6, number(1)), api.ErrFull, true},
		{times(6, far), api.ErrFull, true},
		{times(6, anything), api.ErrFull, true},
		{times(1<<12, odd), api.ErrFull, true},
		{row(far), api.ErrRange, true},
		{row(number(-1_000_001)), api.ErrRange, true},
		{row(number(math.MinInt)), api.ErrRange, true},
		{row(api.Value{Kind: 3}), api.ErrRange, true},
		{row(api.Value{Kind: -1}), api.ErrRange, true},
		{row(full), api.ErrFull, true},
		{row(text(strings.Repeat("a", 1<<12))), api.ErrFull, true},
		{row(odd), api.ErrShape, true},
		{row(text("\xff")), api.ErrShape, true},
		{row(api.Value{Kind: api.Number, S: "a"}), api.ErrShape, true},
		{row(api.Value{Kind: api.Text, N: 1}), api.ErrShape, true},
		{row(api.Value{Kind: api.Any, N: 1}), api.ErrShape, true},
		{row(far, full, odd), api.ErrRange, true},
		{row(full, odd, far), api.ErrFull, true},
		{row(odd, far, full), api.ErrShape, true},
		{row(anything, far), api.ErrRange, true},
		{row(anything, full), api.ErrFull, true},
		{row(number(1), number(2), number(3), number(4), far), api.ErrRange, true},
		{row(anything), api.ErrShape, false},
		{row(number(1), number(2), number(3), number(4), anything), api.ErrShape, false},
	}
}

// wantCheck fails where Check does not tell that error.
func wantCheck(t *testing.T, l []api.Rule, wrong api.Errno) {
	t.Helper()
	if err := rule.Check(l); plain.Told(err) != wrong || (err == nil) != (wrong == api.OK) {
		t.Errorf("Check of %+v: got %v, want %v", l[:min(len(l), 9)], err, wrong)
	}
}

// wantPlace fails where the first rule is not at that place, or does not decide.
func wantPlace(t *testing.T, l []api.Rule, who, deed int, r []api.Value, place int) {
	t.Helper()
	if got, err := rule.First(l, who, deed, r); err != nil || got != place {
		t.Fatalf("First(%+v, %d, %d, %+v): got %d %v, want %d", l, who, deed, r, got, err, place)
	}
	if may, err := rule.May(l, who, deed, r); err != nil || may != l[place].May {
		t.Fatalf("May(%+v, %d, %d, %+v): got %t %v, want %t", l, who, deed, r, may, err, l[place].May)
	}
}

// wantNoRule fails where a rule goes, or where May tells an error of it.
func wantNoRule(t *testing.T, l []api.Rule, who, deed int, r []api.Value) {
	t.Helper()
	if got, err := rule.First(l, who, deed, r); got != 0 || plain.Told(err) != api.ErrNone {
		t.Fatalf("First(%+v, %d, %d, %+v): got %d %v, want 0 ErrNone", l, who, deed, r, got, err)
	}
	if may, err := rule.May(l, who, deed, r); may || err != nil {
		t.Fatalf("May(%+v, %d, %d, %+v): got %t %v, want false, no error", l, who, deed, r, may, err)
	}
}

// wantFault fails where First and May do not both tell that error, and nothing beside it.
func wantFault(t *testing.T, l []api.Rule, who, deed int, r []api.Value, wrong api.Errno) {
	t.Helper()
	if got, err := rule.First(l, who, deed, r); got != 0 || plain.Told(err) != wrong {
		t.Errorf("First(%d rules, %d, %d, %d fields): got %d %v, want 0 %v", len(l), who, deed, len(r), got, err, wrong)
	}
	if may, err := rule.May(l, who, deed, r); may || plain.Told(err) != wrong {
		t.Errorf("May(%d rules, %d, %d, %d fields): got %t %v, want false %v", len(l), who, deed, len(r), may, err, wrong)
	}
}

// IsWho and IsDeed tell the numbers for the layers below, too.
func TestIsWhoAndIsDeed(t *testing.T) {
	for _, who := range []int{0, 1, 2, 3, 999_999, 1_000_000} {
		if !rule.IsWho(who) {
			t.Errorf("IsWho(%d): got false", who)
		}
	}
	for _, no := range noWho {
		if rule.IsWho(no) {
			t.Errorf("IsWho(%d): got true", no)
		}
	}
	for _, deed := range []int{api.Put, api.Read, api.Take} {
		if !rule.IsDeed(deed) {
			t.Errorf("IsDeed(%d): got false", deed)
		}
	}
	for _, no := range noDeed {
		if rule.IsDeed(no) {
			t.Errorf("IsDeed(%d): got true", no)
		}
	}
}

// Fresh is for those who keep rules: nothing of the list that was handed in is left in it.
func TestFreshSharesNothing(t *testing.T) {
	for _, l := range [][]api.Rule{nil, {}} {
		if got := rule.Fresh(l); len(got) != 0 {
			t.Errorf("Fresh of no rule: got %+v", got)
		}
	}
	bytes := []byte("hello")
	l := rules(let(api.Put, -1, text(unsafe.String(&bytes[0], len(bytes))), number(3)), forbid(api.Take, 7, anything))
	want := rules(let(api.Put, -1, text("hello"), number(3)), forbid(api.Take, 7, anything))
	got := rule.Fresh(l)
	copy(bytes, "XXXXX")
	l[0].Like[1], l[1].Like[0] = far, far
	l[0], l[1] = good, good
	if !reflect.DeepEqual(got, want) {
		t.Errorf("Fresh: got %+v, want %+v", got, want)
	}
}

// R1: Check.

func TestCheckTakesRules(t *testing.T) {
	for _, l := range [][]api.Rule{
		nil,
		{},
		rules(good),
		rules(let(api.Put, -1, anything), forbid(api.Read, 0, number(1)), let(api.Take, api.MaxNumber, text(""))),
		rules(let(0, -1, times(5, anything)...), let(1, 1, times(5, text("zzzzzzzzzzzz"))...), let(2, 999_999, number(-1_000_000), number(1_000_000))),
		same(8, good),
		same(8, forbid(api.Take, -1, anything, anything)),
	} {
		wantCheck(t, l, api.OK)
	}
}

func TestCheckTellsTooMany(t *testing.T) {
	for n := range 20 {
		wrong := api.OK
		if n > 8 {
			wrong = api.ErrFull
		}
		wantCheck(t, same(n, good), wrong)
	}
	for _, r := range []api.Rule{let(3, 0, anything), let(0, -2, anything), let(0, 0), let(0, 0, odd)} {
		wantCheck(t, same(9, r), api.ErrFull)
		wantCheck(t, same(1<<12, r), api.ErrFull)
	}
}

// One number that may not be is enough, wherever the rule stands.
func TestCheckTellsNumbers(t *testing.T) {
	for many := 1; many <= 8; many++ {
		for place := range many {
			for _, deed := range noDeed {
				l := same(many, good)
				l[place].Deed = deed
				wantCheck(t, l, api.ErrRange)
			}
			for _, who := range noRuleWho {
				l := same(many, good)
				l[place].Who = who
				wantCheck(t, l, api.ErrRange)
			}
		}
	}
	for deed := range 3 {
		for _, who := range []int{-1, 0, 1, 2, 256, 999_999, 1_000_000} {
			wantCheck(t, rules(let(deed, who, anything)), api.OK)
		}
	}
}

func TestCheckTellsWhatIsWrongWithLike(t *testing.T) {
	for _, c := range badRows() {
		wrong := api.OK
		if c.likeToo {
			wrong = c.wrong
		}
		for many := 1; many <= 8; many++ {
			for place := range many {
				l := same(many, good)
				l[place].Like = c.r
				wantCheck(t, l, wrong)
			}
		}
		// What is wrong with its numbers is told ahead of it.
		wantCheck(t, rules(api.Rule{Deed: 3, Like: c.r}), api.ErrRange)
		wantCheck(t, rules(api.Rule{Who: -2, Like: c.r}), api.ErrRange)
	}
}

// All that is wrong with a rule is told ahead of what is wrong with the next.
func TestCheckGoesOneByOne(t *testing.T) {
	wrong := []struct {
		r    api.Rule
		told api.Errno
	}{
		{let(-1, 0, anything), api.ErrRange},
		{let(0, 1_000_001, anything), api.ErrRange},
		{let(0, 0), api.ErrNone},
		{let(0, 0, times(6, anything)...), api.ErrFull},
		{let(0, 0, odd), api.ErrShape},
		{let(0, 0, far), api.ErrRange},
		{let(3, -2, odd), api.ErrRange},
	}
	for _, a := range wrong {
		for _, b := range wrong {
			wantCheck(t, rules(a.r, b.r), a.told)
			wantCheck(t, rules(good, a.r, good, b.r, good), a.told)
		}
	}
}

// R1: First, and May by it.

func TestFirstAndMay(t *testing.T) {
	l := rules(
		forbid(api.Put, 3, text("a"), number(1)),
		let(api.Put, 3, text("a"), anything),
		forbid(api.Put, -1, text("a"), anything),
		let(api.Put, -1, anything, anything),
		let(api.Read, 1_000_000, anything),
		forbid(api.Read, 0, anything),
		let(api.Take, -1, number(-1_000_000)),
		forbid(api.Take, 7, anything),
	)
	for _, c := range []struct {
		who, deed int
		r         []api.Value
		place     int
	}{
		{3, api.Put, row(text("a"), number(1)), 0},
		{3, api.Put, row(text("a"), number(2)), 1},
		{3, api.Put, row(text("a"), text("b")), 1},
		{3, api.Put, row(text("b"), text("a")), 3},
		{4, api.Put, row(text("a"), number(1)), 2},
		{0, api.Put, row(text("a"), number(2)), 2},
		{1_000_000, api.Put, row(number(1), number(1)), 3},
		{0, api.Put, row(text(""), text("")), 3},
		{1_000_000, api.Read, row(number(0)), 4},
		{0, api.Read, row(text("zzzzzzzzzzzz")), 5},
		{7, api.Take, row(number(-1_000_000)), 6},
		{0, api.Take, row(number(-1_000_000)), 6},
		{7, api.Take, row(number(1_000_000)), 7},
	} {
		wantPlace(t, l, c.who, c.deed, c.r, c.place)
	}
	for _, c := range []struct {
		who, deed int
		r         []api.Value
	}{
		{3, api.Put, row(text("a"))},
		{3, api.Put, row(text("a"), number(1), number(1))},
		{3, api.Read, row(text("a"), number(1))},
		{1, api.Read, row(number(0))},
		{999_999, api.Read, row(number(0))},
		{6, api.Take, row(number(1_000_000))},
		{8, api.Take, row(text("a"))},
		{0, api.Take, row(number(-999_999))},
	} {
		wantNoRule(t, l, c.who, c.deed, c.r)
	}
}

// Without a rule nothing may be done.
func TestNoRules(t *testing.T) {
	for _, l := range [][]api.Rule{nil, {}, same(3, good)[:0]} {
		for deed := range 3 {
			for _, who := range []int{0, 1, 1_000_000} {
				wantNoRule(t, l, who, deed, row(number(1)))
			}
		}
	}
}

// A rule is of its own deed and of its own who alone, but for one of anybody.
func TestOfThisDeedAndThisWho(t *testing.T) {
	some := []int{0, 1, 2, 3, 999_999, 1_000_000}
	for ruleDeed := range 3 {
		for deed := range 3 {
			for _, ruleWho := range append(slices.Clone(some), -1) {
				for _, who := range some {
					for _, may := range []bool{false, true} {
						l := rules(api.Rule{Deed: ruleDeed, Who: ruleWho, Like: row(anything), May: may})
						if ruleDeed == deed && (ruleWho == who || ruleWho == -1) {
							wantPlace(t, l, who, deed, row(number(1)), 0)
						} else {
							wantNoRule(t, l, who, deed, row(number(1)))
						}
					}
				}
			}
		}
	}
}

// The first rule decides, whether it is of one or of anybody, and whatever those behind it say.
func TestTheFirstDecides(t *testing.T) {
	one, all := forbid(1, 5, number(1)), let(1, -1, anything)
	wantPlace(t, rules(one, all), 5, 1, row(number(1)), 0)
	wantPlace(t, rules(all, one), 5, 1, row(number(1)), 0)
	wantPlace(t, rules(one, all), 6, 1, row(number(1)), 1)
	wantPlace(t, rules(one, all), 5, 1, row(number(2)), 1)
	for place := range 8 {
		l := same(8, let(0, 5, anything))
		for i := place; i < 8; i++ {
			l[i] = let(1, 5, anything)
		}
		l[place].May = false
		wantPlace(t, l, 5, 1, row(number(1)), place)
	}
}

// firstAsWritten is the place once more, as the chapter's words say it; below 0 if there is none.
func firstAsWritten(l []api.Rule, who, deed int, r []api.Value) int {
	for place, x := range l {
		if x.Deed != deed || x.Who >= 0 && x.Who != who || len(x.Like) != len(r) {
			continue
		}
		fits := true
		for i, v := range x.Like {
			fits = fits && (v.Kind == 2 || v == r[i])
		}
		if fits {
			return place
		}
	}
	return -1
}

func TestManyRules(t *testing.T) {
	dice := rand.New(rand.NewSource(13))
	values := row(number(0), number(1), text(""), text("a"), anything, anything)
	some := func(kinds int) []api.Value {
		var r []api.Value
		for range 1 + dice.Intn(2) {
			r = append(r, values[dice.Intn(kinds)])
		}
		return r
	}
	went, not, may := make([]int, 8), 0, 0
	for range 50_000 {
		var l []api.Rule
		for range dice.Intn(9) {
			l = append(l, api.Rule{Deed: dice.Intn(3), Who: dice.Intn(4) - 1, Like: some(6), May: dice.Intn(2) == 0})
		}
		who, deed, r := dice.Intn(3), dice.Intn(3), some(4)
		place := firstAsWritten(l, who, deed, r)
		if place < 0 {
			wantNoRule(t, l, who, deed, r)
			not++
			continue
		}
		wantPlace(t, l, who, deed, r, place)
		went[place]++
		if l[place].May {
			may++
		}
	}
	if slices.Contains(went, 0) || not == 0 || may == 0 {
		t.Errorf("went %v, not %d, may %d: it was not tried on all", went, not, may)
	}
}

// Faults of First and May.

func TestRulesThatAreWrong(t *testing.T) {
	for _, c := range []struct {
		l     []api.Rule
		wrong api.Errno
	}{
		{same(9, good), api.ErrFull},
		{rules(let(3, 0, anything)), api.ErrRange},
		{rules(let(0, -2, anything)), api.ErrRange},
		{rules(let(0, 0)), api.ErrNone},
		{rules(let(0, 0, odd)), api.ErrShape},
		{rules(let(0, 0, full)), api.ErrFull},
		// A rule that would not be asked has its faults, too.
		{rules(good, let(1, 5, far)), api.ErrRange},
		{append(same(7, good), let(2, 1)), api.ErrNone},
	} {
		wantFault(t, c.l, 0, 0, row(number(1)), c.wrong)
		// It is told ahead of what is wrong with all that is asked.
		wantFault(t, c.l, -1, 0, row(number(1)), c.wrong)
		wantFault(t, c.l, 0, 3, row(number(1)), c.wrong)
		wantFault(t, c.l, 0, 0, nil, c.wrong)
		wantFault(t, c.l, -1, -1, times(6, odd), c.wrong)
	}
}

func TestNumbersThatAreWrong(t *testing.T) {
	for _, l := range [][]api.Rule{nil, rules(good), rules(let(0, -1, anything), let(1, -1, anything), let(2, -1, anything))} {
		for _, who := range noWho {
			for deed := range 3 {
				wantFault(t, l, who, deed, row(number(1)), api.ErrRange)
			}
		}
		for _, deed := range noDeed {
			for _, who := range []int{0, 1, 1_000_000} {
				wantFault(t, l, who, deed, row(number(1)), api.ErrRange)
			}
		}
		// It is told ahead of what is wrong with the tuple.
		for _, c := range badRows() {
			wantFault(t, l, -1, 0, c.r, api.ErrRange)
			wantFault(t, l, 0, 3, c.r, api.ErrRange)
		}
	}
}

// A tuple of no field is a fault that May tells, other than that no rule goes.
func TestTuplesThatAreWrong(t *testing.T) {
	for _, l := range [][]api.Rule{nil, rules(good), same(8, let(2, -1, anything))} {
		for _, c := range badRows() {
			for deed := range 3 {
				wantFault(t, l, 0, deed, c.r, c.wrong)
			}
		}
	}
}

// P2 and P4 of the whole: lists are left as they were, what lies behind their length is not
// looked at, and asked again the answer is the same.
func TestListsAreLeftAsTheyWere(t *testing.T) {
	laid := func() ([]api.Rule, []api.Value) {
		whole := append(same(8, forbid(1, 5, text("a"), number(1), far)), let(1, 5, anything))
		for i := range whole[:8] {
			whole[i].Like = whole[i].Like[:2]
		}
		return whole, row(text("a"), number(1), odd, anything)
	}
	l, r := laid()
	for range 3 {
		wantCheck(t, l[:8], api.OK)
		wantCheck(t, l, api.ErrFull)
		wantPlace(t, l[:8], 5, 1, r[:2], 0)
		wantNoRule(t, l[:8], 5, 1, r[:1])
		wantFault(t, l[:8], 5, 1, r[:3], api.ErrShape)
		wantFault(t, l, 5, 1, r[:2], api.ErrFull)
	}
	keptRules, keptRow := laid()
	if !reflect.DeepEqual(l, keptRules) || !slices.Equal(r, keptRow) {
		t.Errorf("what was handed in was changed: %+v %+v", l, r)
	}
	if behind := l[0].Like[:3][2]; behind != far {
		t.Errorf("what lies behind a rule's length was changed: %+v", behind)
	}
}
