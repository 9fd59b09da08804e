package cover_test

import (
	"math"
	"math/big"
	"slices"
	"strconv"
	"strings"
	"testing"
	"unsafe"

	"tuplestead/api"
	"tuplestead/cover"
	"tuplestead/plain"
	"tuplestead/tuple"
)

func number(n int) api.Value  { return api.Value{Kind: api.Number, N: n} }
func text(s string) api.Value { return api.Value{Kind: api.Text, S: s} }

// row is fields in a row, in memory of its own.
func row(v ...api.Value) []api.Value { return slices.Clone(v) }

// times is as many fields that are all the same.
func times(n int, v api.Value) []api.Value { return slices.Repeat(row(v), n) }

var (
	anything = api.Value{Kind: api.Any}
	full     = api.Value{Kind: api.Text, S: "abcdefghijklm"}
	odd      = api.Value{Kind: api.Text, S: "A"}
	far      = api.Value{Kind: api.Number, N: api.MaxNumber + 1}
)

// noShow are numbers of which a field shows nothing that has a name.
var noShow = []int{math.MinInt, math.MinInt + 1, -1 << 32, -257, -3, -2, -1, 3, 4, 5, 256, 257, 1 << 32, 1<<32 + 1, math.MaxInt - 1, math.MaxInt}

type call func([]api.Value, []int) ([]api.Value, error)

// both calls, by name.
func both() map[string]call { return map[string]call{"Tuple": cover.Tuple, "Like": cover.Like} }

// want fails where a call does not give just these fields.
func want(t *testing.T, name string, r []api.Value, shows []int, fields []api.Value) {
	t.Helper()
	if got, err := both()[name](r, shows); err != nil || !slices.Equal(got, fields) {
		t.Fatalf("%s(%+v, %v): got %+v %v, want %+v", name, r, shows, got, err, fields)
	}
}

// wantNone fails where a call does not tell that error, and nothing beside it.
func wantNone(t *testing.T, name string, r []api.Value, shows []int, wrong api.Errno) {
	t.Helper()
	if got, err := both()[name](r, shows); got != nil || plain.Told(err) != wrong {
		t.Errorf("%s(%+v, %v): got %+v %v, want nothing, %v", name, r[:min(len(r), 6)], shows[:min(len(shows), 6)], got, err, wrong)
	}
}

// made is chapter 6's number, by whole numbers of any size, taken modulo at the end alone.
func made(v api.Value) int {
	s := strconv.Itoa(v.N)
	if v.Kind == api.Text {
		s = ":" + v.S
	}
	n := big.NewInt(7)
	for _, c := range []byte(s) {
		n.Mul(n, big.NewInt(31))
		n.Add(n, big.NewInt(int64(c)))
	}
	return int(n.Mod(n, big.NewInt(10007)).Int64())
}

// asWritten is one field once more, as the chapter's words say it.
func asWritten(name string, v api.Value, show int) api.Value {
	switch {
	case v == anything:
		return anything
	case show == 0:
		return v
	case show == 1:
		return number(made(v))
	case name == "Like":
		return anything
	}
	return number(0)
}

// allShows are all rows of so many.
func allShows(many int) [][]int {
	all := [][]int{nil}
	for range many {
		var longer [][]int
		for _, l := range all {
			for show := range 3 {
				longer = append(longer, append(slices.Clone(l), show))
			}
		}
		all = longer
	}
	return all
}

// allRows are all rows of so many fields out of a few.
func allRows(many int, some ...api.Value) [][]api.Value {
	all := [][]api.Value{nil}
	for range many {
		var longer [][]api.Value
		for _, r := range all {
			for _, v := range some {
				longer = append(longer, append(slices.Clone(r), v))
			}
		}
		all = longer
	}
	return all
}

// C1: Tuple.

func TestTuple(t *testing.T) {
	for _, c := range []struct {
		r      []api.Value
		shows  []int
		fields []api.Value
	}{
		{row(number(7)), []int{api.Open}, row(number(7))},
		{row(number(7)), []int{api.Likely}, row(number(272))},
		{row(number(7)), []int{api.Closed}, row(number(0))},
		{row(text("hello")), []int{0}, row(text("hello"))},
		{row(text("hello")), []int{1}, row(number(2227))},
		{row(text("hello")), []int{2}, row(number(0))},
		{row(text("")), []int{0}, row(text(""))},
		{row(text("")), []int{1}, row(number(275))},
		{row(text("")), []int{2}, row(number(0))},
		{row(number(0)), []int{0}, row(number(0))},
		{row(number(0)), []int{1}, row(number(265))},
		{row(number(0)), []int{2}, row(number(0))},
		// It is each field's own number, not the row's, and each field's own show.
		{row(text("hello"), number(42), text("ab")), []int{1, 0, 2}, row(number(2227), number(42), number(0))},
		{row(text("hello"), number(42), text("ab")), []int{2, 1, 0}, row(number(0), number(made(number(42))), text("ab"))},
		{row(text("hello"), number(42), text("ab")), []int{0, 2, 1}, row(text("hello"), number(0), number(7198))},
		{row(number(-1_000_000), number(1_000_000), text("zzzzzzzzzzzz")), []int{1, 1, 1}, row(number(6123), number(4139), number(4995))},
		{row(number(-1_000_000), number(1_000_000), text("zzzzzzzzzzzz")), []int{0, 0, 0}, row(number(-1_000_000), number(1_000_000), text("zzzzzzzzzzzz"))},
		// The least and the greatest number that may be made.
		{row(number(3441), number(3440), text("hhn"), text("hhm")), []int{1, 1, 1, 1}, row(number(0), number(10_006), number(0), number(10_006))},
		{times(5, text("ab")), []int{0, 1, 2, 1, 0}, row(text("ab"), number(7198), number(0), number(7198), text("ab"))},
		{times(5, number(9)), []int{2, 2, 2, 2, 2}, times(5, number(0))},
	} {
		want(t, "Tuple", c.r, c.shows, c.fields)
	}
}

// C1: Like.

func TestLike(t *testing.T) {
	for _, c := range []struct {
		r      []api.Value
		shows  []int
		fields []api.Value
	}{
		{row(number(7)), []int{api.Open}, row(number(7))},
		{row(number(7)), []int{api.Likely}, row(number(272))},
		{row(number(7)), []int{api.Closed}, row(anything)},
		{row(text("hello")), []int{0}, row(text("hello"))},
		{row(text("hello")), []int{1}, row(number(2227))},
		{row(text("hello")), []int{2}, row(anything)},
		{row(number(0)), []int{2}, row(anything)},
		{row(text("")), []int{2}, row(anything)},
		// Any stays Any, whatever is shown: it is not the number 259, which is made of it.
		{row(anything), []int{0}, row(anything)},
		{row(anything), []int{1}, row(anything)},
		{row(anything), []int{2}, row(anything)},
		{row(anything, number(42), text("ab")), []int{1, 1, 2}, row(anything, number(made(number(42))), anything)},
		{row(text("ab"), anything, number(3441)), []int{2, 1, 1}, row(anything, anything, number(0))},
		{row(text("ab"), anything, text("ab")), []int{1, 2, 0}, row(number(7198), anything, text("ab"))},
		{times(5, anything), []int{0, 1, 2, 1, 0}, times(5, anything)},
		{times(5, text("ab")), []int{0, 1, 2, 1, 0}, row(text("ab"), number(7198), anything, number(7198), text("ab"))},
		{times(5, number(9)), []int{2, 2, 2, 2, 2}, times(5, anything)},
	} {
		want(t, "Like", c.r, c.shows, c.fields)
	}
}

// All rows of one to five fields out of a few, by all shows.
func TestEveryRowByEveryShow(t *testing.T) {
	some := []api.Value{number(0), number(-1_000_000), text(""), text("zzzzzzzzzzzz"), anything}
	for many := 1; many <= 5; many++ {
		few := some[max(0, many-3):]
		for _, r := range allRows(many, few...) {
			for _, shows := range allShows(many) {
				for name := range both() {
					if name == "Tuple" && slices.Contains(r, anything) {
						wantNone(t, name, r, shows, api.ErrShape)
						continue
					}
					var fields []api.Value
					for i, v := range r {
						fields = append(fields, asWritten(name, v, shows[i]))
					}
					want(t, name, r, shows, fields)
				}
			}
		}
	}
}

func TestLikelyOfManyValues(t *testing.T) {
	for n := -1_000_000; n <= 1_000_000; n += 997 {
		for name := range both() {
			want(t, name, row(number(n)), []int{1}, row(number(made(number(n)))))
		}
	}
	letters := strings.Repeat("thequickbrownfoxjumpsoverthelazydog", 2)
	for size := range 13 {
		for at := range len(letters) - size {
			v := text(letters[at : at+size])
			for name := range both() {
				want(t, name, row(v), []int{1}, row(number(made(v))))
			}
		}
	}
}

// What is asked for finds it, covered or not: if a tuple fits, it fits when both are covered
// alike; and what comes of each may be handed on.
func TestWhoAsksForItFindsIt(t *testing.T) {
	found, lost := 0, 0
	values := []api.Value{number(0), number(52), number(1200), text(""), text("ab")}
	for many := 1; many <= 3; many++ {
		for _, r := range allRows(many, values...) {
			for _, like := range allRows(many, append(slices.Clone(values), anything)...) {
				fits, err := tuple.Fits(like, r)
				if err != nil {
					t.Fatal(err)
				}
				for _, shows := range allShows(many) {
					coveredRow, errRow := cover.Tuple(r, shows)
					coveredLike, errLike := cover.Like(like, shows)
					covered, err := tuple.Fits(coveredLike, coveredRow)
					if errRow != nil || errLike != nil || err != nil {
						t.Fatalf("%+v, %+v by %v: %v, %v, %v", like, r, shows, errLike, errRow, err)
					}
					if fits && !covered {
						t.Fatalf("%+v fits %+v, but by %v %+v does not fit %+v", r, like, shows, coveredRow, coveredLike)
					}
					if covered {
						found++
					} else {
						lost++
					}
				}
			}
		}
	}
	if found == 0 || lost == 0 {
		t.Errorf("found %d, lost %d: it was not tried on both", found, lost)
	}
}

// Of a closed field nothing is seen, neither what it is nor of which kind.
func TestClosedFieldsAreAllAlike(t *testing.T) {
	all := row(number(0), number(1), number(-1_000_000), number(1_000_000), text(""), text("a"), text("zzzzzzzzzzzz"))
	for _, v := range all {
		want(t, "Tuple", row(text("k"), v, number(3)), []int{0, 2, 1}, row(text("k"), number(0), number(268)))
	}
	for _, v := range append(all, anything) {
		want(t, "Like", row(text("k"), v, number(3)), []int{0, 2, 1}, row(text("k"), anything, number(268)))
	}
}

// Faults of a row: chapter 2's, told ahead of all that is wrong with the shows.

func TestFaultsOfTheRow(t *testing.T) {
	for _, c := range []struct {
		r     []api.Value
		wrong api.Errno
	}{
		{nil, api.ErrNone},
		{[]api.Value{}, api.ErrNone},
		{times(3, number(1))[:0], api.ErrNone},
		{times(6, number(1)), api.ErrFull},
		{times(6, far), api.ErrFull},
		{times(6, anything), api.ErrFull},
		{times(1<<16, odd), api.ErrFull},
		{row(far), api.ErrRange},
		{row(number(math.MinInt)), api.ErrRange},
		{row(api.Value{Kind: 3}), api.ErrRange},
		{row(api.Value{Kind: -1}), api.ErrRange},
		{row(api.Value{Kind: math.MaxInt, N: 1, S: "A"}), api.ErrRange},
		{row(full), api.ErrFull},
		{row(text(strings.Repeat("a", 1<<16))), api.ErrFull},
		{row(odd), api.ErrShape},
		{row(text("\xff")), api.ErrShape},
		{row(api.Value{Kind: api.Number, S: "a"}), api.ErrShape},
		{row(api.Value{Kind: api.Text, N: 1}), api.ErrShape},
		{row(api.Value{Kind: api.Any, N: 1}), api.ErrShape},
		{row(api.Value{Kind: api.Any, S: "a"}), api.ErrShape},
		{row(far, full, odd), api.ErrRange},
		{row(full, odd, far), api.ErrFull},
		{row(odd, far, full), api.ErrShape},
		{row(anything, far), api.ErrRange},
		{row(anything, full), api.ErrFull},
		{row(number(1), number(2), number(3), number(4), far), api.ErrRange},
	} {
		for name := range both() {
			for show := range 3 {
				// A field that is not shown has its faults, too.
				wantNone(t, name, c.r, slices.Repeat([]int{show}, len(c.r)), c.wrong)
			}
			wantNone(t, name, c.r, nil, c.wrong)
			wantNone(t, name, c.r, []int{-1, 3, -1, 3, -1, 3, -1}, c.wrong)
			wantNone(t, name, c.r, slices.Repeat([]int{3}, len(c.r)), c.wrong)
		}
	}
}

// Any may be asked for, but is none of a tuple's fields, wherever it stands and whatever is shown of it.
func TestTupleTellsAny(t *testing.T) {
	for many := 1; many <= 5; many++ {
		for place := range many {
			r := times(many, number(1))
			r[place] = anything
			for _, shows := range allShows(many) {
				wantNone(t, "Tuple", r, shows, api.ErrShape)
			}
			for _, no := range noShow {
				wantNone(t, "Tuple", r, slices.Repeat([]int{no}, many), api.ErrShape)
			}
		}
	}
}

// Faults of the shows.

func TestNotAsManyShows(t *testing.T) {
	for fields := 1; fields <= 5; fields++ {
		for _, shows := range []int{0, 1, 2, 3, 4, 5, 6, 7, 1 << 16} {
			if shows == fields {
				continue
			}
			for name := range both() {
				for _, show := range []int{0, 1, 2} {
					wantNone(t, name, times(fields, text("a")), slices.Repeat([]int{show}, shows), api.ErrShape)
				}
				// It is told ahead of what is wrong with one of them.
				for _, no := range noShow {
					wantNone(t, name, times(fields, text("a")), slices.Repeat([]int{no}, shows), api.ErrShape)
				}
			}
			wantNone(t, "Like", times(fields, anything), make([]int, shows), api.ErrShape)
		}
	}
}

// One that may not be is enough, wherever it stands, also where Any would stay as it is.
func TestShowsThatMayNotBe(t *testing.T) {
	for fields := 1; fields <= 5; fields++ {
		for place := range fields {
			for _, no := range noShow {
				for show := range 3 {
					shows := slices.Repeat([]int{show}, fields)
					shows[place] = no
					for name := range both() {
						wantNone(t, name, times(fields, text("a")), shows, api.ErrRange)
						wantNone(t, name, times(fields, number(0)), shows, api.ErrRange)
					}
					wantNone(t, "Like", times(fields, anything), shows, api.ErrRange)
				}
			}
		}
	}
}

// P2 and P4 of the whole: lists are left as they were, and what lies behind their length is not looked at.
func TestListsAreLeftAsTheyWere(t *testing.T) {
	whole, shows := row(text("hello"), number(42), odd, far), []int{1, 2, -1, 3}
	keptWhole, keptShows := slices.Clone(whole), slices.Clone(shows)
	for range 3 {
		want(t, "Tuple", whole[:2], shows[:2], row(number(2227), number(0)))
		want(t, "Like", whole[:2], shows[:2], row(number(2227), anything))
		for name := range both() {
			wantNone(t, name, whole, shows, api.ErrShape)
			wantNone(t, name, whole[:2], shows, api.ErrShape)
			wantNone(t, name, whole[:2], shows[1:3], api.ErrRange)
		}
	}
	if !slices.Equal(whole, keptWhole) || !slices.Equal(shows, keptShows) {
		t.Errorf("what was handed in was changed: %+v %v", whole, shows)
	}
}

// P2 of the whole: what comes out is fresh memory, also where a field is shown as it is.
func TestWhatComesOutIsFresh(t *testing.T) {
	for name, ask := range both() {
		bytes := []byte("hello")
		r, shows := row(text(unsafe.String(&bytes[0], len(bytes))), number(1), number(2)), []int{0, 0, 1}
		a, err := ask(r, shows)
		if err != nil {
			t.Fatal(err)
		}
		b, err := ask(r, shows)
		if err != nil {
			t.Fatal(err)
		}
		if unsafe.StringData(a[0].S) == unsafe.StringData(b[0].S) {
			t.Errorf("%s: two answers share a text", name)
		}
		copy(bytes, "XXXXX")
		r[1], r[2], shows[1] = far, odd, 2
		whole := a[:cap(a)]
		for i := range whole {
			whole[i] = odd
		}
		if fields := row(text("hello"), number(1), number(267)); !slices.Equal(b, fields) {
			t.Errorf("%s shares memory: %+v, want %+v", name, b, fields)
		}
		if !slices.Equal(r[1:], row(far, odd)) {
			t.Errorf("%s: writing into an answer changed what was handed in: %+v", name, r)
		}
	}
}
