package digest_test

import (
	"math"
	"math/big"
	"slices"
	"strconv"
	"strings"
	"testing"

	"tuplestead/api"
	"tuplestead/digest"
	"tuplestead/plain"
	"tuplestead/tuple"
	"tuplestead/value"
)

func number(n int) api.Value  { return api.Value{Kind: api.Number, N: n} }
func text(s string) api.Value { return api.Value{Kind: api.Text, S: s} }

// row is fields in a row, in memory of its own.
func row(v ...api.Value) []api.Value { return slices.Clone(v) }

// times is as many fields that are all the same.
func times(n int, v api.Value) []api.Value { return slices.Repeat(row(v), n) }

var (
	anything = api.Value{Kind: api.Any}
	full     = api.Value{Kind: api.Text, S: "abcdefghijklm"}
	odd      = api.Value{Kind: api.Text, S: "A"}
	far      = api.Value{Kind: api.Number, N: api.MaxNumber + 1}
)

// inOneGo makes the number of a text by whole numbers of any size, and takes it modulo at the end alone.
func inOneGo(s string) int {
	n := big.NewInt(7)
	for _, c := range []byte(s) {
		n.Mul(n, big.NewInt(31))
		n.Add(n, big.NewInt(int64(c)))
	}
	return int(n.Mod(n, big.NewInt(10007)).Int64())
}

// P1: Value.

func TestValue(t *testing.T) {
	for _, c := range []struct {
		v    api.Value
		want int
	}{
		{number(0), 7*31 + '0'},
		{number(1), 7*31 + '1'},
		{number(9), 274},
		{number(10), (7*31+'1')*31 + '0'},
		{number(12), 8296},
		{number(-1), 8171},
		{number(-7), 8177},
		{number(999_999), 7484},
		{number(1_000_000), 4139},
		{number(-1_000_000), 6123},
		{text(""), 7*31 + ':'},
		{text("a"), (7*31+':')*31 + 'a'},
		{text("z"), 8647},
		{text("ab"), 7198},
		{text("ba"), 7228},
		{text("hello"), 2227},
		{text("abcdefghijkl"), 8131},
		{text("zzzzzzzzzzzz"), 4995},
		{anything, 7*31 + '*'},
		// The least and the greatest that may come of it, and what is next to them.
		{number(3440), 10_006}, {number(3441), 0}, {number(3442), 1},
		{number(-11_261), 10_006}, {number(-11_262), 0}, {number(-11_263), 1},
		{text("hhm"), 10_006}, {text("hhn"), 0}, {text("rug"), 10_006}, {text("ruh"), 0},
		// Two may have one number.
		{number(52), 8420}, {number(1200), 8420},
	} {
		if got, err := digest.Value(c.v); got != c.want || err != nil {
			t.Errorf("Value(%+v): got %d %v, want %d", c.v, got, err, c.want)
		}
	}
}

func TestValueOfManyNumbers(t *testing.T) {
	for n := -1_000_000; n <= 1_000_000; n += 13 {
		if got, err := digest.Value(number(n)); got != inOneGo(strconv.Itoa(n)) || err != nil {
			t.Fatalf("Value of the number %d: got %d %v, want %d", n, got, err, inOneGo(strconv.Itoa(n)))
		}
	}
}

func TestValueOfManyTexts(t *testing.T) {
	letters := strings.Repeat("thequickbrownfoxjumpsoverthelazydog", 2)
	for size := range 13 {
		for at := range len(letters) - size {
			s := letters[at : at+size]
			if got, err := digest.Value(text(s)); got != inOneGo(":"+s) || err != nil {
				t.Errorf("Value of the text %q: got %d %v, want %d", s, got, err, inOneGo(":"+s))
			}
		}
	}
}

func TestValueTellsFaults(t *testing.T) {
	for _, c := range []struct {
		v    api.Value
		want api.Errno
	}{
		{api.Value{Kind: -1}, api.ErrRange},
		{api.Value{Kind: 3}, api.ErrRange},
		{api.Value{Kind: math.MinInt, N: math.MinInt, S: "A"}, api.ErrRange},
		{api.Value{Kind: math.MaxInt, N: math.MaxInt}, api.ErrRange},
		{far, api.ErrRange},
		{number(-1_000_001), api.ErrRange},
		{number(math.MaxInt), api.ErrRange},
		{number(math.MinInt), api.ErrRange},
		{api.Value{Kind: api.Number, N: 1_000_001, S: "a"}, api.ErrRange},
		{api.Value{Kind: api.Number, N: 1, S: "a"}, api.ErrShape},
		{full, api.ErrFull},
		{text(strings.Repeat("a", 1<<20)), api.ErrFull},
		{api.Value{Kind: api.Text, N: 1, S: "ABCDEFGHIJKLM"}, api.ErrFull},
		{api.Value{Kind: api.Text, N: 1, S: "a"}, api.ErrShape},
		{odd, api.ErrShape},
		{text("a,b"), api.ErrShape},
		{text("\xff"), api.ErrShape},
		{api.Value{Kind: api.Any, N: 1}, api.ErrShape},
		{api.Value{Kind: api.Any, S: "a"}, api.ErrShape},
	} {
		if n, err := digest.Value(c.v); n != 0 || plain.Told(err) != c.want {
			t.Errorf("Value(%.40v): got %d %v, want 0 %v", c.v, n, err, c.want)
		}
		if got := plain.Told(value.Check(c.v)); got != c.want {
			t.Errorf("Check(%.40v) tells another fault: %v, want %v", c.v, got, c.want)
		}
	}
}

// P1: Tuple.

func TestTuple(t *testing.T) {
	for _, c := range []struct {
		t    []api.Value
		want int
	}{
		{row(number(0)), 265},
		{row(text("")), 275},
		{row(anything), 259},
		{row(number(12)), 8296},
		{row(number(1), number(2)), 6865},
		{row(number(2), number(1)), 7825},
		{row(number(1), anything), 6857},
		{row(text(""), text("")), 5515},
		{row(text("a"), text("b")), 2478},
		{row(text("hello"), number(42)), 2065},
		{row(anything, number(42)), 4390},
		{row(anything, anything), 130},
		{row(number(0), text(""), number(-1_000_000), text("abcdefghijkl")), 8149},
		{row(number(1), number(2), number(3), number(4), number(5)), 3817},
		{times(5, anything), 6052},
		{times(5, text("")), 4665},
		{times(5, number(-1_000_000)), 8485},
		{times(5, text("zzzzzzzzzzzz")), 1674},
	} {
		if got, err := digest.Tuple(c.t); got != c.want || err != nil {
			t.Errorf("Tuple(%+v): got %d %v, want %d", c.t, got, err, c.want)
		}
	}
}

func TestTupleOfOneFieldIsAsItsValue(t *testing.T) {
	for _, v := range []api.Value{number(0), number(-1_000_000), number(3441), text(""), text("zzzzzzzzzzzz"), anything} {
		want, wrong := digest.Value(v)
		if got, err := digest.Tuple(row(v)); got != want || err != nil || wrong != nil {
			t.Errorf("Tuple of %+v alone: got %d %v, Value gives %d %v", v, got, err, want, wrong)
		}
	}
}

// All rows of one to five fields out of a few.
func TestTupleOfManyRows(t *testing.T) {
	some := []api.Value{number(0), number(-1_000_000), text(""), text("zzzzzzzzzzzz"), text("q"), anything}
	var try func(r []api.Value)
	try = func(r []api.Value) {
		for _, v := range some {
			longer := append(slices.Clone(r), v)
			s, err := tuple.Print(longer)
			if err != nil {
				t.Fatalf("Print(%+v): %v", longer, err)
			}
			if got, err := digest.Tuple(longer); got != inOneGo(s) || err != nil {
				t.Fatalf("Tuple(%+v): got %d %v, want %d", longer, got, err, inOneGo(s))
			}
			if len(longer) < 5 {
				try(longer)
			}
		}
	}
	try(nil)
}

func TestTupleTellsFaults(t *testing.T) {
	for _, c := range []struct {
		t    []api.Value
		want api.Errno
	}{
		{nil, api.ErrNone},
		{[]api.Value{}, api.ErrNone},
		{times(3, odd)[:0], api.ErrNone},
		{times(6, number(1)), api.ErrFull},
		{times(6, anything), api.ErrFull},
		{times(6, far), api.ErrFull},
		{times(1<<16, odd), api.ErrFull},
		{row(far), api.ErrRange},
		{row(api.Value{Kind: 3}), api.ErrRange},
		{row(full), api.ErrFull},
		{row(odd), api.ErrShape},
		{row(api.Value{Kind: api.Any, N: 1}), api.ErrShape},
		{row(far, full, odd), api.ErrRange},
		{row(full, odd, far), api.ErrFull},
		{row(odd, far, full), api.ErrShape},
		{row(anything, far), api.ErrRange},
		{row(number(1), number(2), number(3), number(4), odd), api.ErrShape},
	} {
		short := c.t[:min(len(c.t), 6)]
		if n, err := digest.Tuple(c.t); n != 0 || plain.Told(err) != c.want {
			t.Errorf("Tuple(%+v): got %d %v, want 0 %v", short, n, err, c.want)
		}
		if got := plain.Told(tuple.Like(c.t)); got != c.want {
			t.Errorf("Like(%+v) tells another fault: %v, want %v", short, got, c.want)
		}
	}
}

// P1: Text, by which the layers below make a number of bytes in the same way.

func TestText(t *testing.T) {
	every := make([]byte, 256)
	for i := range every {
		every[i] = byte(i)
	}
	for _, s := range []string{"", "0", "\n", "1\n2\n", ":hello", "*,42", "\x00", "\x00\x00", "\xff", "é", string(every), strings.Repeat("\xff", 5_000)} {
		if got := digest.Text(s); got != inOneGo(s) {
			t.Errorf("Text(%.40q): got %d, want %d", s, got, inOneGo(s))
		}
	}
	if got := digest.Text(""); got != 7 {
		t.Errorf("Text of no byte: got %d, want 7", got)
	}
}

// P2 and P4 of the whole: nothing that is handed in is written into, nor read behind its
// length, and what was asked ahead, a fault or not, changes no answer.

func TestTupleLeavesWhatIsHandedIn(t *testing.T) {
	whole := row(text("hello"), number(42), odd, far)
	kept := slices.Clone(whole)
	for range 3 {
		if n, err := digest.Tuple(whole[:2]); n != 2065 || err != nil {
			t.Errorf("Tuple: got %d %v, want 2065", n, err)
		}
		if n, err := digest.Tuple(whole); n != 0 || plain.Told(err) != api.ErrShape {
			t.Errorf("Tuple: got %d %v, want 0 ErrShape", n, err)
		}
	}
	if !slices.Equal(whole, kept) {
		t.Errorf("what was handed in was changed: %+v, want %+v", whole, kept)
	}
}
