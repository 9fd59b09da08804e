package value_test

import (
	"math"
	"strings"
	"testing"
	"unsafe"

	"tuplestead/api"
	"tuplestead/plain"
	"tuplestead/value"
)

func number(n int) api.Value  { return api.Value{Kind: api.Number, N: n} }
func text(s string) api.Value { return api.Value{Kind: api.Text, S: s} }

var (
	anything = api.Value{Kind: api.Any}
	nothing  = api.Value{}
)

// ranked: good values, each ahead of those behind it.
func ranked() []api.Value {
	return []api.Value{
		number(-1_000_000), number(-999_999), number(-10), number(-9), number(-1),
		number(0), number(1), number(9), number(10), number(999_999), number(1_000_000),
		text(""), text("a"), text("aa"), text("aaaaaaaaaaaa"), text("ab"), text("abc"), text("b"),
		text("ba"), text("z"), text("zzzzzzzzzzz"), text("zzzzzzzzzzzz"),
		anything,
	}
}

// faulty: wrong values, and what is wrong with each.
func faulty() []struct {
	v    api.Value
	want api.Errno
} {
	long := strings.Repeat("a", 13)
	return []struct {
		v    api.Value
		want api.Errno
	}{
		{api.Value{Kind: -1}, api.ErrRange},
		{api.Value{Kind: 3}, api.ErrRange},
		{api.Value{Kind: math.MinInt}, api.ErrRange},
		{api.Value{Kind: math.MaxInt}, api.ErrRange},
		{api.Value{Kind: 3, N: 1, S: long + "A"}, api.ErrRange},
		{number(1_000_001), api.ErrRange},
		{number(-1_000_001), api.ErrRange},
		{number(math.MaxInt), api.ErrRange},
		{number(math.MinInt), api.ErrRange},
		{api.Value{Kind: api.Number, N: 1_000_001, S: "a"}, api.ErrRange},
		{api.Value{Kind: api.Number, S: "a"}, api.ErrShape},
		{api.Value{Kind: api.Number, N: 1, S: "A"}, api.ErrShape},
		{api.Value{Kind: api.Number, S: long}, api.ErrShape},
		{text(long), api.ErrFull},
		{text(strings.Repeat("a", 1<<20)), api.ErrFull},
		{text(long + "A"), api.ErrFull},
		{api.Value{Kind: api.Text, N: 1, S: long}, api.ErrFull},
		{api.Value{Kind: api.Text, N: 1}, api.ErrShape},
		{api.Value{Kind: api.Text, N: -1, S: "a"}, api.ErrShape},
		{api.Value{Kind: api.Text, N: 1_000_001, S: "a"}, api.ErrShape},
		{text("A"), api.ErrShape},
		{text("a`"), api.ErrShape},
		{text("{a"), api.ErrShape},
		{text("a b"), api.ErrShape},
		{text("aaaaaaaaaaa,"), api.ErrShape},
		{text("a\x00"), api.ErrShape},
		{text("\xff"), api.ErrShape},
		{text("é"), api.ErrShape},
		{api.Value{Kind: api.Any, N: 1}, api.ErrShape},
		{api.Value{Kind: api.Any, N: math.MinInt}, api.ErrShape},
		{api.Value{Kind: api.Any, S: "a"}, api.ErrShape},
		{api.Value{Kind: api.Any, S: long}, api.ErrShape},
	}
}

// V1: Check.

func TestCheckTakesGoodValues(t *testing.T) {
	for _, v := range ranked() {
		if err := value.Check(v); err != nil {
			t.Errorf("Check(%+v): %v", v, err)
		}
	}
}

func TestCheckTellsFaults(t *testing.T) {
	for _, c := range faulty() {
		if got := plain.Told(value.Check(c.v)); got != c.want {
			t.Errorf("Check(%+v): got %v, want %v", c.v, got, c.want)
		}
	}
}

func TestCheckTakesOnlySmallLetters(t *testing.T) {
	for c := range 256 {
		want := api.ErrShape
		if strings.IndexByte("abcdefghijklmnopqrstuvwxyz", byte(c)) >= 0 {
			want = api.OK
		}
		for _, s := range []string{string([]byte{byte(c)}), string([]byte{'a', byte(c), 'z'})} {
			if got := plain.Told(value.Check(text(s))); got != want {
				t.Errorf("Check of the text %q: got %v, want %v", s, got, want)
			}
		}
	}
}

// V1: Order.

func TestOrderOfGoodValues(t *testing.T) {
	all := ranked()
	for i, a := range all {
		for j, b := range all {
			want := 0
			if i < j {
				want = -1
			} else if i > j {
				want = 1
			}
			if got, err := value.Order(a, b); got != want || err != nil {
				t.Errorf("Order(%+v, %+v): got %d %v, want %d", a, b, got, err, want)
			}
		}
	}
}

func TestOrderTellsTheFirstFault(t *testing.T) {
	for _, c := range faulty() {
		for _, good := range ranked() {
			if n, err := value.Order(c.v, good); n != 0 || plain.Told(err) != c.want {
				t.Errorf("Order(%+v, %+v): got %d %v, want 0 %v", c.v, good, n, err, c.want)
			}
			if n, err := value.Order(good, c.v); n != 0 || plain.Told(err) != c.want {
				t.Errorf("Order(%+v, %+v): got %d %v, want 0 %v", good, c.v, n, err, c.want)
			}
		}
		for _, d := range faulty() {
			if n, err := value.Order(c.v, d.v); n != 0 || plain.Told(err) != c.want {
				t.Errorf("Order(%+v, %+v): got %d %v, want 0 %v", c.v, d.v, n, err, c.want)
			}
		}
	}
}

// V1: Fits.

func TestFitsOfGoodValues(t *testing.T) {
	all := ranked()
	for i, like := range all {
		for j, v := range all {
			want, wrong := i == j || like == anything, api.OK
			if v == anything {
				want, wrong = false, api.ErrShape
			}
			if got, err := value.Fits(like, v); got != want || plain.Told(err) != wrong {
				t.Errorf("Fits(%+v, %+v): got %v %v, want %v %v", like, v, got, err, want, wrong)
			}
		}
	}
}

func TestFitsTellsTheFirstFault(t *testing.T) {
	for _, c := range faulty() {
		for _, good := range ranked() {
			if is, err := value.Fits(c.v, good); is || plain.Told(err) != c.want {
				t.Errorf("Fits(%+v, %+v): got %v %v, want false %v", c.v, good, is, err, c.want)
			}
			if is, err := value.Fits(good, c.v); is || plain.Told(err) != c.want {
				t.Errorf("Fits(%+v, %+v): got %v %v, want false %v", good, c.v, is, err, c.want)
			}
		}
		for _, d := range faulty() {
			if is, err := value.Fits(c.v, d.v); is || plain.Told(err) != c.want {
				t.Errorf("Fits(%+v, %+v): got %v %v, want false %v", c.v, d.v, is, err, c.want)
			}
		}
	}
}

// V2: Print and Parse.

func TestPrintAndParseOfGoodValues(t *testing.T) {
	for _, c := range []struct {
		v api.Value
		s string
	}{
		{number(0), "0"}, {number(7), "7"}, {number(-7), "-7"}, {number(10), "10"}, {number(-100), "-100"},
		{number(999_999), "999999"}, {number(1_000_000), "1000000"}, {number(-1_000_000), "-1000000"},
		{text(""), ":"}, {text("a"), ":a"}, {text("hello"), ":hello"}, {text("abcdefghijkl"), ":abcdefghijkl"},
		{anything, "*"},
	} {
		if got, err := value.Print(c.v); got != c.s || err != nil {
			t.Errorf("Print(%+v): got %q %v, want %q", c.v, got, err, c.s)
		}
		if got, err := value.Parse(c.s); got != c.v || err != nil {
			t.Errorf("Parse(%q): got %+v %v, want %+v", c.s, got, err, c.v)
		}
	}
}

func TestEveryNumberIsReadAsItWas(t *testing.T) {
	for n := -api.MaxNumber; n <= api.MaxNumber; n++ {
		s, err := value.Print(number(n))
		if err != nil {
			t.Fatalf("Print of %d: %v", n, err)
		}
		if v, err := value.Parse(s); v != number(n) || err != nil {
			t.Fatalf("Parse(%q): got %+v %v, want the number %d", s, v, err, n)
		}
	}
}

func TestPrintTellsFaults(t *testing.T) {
	for _, c := range faulty() {
		if s, err := value.Print(c.v); s != "" || plain.Told(err) != c.want {
			t.Errorf("Print(%+v): got %q %v, want an empty text, %v", c.v, s, err, c.want)
		}
	}
}

func TestParseTellsFaults(t *testing.T) {
	many := 1 << 20
	for _, c := range []struct {
		s    string
		want api.Errno
	}{
		{"", api.ErrSyntax}, {" ", api.ErrSyntax}, {"-", api.ErrSyntax}, {"--1", api.ErrSyntax}, {"+1", api.ErrSyntax},
		{"-0", api.ErrSyntax}, {"00", api.ErrSyntax}, {"01", api.ErrSyntax}, {"-01", api.ErrSyntax}, {"-00", api.ErrSyntax},
		{"0000000", api.ErrSyntax}, {"00000000", api.ErrSyntax}, {"0x1", api.ErrSyntax}, {"1_0", api.ErrSyntax},
		{"1 ", api.ErrSyntax}, {" 1", api.ErrSyntax}, {"1.0", api.ErrSyntax}, {"1e3", api.ErrSyntax}, {"1-", api.ErrSyntax},
		{"1:", api.ErrSyntax}, {"0:abc", api.ErrSyntax}, {"a", api.ErrSyntax}, {"-a", api.ErrSyntax}, {"-:a", api.ErrSyntax},
		{"**", api.ErrSyntax}, {"*a", api.ErrSyntax}, {"-*", api.ErrSyntax}, {" :a", api.ErrSyntax}, {"1\n", api.ErrSyntax},
		{"\x00", api.ErrSyntax}, {"\xff", api.ErrSyntax}, {"\u0661", api.ErrSyntax},
		{"10000000", api.ErrSyntax}, {"-10000000", api.ErrSyntax}, {"9223372036854775808", api.ErrSyntax},
		{strings.Repeat("1", many), api.ErrSyntax}, {strings.Repeat("-", many), api.ErrSyntax},
		{"1000001", api.ErrRange}, {"-1000001", api.ErrRange}, {"9999999", api.ErrRange}, {"-9999999", api.ErrRange},
		{":abcdefghijklm", api.ErrFull}, {":ABCDEFGHIJKLM", api.ErrFull}, {":" + strings.Repeat("a", many), api.ErrFull},
		{":A", api.ErrShape}, {"::", api.ErrShape}, {":a ", api.ErrShape}, {":*", api.ErrShape}, {":1", api.ErrShape},
		{":hel0lo", api.ErrShape}, {":a\n", api.ErrShape}, {":\xff", api.ErrShape}, {":ABCDEFGHIJKL", api.ErrShape},
	} {
		if v, err := value.Parse(c.s); v != nothing || plain.Told(err) != c.want {
			t.Errorf("Parse(%.40q): got %+v %v, want nothing, %v", c.s, v, err, c.want)
		}
	}
}

// What Parse takes is just what Print gives: tried on all short texts of bytes that are near to a form.
func TestParseTakesJustWhatPrintGives(t *testing.T) {
	var try func(s string, more int)
	try = func(s string, more int) {
		v, err := value.Parse(s)
		if err != nil && (v != nothing || plain.Told(err) <= api.OK) {
			t.Errorf("Parse(%q): got %+v %v", s, v, err)
		}
		if err == nil {
			if back, err := value.Print(v); back != s || err != nil {
				t.Errorf("Print(Parse(%q)): got %q %v", s, back, err)
			}
		}
		if more == 0 {
			return
		}
		for _, c := range []byte("0129-+:*a`z{ _,\n\x00\xff") {
			try(s+string([]byte{c}), more-1)
		}
	}
	try("", 4)
}

// P2: what Parse answers is fresh memory.
func TestParseSharesNoMemory(t *testing.T) {
	s := strings.Clone(":hello")
	v, err := value.Parse(s)
	if v != text("hello") || err != nil {
		t.Fatalf("Parse(%q): got %+v %v", s, v, err)
	}
	if unsafe.StringData(v.S) == unsafe.StringData(s[1:]) {
		t.Error("Parse answers a piece of the text that was handed in")
	}
}
