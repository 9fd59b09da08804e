package tuple_test

import (
	"math"
	"slices"
	"strings"
	"testing"
	"unsafe"

	"tuplestead/api"
	"tuplestead/plain"
	"tuplestead/tuple"
	"tuplestead/value"
)

func number(n int) api.Value  { return api.Value{Kind: api.Number, N: n} }
func text(s string) api.Value { return api.Value{Kind: api.Text, S: s} }

// row is fields in a row, in memory of its own.
func row(v ...api.Value) []api.Value { return slices.Clone(v) }

// times is as many fields that are all the same.
func times(n int, v api.Value) []api.Value { return slices.Repeat(row(v), n) }

var (
	anything = api.Value{Kind: api.Any}
	full     = api.Value{Kind: api.Text, S: "abcdefghijklm"}
	odd      = api.Value{Kind: api.Text, S: "A"}
	far      = api.Value{Kind: api.Number, N: api.MaxNumber + 1}
)

// printed: what may be asked for, and its text.
func printed() []struct {
	t []api.Value
	s string
} {
	return []struct {
		t []api.Value
		s string
	}{
		{row(number(0)), "0"},
		{row(number(-7)), "-7"},
		{row(text("")), ":"},
		{row(text("hello")), ":hello"},
		{row(anything), "*"},
		{row(number(1), number(2)), "1,2"},
		{row(number(2), number(1)), "2,1"},
		{row(number(1), number(2), number(3)), "1,2,3"},
		{row(number(12), number(3)), "12,3"},
		{row(text(""), text("")), ":,:"},
		{row(text("a"), number(1)), ":a,1"},
		{row(text("a"), text("b")), ":a,:b"},
		{row(anything, anything), "*,*"},
		{row(number(1), anything), "1,*"},
		{row(anything, text("a"), number(-1)), "*,:a,-1"},
		{row(number(0), text(""), number(-1_000_000), text("abcdefghijkl")), "0,:,-1000000,:abcdefghijkl"},
		{row(number(1), number(2), number(3), number(4), number(5)), "1,2,3,4,5"},
		{times(5, anything), "*,*,*,*,*"},
		{times(5, text("zzzzzzzzzzzz")), ":zzzzzzzzzzzz,:zzzzzzzzzzzz,:zzzzzzzzzzzz,:zzzzzzzzzzzz,:zzzzzzzzzzzz"},
	}
}

// faulty: what may not be asked for, and what is wrong with it.
func faulty() []struct {
	t    []api.Value
	want api.Errno
} {
	return []struct {
		t    []api.Value
		want api.Errno
	}{
		{nil, api.ErrNone},
		{[]api.Value{}, api.ErrNone},
		{times(3, odd)[:0], api.ErrNone},
		{times(6, number(1)), api.ErrFull},
		{times(6, anything), api.ErrFull},
		{times(6, far), api.ErrFull},
		{times(6, odd), api.ErrFull},
		{times(1<<16, text("a")), api.ErrFull},
		{row(far), api.ErrRange},
		{row(number(-api.MaxNumber - 1)), api.ErrRange},
		{row(api.Value{Kind: -1}), api.ErrRange},
		{row(api.Value{Kind: 3}), api.ErrRange},
		{row(api.Value{Kind: math.MinInt, N: math.MinInt}), api.ErrRange},
		{row(full), api.ErrFull},
		{row(odd), api.ErrShape},
		{row(text("a,b")), api.ErrShape},
		{row(api.Value{Kind: api.Text, N: 1}), api.ErrShape},
		{row(api.Value{Kind: api.Number, S: "a"}), api.ErrShape},
		{row(api.Value{Kind: api.Any, N: 1}), api.ErrShape},
		{row(far, full, odd), api.ErrRange},
		{row(full, odd, far), api.ErrFull},
		{row(odd, far, full), api.ErrShape},
		{row(number(1), far), api.ErrRange},
		{row(number(1), text("a"), full), api.ErrFull},
		{row(number(1), text("a"), anything, number(2), odd), api.ErrShape},
		{row(number(1), number(2), number(3), number(4), far), api.ErrRange},
		{row(anything, far), api.ErrRange},
		{row(anything, full), api.ErrFull},
		{row(far, anything), api.ErrRange},
	}
}

func hasAny(t []api.Value) bool { return slices.Contains(t, anything) }

// T1: Like and Check.

func TestLikeTakesWhatMayBeAskedFor(t *testing.T) {
	for _, c := range printed() {
		if err := tuple.Like(c.t); err != nil {
			t.Errorf("Like(%+v): %v", c.t, err)
		}
	}
}

func TestLikeTellsFaults(t *testing.T) {
	for _, c := range faulty() {
		if got := plain.Told(tuple.Like(c.t)); got != c.want {
			t.Errorf("Like(%+v): got %v, want %v", c.t[:min(len(c.t), 6)], got, c.want)
		}
	}
}

func TestLikeCountsTheFields(t *testing.T) {
	for n := range 12 {
		want := api.OK
		if n == 0 {
			want = api.ErrNone
		} else if n > 5 {
			want = api.ErrFull
		}
		if got := plain.Told(tuple.Like(times(n, text("a")))); got != want {
			t.Errorf("Like of %d fields: got %v, want %v", n, got, want)
		}
	}
}

func TestCheckTakesAllWithoutAny(t *testing.T) {
	for _, c := range printed() {
		want := api.OK
		if hasAny(c.t) {
			want = api.ErrShape
		}
		if got := plain.Told(tuple.Check(c.t)); got != want {
			t.Errorf("Check(%+v): got %v, want %v", c.t, got, want)
		}
	}
}

func TestCheckFindsAnyAtEveryPlace(t *testing.T) {
	for n := 1; n <= 5; n++ {
		for at := range n {
			r := times(n, number(1))
			r[at] = anything
			if got := plain.Told(tuple.Check(r)); got != api.ErrShape {
				t.Errorf("Check(%+v): got %v, want ErrShape", r, got)
			}
		}
	}
}

// What Like tells is told ahead of an Any.
func TestCheckTellsFaults(t *testing.T) {
	for _, c := range faulty() {
		if got := plain.Told(tuple.Check(c.t)); got != c.want {
			t.Errorf("Check(%+v): got %v, want %v", c.t[:min(len(c.t), 6)], got, c.want)
		}
	}
}

// T1: Fits.

func TestFits(t *testing.T) {
	for _, c := range []struct {
		like, t []api.Value
		want    bool
	}{
		{row(number(1)), row(number(1)), true},
		{row(number(1)), row(number(2)), false},
		{row(number(1)), row(number(-1)), false},
		{row(anything), row(number(1)), true},
		{row(anything), row(text("")), true},
		{row(number(0)), row(text("")), false},
		{row(text("")), row(number(0)), false},
		{row(text("a")), row(text("ab")), false},
		{row(text("ab")), row(text("a")), false},
		{row(anything), row(number(1), number(2)), false},
		{row(anything, anything), row(number(1)), false},
		{row(number(1)), row(number(1), number(1)), false},
		{row(number(1), number(1)), row(number(1)), false},
		{row(number(1), number(2)), row(number(1), number(2)), true},
		{row(number(1), number(2)), row(number(2), number(1)), false},
		{row(number(1), number(2)), row(number(1), number(3)), false},
		{row(number(1), number(2)), row(number(3), number(2)), false},
		{row(number(1), anything), row(number(1), text("a")), true},
		{row(anything, number(1)), row(text("a"), number(1)), true},
		{row(anything, number(1)), row(number(1), text("a")), false},
		{row(text("a"), anything, number(3)), row(text("a"), text("b"), number(3)), true},
		{row(text("a"), anything, number(3)), row(text("a"), text("b"), number(4)), false},
		{times(5, anything), row(number(1), text("a"), number(2), text("b"), number(3)), true},
		{times(5, anything), times(4, number(1)), false},
		{times(4, anything), times(5, number(1)), false},
	} {
		if got, err := tuple.Fits(c.like, c.t); got != c.want || err != nil {
			t.Errorf("Fits(%+v, %+v): got %v %v, want %v", c.like, c.t, got, err, c.want)
		}
	}
}

func TestEachFitsItselfAlone(t *testing.T) {
	for i, a := range printed() {
		for j, b := range printed() {
			if hasAny(a.t) || hasAny(b.t) {
				continue
			}
			if got, err := tuple.Fits(a.t, b.t); got != (i == j) || err != nil {
				t.Errorf("Fits(%+v, %+v): got %v %v, want %v", a.t, b.t, got, err, i == j)
			}
		}
	}
}

// What asks for less fits more: of a tuple, any of its fields may be left to anything.
func TestWhatAsksForLessFitsMore(t *testing.T) {
	whole := row(number(1), text("a"), number(-5), text(""), number(0))
	for n := 1; n <= 5; n++ {
		for open := range 1 << n {
			like := slices.Clone(whole[:n])
			for i := range n {
				if open>>i&1 == 1 {
					like[i] = anything
				}
			}
			if got, err := tuple.Fits(like, whole[:n]); !got || err != nil {
				t.Errorf("Fits(%+v, %+v): got %v %v, want true", like, whole[:n], got, err)
			}
			for i := range n {
				other := slices.Clone(whole[:n])
				other[i] = number(9)
				want := like[i] == anything
				if got, err := tuple.Fits(like, other); got != want || err != nil {
					t.Errorf("Fits(%+v, %+v): got %v %v, want %v", like, other, got, err, want)
				}
			}
		}
	}
}

func TestFitsTellsLikeAhead(t *testing.T) {
	for _, c := range faulty() {
		for _, good := range printed() {
			if is, err := tuple.Fits(c.t, good.t); is || plain.Told(err) != c.want {
				t.Errorf("Fits(%.3v, %v): got %v %v, want false %v", c.t[:min(len(c.t), 6)], good.t, is, err, c.want)
			}
			if is, err := tuple.Fits(good.t, c.t); is || plain.Told(err) != c.want {
				t.Errorf("Fits(%v, %v): got %v %v, want false %v", good.t, c.t[:min(len(c.t), 6)], is, err, c.want)
			}
		}
		for _, d := range faulty() {
			if is, err := tuple.Fits(c.t, d.t); is || plain.Told(err) != c.want {
				t.Errorf("Fits(%v, %v): got %v %v, want false %v",
					c.t[:min(len(c.t), 6)], d.t[:min(len(d.t), 6)], is, err, c.want)
			}
		}
	}
}

// An Any in the tuple is wrong whether the rest fits or not, and whatever the lengths are.
func TestFitsTakesNoAnyInTheTuple(t *testing.T) {
	for _, c := range []struct{ like, t []api.Value }{
		{row(anything), row(anything)},
		{row(number(1)), row(anything)},
		{row(number(1), number(2)), row(number(3), anything)},
		{row(number(1)), row(number(1), anything)},
		{row(number(1), number(2)), row(anything)},
	} {
		if is, err := tuple.Fits(c.like, c.t); is || plain.Told(err) != api.ErrShape {
			t.Errorf("Fits(%+v, %+v): got %v %v, want false ErrShape", c.like, c.t, is, err)
		}
	}
}

// T1: Print and Parse.

func TestPrintAndParseOfGoodTuples(t *testing.T) {
	for _, c := range printed() {
		if got, err := tuple.Print(c.t); got != c.s || err != nil {
			t.Errorf("Print(%+v): got %q %v, want %q", c.t, got, err, c.s)
		}
		if got, err := tuple.Parse(c.s); !slices.Equal(got, c.t) || err != nil {
			t.Errorf("Parse(%q): got %+v %v, want %+v", c.s, got, err, c.t)
		}
	}
}

func TestPrintTellsFaults(t *testing.T) {
	for _, c := range faulty() {
		if s, err := tuple.Print(c.t); s != "" || plain.Told(err) != c.want {
			t.Errorf("Print(%+v): got %q %v, want an empty text, %v", c.t[:min(len(c.t), 6)], s, err, c.want)
		}
	}
}

func TestParseTellsFaults(t *testing.T) {
	many := 1 << 20
	for _, c := range []struct {
		s    string
		want api.Errno
	}{
		{"", api.ErrNone},
		{",", api.ErrSyntax}, {",,", api.ErrSyntax}, {",,,,,,", api.ErrSyntax}, {"1,", api.ErrSyntax}, {",1", api.ErrSyntax},
		{"1,,2", api.ErrSyntax}, {":,", api.ErrSyntax}, {",:", api.ErrSyntax}, {" ", api.ErrSyntax}, {"1, 2", api.ErrSyntax},
		{"1 ,2", api.ErrSyntax}, {"1;2", api.ErrSyntax}, {"1.2", api.ErrSyntax}, {"1,2\n", api.ErrSyntax}, {"(1,2)", api.ErrSyntax},
		{"1,01", api.ErrSyntax}, {"1,-0", api.ErrSyntax}, {"1,a", api.ErrSyntax}, {"1,**", api.ErrSyntax}, {"1,10000000", api.ErrSyntax},
		{"1000001", api.ErrRange}, {"1,-1000001", api.ErrRange}, {"*,9999999", api.ErrRange},
		{":abcdefghijklm", api.ErrFull}, {"1,:abcdefghijklm", api.ErrFull}, {"1,:" + strings.Repeat("a", many), api.ErrFull},
		{":A", api.ErrShape}, {"1,::", api.ErrShape}, {":a :b", api.ErrShape}, {":a;:b", api.ErrShape}, {":a,:1", api.ErrShape},
		// Of several faults, that of the first field.
		{"1000001,:abcdefghijklm,:A,x", api.ErrRange}, {":abcdefghijklm,:A,x,1000001", api.ErrFull},
		{":A,x,1000001,:abcdefghijklm", api.ErrShape}, {"x,1000001,:abcdefghijklm,:A", api.ErrSyntax},
		// Too many fields are told behind what is wrong with any of them.
		{"1,2,3,4,5,6", api.ErrFull}, {"*,*,*,*,*,*,*", api.ErrFull}, {":,:,:,:,:,:", api.ErrFull},
		{"1,2,3,4,5,", api.ErrSyntax}, {",1,2,3,4,5", api.ErrSyntax}, {"1,2,3,4,5,x", api.ErrSyntax},
		{"1,2,3,4,5,1000001", api.ErrRange}, {"1,2,3,4,5,:A", api.ErrShape}, {"1,2,3,4,5,6,7,:A", api.ErrShape},
		{"1,2,:A,4,5,6", api.ErrShape}, {"1,2,3,4,5,6,7,8,9,10,11,12,x", api.ErrSyntax},
		{strings.Repeat("1,", many) + "1", api.ErrFull}, {strings.Repeat("1,", many), api.ErrSyntax},
		{strings.Repeat("1,", many) + "1000001", api.ErrRange}, {strings.Repeat(",", many), api.ErrSyntax},
	} {
		if got, err := tuple.Parse(c.s); got != nil || plain.Told(err) != c.want {
			t.Errorf("Parse(%.40q): got %+v %v, want nothing, %v", c.s, got, err, c.want)
		}
	}
}

// asWritten is Parse once more, as its words say it: the text is cut whole, and then gone over.
func asWritten(s string) ([]api.Value, api.Errno) {
	if s == "" {
		return nil, api.ErrNone
	}
	var out []api.Value
	for _, w := range strings.Split(s, ",") {
		v, err := value.Parse(w)
		if err != nil {
			return nil, plain.Told(err)
		}
		out = append(out, v)
	}
	if len(out) > api.MaxFields {
		return nil, api.ErrFull
	}
	return out, api.OK
}

// What Parse takes is just what Print gives: tried on all short texts of bytes that are near to a form.
func TestParseTakesJustWhatPrintGives(t *testing.T) {
	var try func(s string, more int)
	try = func(s string, more int) {
		got, err := tuple.Parse(s)
		want, wrong := asWritten(s)
		if !slices.Equal(got, want) || plain.Told(err) != wrong {
			t.Errorf("Parse(%q): got %+v %v, want %+v %v", s, got, err, want, wrong)
		}
		if err == nil {
			if back, err := tuple.Print(got); back != s || err != nil {
				t.Errorf("Print(Parse(%q)): got %q %v", s, back, err)
			}
		}
		if more == 0 {
			return
		}
		for _, c := range []byte("01-:*aA,\xff") {
			try(s+string([]byte{c}), more-1)
		}
	}
	try("", 5)
	try("1,:a,*,", 4)
}

// P2: nothing that is handed in is written into, nor read behind its length.

func TestNothingHandedInIsWrittenInto(t *testing.T) {
	behind := row(text("a"), number(1), odd, far)
	like := row(anything, number(1), full, odd)
	kept, keptLike := slices.Clone(behind), slices.Clone(like)
	if is, err := tuple.Fits(like[:2], behind[:2]); !is || err != nil {
		t.Errorf("Fits: got %v %v, want true", is, err)
	}
	if err := tuple.Check(behind[:2]); err != nil {
		t.Errorf("Check: %v", err)
	}
	if err := tuple.Like(like[:2]); err != nil {
		t.Errorf("Like: %v", err)
	}
	if s, err := tuple.Print(like[:2]); s != "*,1" || err != nil {
		t.Errorf("Print: got %q %v, want %q", s, err, "*,1")
	}
	if !slices.Equal(behind, kept) || !slices.Equal(like, keptLike) {
		t.Errorf("what was handed in was changed: %+v, %+v", like, behind)
	}
}

// P2: what comes out is fresh memory.

func TestParseSharesNoMemory(t *testing.T) {
	s := strings.Clone(":hello,:world,1")
	a, err := tuple.Parse(s)
	if err != nil {
		t.Fatalf("Parse(%q): %v", s, err)
	}
	b, err := tuple.Parse(s)
	if err != nil {
		t.Fatalf("Parse(%q): %v", s, err)
	}
	if unsafe.StringData(a[0].S) == unsafe.StringData(s[1:]) || unsafe.StringData(a[1].S) == unsafe.StringData(s[8:]) {
		t.Error("Parse answers a piece of the text that was handed in")
	}
	if unsafe.StringData(a[0].S) == unsafe.StringData(b[0].S) {
		t.Error("two answers of Parse share a text")
	}
	a[0], a[1], a[2] = odd, odd, odd
	if want := row(text("hello"), text("world"), number(1)); !slices.Equal(b, want) {
		t.Errorf("two answers of Parse share memory: %+v, want %+v", b, want)
	}
}

func TestPrintSharesNoMemory(t *testing.T) {
	word := strings.Clone("hello")
	s, err := tuple.Print(row(text(word)))
	if s != ":hello" || err != nil {
		t.Fatalf("Print: got %q %v", s, err)
	}
	if unsafe.StringData(s[1:]) == unsafe.StringData(word) {
		t.Error("Print answers a piece of a text that was handed in")
	}
}

func TestFreshSharesNoMemory(t *testing.T) {
	bytes := []byte("hello")
	r := row(text(unsafe.String(&bytes[0], len(bytes))), number(1), anything)
	a, b := tuple.Fresh(r), tuple.Fresh(r)
	copy(bytes, "XXXXX")
	r[1], r[2] = far, odd
	a[1], a[2] = odd, far
	if want := row(text("hello"), number(1), anything); !slices.Equal(b, want) {
		t.Errorf("Fresh shares memory: %+v, want %+v", b, want)
	}
	if unsafe.StringData(a[0].S) == unsafe.StringData(b[0].S) {
		t.Error("two answers of Fresh share a text")
	}
	if got := tuple.Fresh(nil); len(got) != 0 {
		t.Errorf("Fresh of none: %+v", got)
	}
}
