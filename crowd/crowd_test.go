package crowd_test

import (
	"math"
	"slices"
	"strconv"
	"strings"
	"testing"
	"unsafe"

	"tuplestead/api"
	"tuplestead/crowd"
	"tuplestead/mirror"
	"tuplestead/plain"
)

func number(n int) api.Value  { return api.Value{Kind: api.Number, N: n} }
func text(s string) api.Value { return api.Value{Kind: api.Text, S: s} }

// row is fields in a row, in memory of its own.
func row(v ...api.Value) []api.Value { return slices.Clone(v) }

// times is as many fields that are all the same.
func times(n int, v api.Value) []api.Value { return slices.Repeat(row(v), n) }

// put, read and take are what somebody asks.
func put(who, seq int, v ...api.Value) api.Ask {
	return api.Ask{Who: who, Seq: seq, Deed: api.Put, Tuple: row(v...)}
}
func read(who, seq int, v ...api.Value) api.Ask {
	return api.Ask{Who: who, Seq: seq, Deed: api.Read, Tuple: row(v...)}
}
func take(who, seq int, v ...api.Value) api.Ask {
	return api.Ask{Who: who, Seq: seq, Deed: api.Take, Tuple: row(v...)}
}

// let and forbid make one rule.
func let(deed, who int, like ...api.Value) api.Rule {
	return api.Rule{Deed: deed, Who: who, Like: row(like...), May: true}
}
func forbid(deed, who int, like ...api.Value) api.Rule {
	return api.Rule{Deed: deed, Who: who, Like: row(like...)}
}

// ones lets anybody do everything with tuples of one field.
func ones() []api.Rule {
	return []api.Rule{let(api.Put, -1, anything), let(api.Read, -1, anything), let(api.Take, -1, anything)}
}

var (
	anything = api.Value{Kind: api.Any}
	long     = api.Value{Kind: api.Text, S: "abcdefghijklm"}
	odd      = api.Value{Kind: api.Text, S: "A"}
	far      = api.Value{Kind: api.Number, N: api.MaxNumber + 1}
	deeds    = []int{api.Put, api.Read, api.Take}
	needs    = []int{0, 1, 1, 1, 2, 2, 2, 3} // by how many copies there are
)

// noCopies are numbers of which there may not be as many copies.
var noCopies = []int{math.MinInt, math.MinInt + 1, -1 << 32, -1<<32 + 1, -1_000_000, -256, -8, -7, -3, -2, -1, 0, 8, 9, 10, 30, 256, 257, 1_000_000, 1 << 32, 1<<32 + 1, math.MaxInt - 1, math.MaxInt}

// lies are what each says, by words: a dot is the empty text, that is no lie.
func lies(words string) (l []string) {
	for _, w := range strings.Fields(words) {
		if w == "." {
			w = ""
		}
		l = append(l, w)
	}
	return l
}

// made is a crowd of so many, with these rules.
func made(t *testing.T, n int, l []api.Rule) *crowd.Crowd {
	t.Helper()
	c, err := crowd.New(n, l)
	if err != nil || c == nil {
		t.Fatalf("New(%d, %+v): got %v", n, l, err)
	}
	return c
}

// copyOf is one copy that is honest, by which a crowd is held.
func copyOf(t *testing.T, l []api.Rule) *mirror.Copy {
	t.Helper()
	c, err := mirror.New(l)
	if err != nil {
		t.Fatal(err)
	}
	return c
}

func says(t *testing.T, c *crowd.Crowd, a api.Ask, l []string, want string) {
	t.Helper()
	if got, err := c.Do(a, l); got != want || err != nil {
		t.Errorf("Do(%+v, %.200q): got %.200q %v, want %.200q", a, l, got, err, want)
	}
}

func tells(t *testing.T, c *crowd.Crowd, a api.Ask, l []string, told api.Errno) {
	t.Helper()
	if got, err := c.Do(a, l); got != "" || plain.Told(err) != told {
		t.Errorf("Do(%.200v, %.200q): got %.200q %v, want %v", a, l[:min(len(l), 9)], got, err, told)
	}
}

// marks asks that each of so many copies did so much, and has these tuples.
func marks(t *testing.T, c *crowd.Crowd, n, count int, want ...string) {
	t.Helper()
	mark := 7
	for _, s := range want {
		for _, b := range []byte(s + "\n") {
			mark = (31*mark + int(b)) % 10_007
		}
	}
	for i := range n {
		if got, m, err := c.Mark(i); got != count || m != mark || err != nil {
			t.Errorf("Mark(%d) of %d: got %d %d %v, want %d %d", i, n, got, m, err, count, mark)
		}
	}
}

// refuses asks that an error is told, and that all copies are just as they were.
func refuses(t *testing.T, c *crowd.Crowd, n int, a api.Ask, l []string, told api.Errno) {
	t.Helper()
	type mark struct{ count, mark int }
	var before []mark
	for i := range n {
		count, m, _ := c.Mark(i)
		before = append(before, mark{count, m})
	}
	tells(t, c, a, l, told)
	for i := range n {
		if count, m, err := c.Mark(i); before[i] != (mark{count, m}) || err != nil {
			t.Errorf("Mark(%d) behind a refused %.200v: got %d %d %v, want %+v", i, a, count, m, err, before[i])
		}
	}
}

// filled has the numbers from 1 on, that one who asks has put.
func filled(t *testing.T, n int, l []api.Rule, who, many int) *crowd.Crowd {
	t.Helper()
	c := made(t, n, l)
	for i := range many {
		says(t, c, put(who, i+1, number(i+1)), nil, "ok")
	}
	return c
}

// upTo are the numbers from one to another, as they are printed.
func upTo(from, to int) (l []string) {
	for n := from; n <= to; n++ {
		l = append(l, strconv.Itoa(n))
	}
	return l
}

// C1: New and Need.

func TestNewHasNothing(t *testing.T) {
	for n := 1; n <= 7; n++ {
		for _, l := range [][]api.Rule{nil, {}, ones(), slices.Repeat([]api.Rule{let(api.Put, 0, anything)}, 8)} {
			marks(t, made(t, n, l), n, 0)
		}
	}
}

// As many as may lie, and one more, and so it stays whatever is done.
func TestNeed(t *testing.T) {
	for n := 1; n <= 7; n++ {
		c := made(t, n, ones())
		for seq := range 3 {
			if got := c.Need(); got != needs[n] {
				t.Errorf("Need of %d: got %d, want %d", n, got, needs[n])
			}
			says(t, c, put(0, seq+1, number(1)), nil, "ok")
			refuses(t, c, n, put(0, 0, number(1)), slices.Repeat([]string{"lie"}, n), api.ErrState)
		}
	}
}

func TestNewTellsNumbers(t *testing.T) {
	for _, n := range noCopies {
		// What is wrong with the rules, too, is told behind it.
		for _, l := range [][]api.Rule{nil, ones(), {let(3, 0)}, {let(0, 0)}, slices.Repeat(ones(), 3)} {
			if got, err := crowd.New(n, l); got != nil || plain.Told(err) != api.ErrRange {
				t.Errorf("New(%d, %+v): got %v %v, want nil ErrRange", n, l, got, err)
			}
		}
	}
}

func TestNewTellsWhatIsWrongWithRules(t *testing.T) {
	good := let(api.Put, 0, anything)
	for _, c := range []struct {
		l    []api.Rule
		want api.Errno
	}{
		{slices.Repeat([]api.Rule{good}, 9), api.ErrFull},
		{slices.Repeat([]api.Rule{let(3, 0, anything)}, 9), api.ErrFull},
		{slices.Repeat([]api.Rule{good}, 1<<12), api.ErrFull},
		{[]api.Rule{let(3, 0), let(0, 0)}, api.ErrRange},
		{[]api.Rule{let(0, 0), let(3, 0)}, api.ErrNone},
		{[]api.Rule{let(-1, 0, anything)}, api.ErrRange},
		{[]api.Rule{let(math.MaxInt, 0, anything)}, api.ErrRange},
		{[]api.Rule{let(0, -2, anything)}, api.ErrRange},
		{[]api.Rule{let(0, 1_000_001, anything)}, api.ErrRange},
		{[]api.Rule{let(0, math.MinInt, anything)}, api.ErrRange},
		{[]api.Rule{good, let(0, 0)}, api.ErrNone},
		{[]api.Rule{good, let(0, 0, times(6, anything)...)}, api.ErrFull},
		{[]api.Rule{good, let(0, 0, far)}, api.ErrRange},
		{[]api.Rule{good, let(0, 0, long)}, api.ErrFull},
		{[]api.Rule{good, let(0, 0, odd)}, api.ErrShape},
	} {
		for n := 1; n <= 7; n++ {
			if got, err := crowd.New(n, c.l); got != nil || plain.Told(err) != c.want {
				t.Errorf("New(%d, %.200v): got %v %v, want nil %v", n, c.l, got, err, c.want)
			}
		}
	}
}

// C1: Do, where nobody lies.

func TestAllCopiesDoIt(t *testing.T) {
	for n := 1; n <= 7; n++ {
		for _, none := range [][]string{nil, {}, {""}, make([]string, n), make([]string, n, n+9)} {
			c := made(t, n, ones())
			says(t, c, put(1, 1, text("hello")), none, "ok")
			marks(t, c, n, 1, ":hello")
			says(t, c, put(2, 1, number(-7)), none, "ok")
			marks(t, c, n, 2, ":hello", "-7")
			says(t, c, read(3, 1, anything), none, ":hello")
			says(t, c, read(3, 2, number(-7)), none, "-7")
			says(t, c, read(3, 3, number(8)), none, "none")
			marks(t, c, n, 5, ":hello", "-7")
			says(t, c, take(1, 2, anything), none, ":hello")
			marks(t, c, n, 6, "-7")
			says(t, c, take(1, 3, text("hello")), none, "none")
			says(t, c, take(1, 4, number(-7)), none, "-7")
			marks(t, c, n, 8)
		}
	}
}

func TestAllCopiesAreFull(t *testing.T) {
	for n := 1; n <= 7; n++ {
		c := filled(t, n, ones(), 1, 20)
		marks(t, c, n, 20, upTo(1, 20)...)
		says(t, c, put(1, 21, number(21)), nil, "full")
		marks(t, c, n, 21, upTo(1, 20)...)
		says(t, c, take(2, 1, number(1)), nil, "1")
		says(t, c, put(1, 21, number(21)), nil, "full")
		says(t, c, put(1, 22, number(21)), nil, "ok")
		marks(t, c, n, 23, upTo(2, 21)...)
	}
}

func TestAskedAgainItAnswersAgain(t *testing.T) {
	for n := 1; n <= 7; n++ {
		c := filled(t, n, ones(), 1, 2)
		for range 3 {
			says(t, c, take(5, 1, anything), nil, "1")
			says(t, c, put(5, 1, number(9)), nil, "1")
			marks(t, c, n, 3, "2")
		}
		says(t, c, take(5, 2, anything), nil, "2")
		refuses(t, c, n, take(5, 1, anything), nil, api.ErrState)
		marks(t, c, n, 4)
	}
}

// C1: Do, where some lie.

func TestWhatWins(t *testing.T) {
	for _, c := range []struct {
		n    int
		said string
		want string
	}{
		// One is enough: it is that of the first.
		{1, "lie", "lie"},
		{1, ".", "ok"},
		{2, "lie", "lie"},
		{2, "lie .", "lie"},
		{2, ". lie", "ok"},
		{2, "lie other", "lie"},
		{3, ". lie lie", "ok"},
		{3, "lie", "lie"},
		{3, "lie other other", "lie"},
		// Two are needed.
		{4, "lie", "ok"},
		{4, "lie . . .", "ok"},
		{4, ". . . lie", "ok"},
		{4, "lie other", "ok"},
		{4, ". lie other .", "ok"},
		{4, "lie lie", "lie"},
		{4, "lie lie . .", "lie"},
		{4, "lie . lie .", "lie"},
		{4, "lie . . lie", "ok"},
		{4, ". lie lie .", "lie"},
		{4, ". lie . lie", "ok"},
		{4, ". . lie lie", "ok"},
		{4, "lie lie lie", "lie"},
		{4, "lie other lie", "lie"},
		{4, "lie other other", "other"},
		{4, "a b b a", "b"},
		{5, "a b c . .", "ok"},
		{5, "a b c", "ok"},
		{5, "a b . b .", "b"},
		{5, "a b . . b", "ok"},
		{5, "a b c d a", "a"},
		{6, "a b c d . .", "ok"},
		{6, "a b c d", "ok"},
		{6, ". b c d e .", "ok"},
		{6, "a b c d e e", "e"},
		// Three are needed.
		{7, "lie lie", "ok"},
		{7, ". . . . . lie lie", "ok"},
		{7, "a a b b . . .", "ok"},
		{7, "a a b b", "ok"},
		{7, "a a a", "a"},
		{7, "a a . . a . .", "a"},
		{7, "a a . . . a a", "ok"},
		{7, "a a b b . b .", "b"},
		{7, "a b b a b a a", "b"},
		{7, "a b c d . . .", "ok"},
		// Who says what is true by a lie says it all the same.
		{4, "ok lie other .", "ok"},
		{4, "ok ok lie lie", "ok"},
		{4, "lie ok lie ok", "lie"},
		{7, "ok a b c d . .", "ok"},
		{4, "none full ok", "ok"},
		// Neither a blank nor a part of the answer is the answer.
		{4, "o k", "ok"},
		{5, "OK OK", "OK"},
	} {
		for range 2 {
			m := made(t, c.n, ones())
			says(t, m, put(1, 1, number(5)), lies(c.said), c.want)
			marks(t, m, c.n, 1, "5")
			// What was said by a lie is not kept: without it the answer is what it was.
			says(t, m, put(1, 1, number(5)), nil, "ok")
			marks(t, m, c.n, 1, "5")
		}
	}
}

// Lies are texts of any bytes and any length, also those that look like what is answered.
func TestLiesAreAnyTexts(t *testing.T) {
	for _, lie := range []string{" ", "\x00", "\n", "\xff\xfe", "none", "full", "5", ":hello,5", strings.Repeat("x", 1<<20)} {
		for n := 1; n <= 7; n++ {
			c := made(t, n, ones())
			says(t, c, put(1, 1, number(5)), slices.Repeat([]string{lie}, needs[n]), lie)
			says(t, c, put(1, 2, number(6)), slices.Repeat([]string{lie}, needs[n]-1), "ok")
			says(t, c, take(1, 3, anything), slices.Repeat([]string{lie}, n), lie)
			marks(t, c, n, 3, "6")
		}
	}
}

// Nothing wins, but it is done all the same: the last one again, without lies, tells the answer.
func TestNothingWins(t *testing.T) {
	for _, c := range []struct {
		n    int
		said string
	}{
		{4, "a b c"},
		{4, "a b c ."},
		{4, ". b c d"},
		{4, "a . c d"},
		{4, "a b c d"},
		{5, "a b c d ."},
		{5, "a b . d e"},
		{5, "a b c d e"},
		{6, "a b c d e"},
		{6, ". b c d e f"},
		{6, "a b c d e f"},
		{7, "a b c d e"},
		{7, "a a b b c ."},
		{7, "a a b b c"},
		{7, ". a a b b . c"},
		{7, "a a b b c c d"},
		{7, "a b c d e f g"},
	} {
		m := made(t, c.n, ones())
		l := lies(c.said)
		for range 2 {
			tells(t, m, put(1, 1, number(5)), l, api.ErrNone)
			marks(t, m, c.n, 1, "5")
		}
		says(t, m, put(1, 1, number(5)), nil, "ok")
		marks(t, m, c.n, 1, "5")
		tells(t, m, take(1, 2, anything), l, api.ErrNone)
		marks(t, m, c.n, 2)
		refuses(t, m, c.n, put(1, 1, number(5)), l, api.ErrState)
		tells(t, m, take(1, 3, anything), l, api.ErrNone)
		marks(t, m, c.n, 3)
		says(t, m, take(1, 3, anything), nil, "none")
		says(t, m, put(1, 4, number(6)), nil, "ok")
		marks(t, m, c.n, 4, "6")
	}
}

// The fourth thing that is to be true of the whole: liars change nothing, whatever they say,
// wherever they stand, as long as there are no more than may lie.
func TestLiarsChangeNothing(t *testing.T) {
	said := [][]string{slices.Repeat([]string{"lie"}, 7), lies("a b c d e f g"), slices.Repeat([]string{"none"}, 7), slices.Repeat([]string{"ok"}, 7)}
	for n := 1; n <= 7; n++ {
		for who := range 1 << n {
			for _, each := range said {
				c, honest := made(t, n, ones()), copyOf(t, ones())
				liars := make([]string, n)
				many := 0
				for i := range n {
					if who>>i&1 == 1 {
						liars[i] = each[i]
						many++
					}
				}
				if many >= needs[n] {
					continue
				}
				for _, a := range []api.Ask{put(1, 1, number(5)), read(2, 1, anything), put(1, 2, text("a")), take(2, 2, number(5)), take(2, 3, number(5)), read(1, 3, anything)} {
					want, err := honest.Do(a)
					if err != nil {
						t.Fatal(err)
					}
					says(t, c, a, liars, want)
				}
				marks(t, c, n, 6, ":a")
			}
		}
	}
}

// As many liars as are needed, who stand ahead, make it; but what is there is as it is without them.
func TestLiarsAreNotSeenInWhatIsThere(t *testing.T) {
	for n := 1; n <= 7; n++ {
		c := made(t, n, ones())
		all := slices.Repeat([]string{"lie"}, n)
		says(t, c, put(1, 1, number(1)), all, "lie")
		says(t, c, put(1, 2, number(2)), all, "lie")
		says(t, c, take(1, 3, anything), all, "lie")
		marks(t, c, n, 3, "2")
		says(t, c, read(1, 4, anything), nil, "2")
		says(t, c, read(1, 4, anything), all, "lie")
		marks(t, c, n, 4, "2")
	}
}

// C1: what is wrong with what is asked.

func TestThereAreMoreLiesThanCopies(t *testing.T) {
	for n := 1; n <= 7; n++ {
		c := made(t, n, ones())
		for _, many := range []int{n + 1, n + 2, 8, 9, 256, 1 << 16} {
			for _, lie := range []string{"lie", "ok", ""} {
				// Also where what is asked has another fault, that is named behind it.
				for _, a := range []api.Ask{put(1, 1, number(1)), put(1, 2, number(1)), put(-1, 1, number(1)), {Deed: 3}, put(1, 1), put(1, 1, odd), put(1, 1, number(1), number(2)), take(1, 1, anything)} {
					refuses(t, c, n, a, slices.Repeat([]string{lie}, max(many, n+1)), api.ErrShape)
				}
			}
		}
		says(t, c, put(1, 1, number(1)), slices.Repeat([]string{"ok"}, n), "ok")
		refuses(t, c, n, put(1, 1, number(1)), slices.Repeat([]string{"ok"}, n+1), api.ErrShape)
		marks(t, c, n, 1, "1")
	}
}

// What is wrong is told of all copies, so that no lie helps against it, nor does any come of it.
func TestDoTellsWhatIsWrong(t *testing.T) {
	rules := append([]api.Rule{forbid(api.Put, 4, text("no")), forbid(api.Take, 4, number(1))}, ones()...)
	cases := []struct {
		a    api.Ask
		want api.Errno
	}{
		{put(-1, 3, number(1)), api.ErrRange},
		{put(1_000_001, 3, number(1)), api.ErrRange},
		{put(math.MinInt, 3, number(1)), api.ErrRange},
		{put(math.MaxInt, 3), api.ErrRange},
		{api.Ask{Who: 4, Seq: 3, Deed: -1, Tuple: row(number(1))}, api.ErrRange},
		{api.Ask{Who: 4, Seq: 3, Deed: 3, Tuple: row(number(1))}, api.ErrRange},
		{api.Ask{Who: 4, Seq: 9, Deed: 3}, api.ErrRange},
		{put(4, 3), api.ErrNone},
		{read(4, 3), api.ErrNone},
		{take(4, 9), api.ErrNone},
		{put(4, 3, times(6, number(1))...), api.ErrFull},
		{put(4, 3, long), api.ErrFull},
		{take(4, 3, far), api.ErrRange},
		{read(4, 3, odd), api.ErrShape},
		{put(4, 3, anything), api.ErrShape},
		{put(4, 9, anything), api.ErrShape},
		{put(4, 4, number(1)), api.ErrState},
		{put(4, 1, number(1)), api.ErrState},
		{put(4, 0, number(1)), api.ErrState},
		{put(4, -1, number(1)), api.ErrState},
		{put(4, math.MinInt, number(1)), api.ErrState},
		{put(4, math.MaxInt, number(1)), api.ErrState},
		{put(5, 2, number(1)), api.ErrState},
		{put(5, 0, number(1)), api.ErrState},
		{put(4, 4, text("no")), api.ErrState},
		{put(4, 3, text("no")), api.ErrDenied},
		{take(4, 3, anything), api.ErrDenied},
		{take(4, 3, number(1)), api.ErrDenied},
		{put(4, 3, number(1), number(2)), api.ErrDenied},
	}
	for n := 1; n <= 7; n++ {
		c := filled(t, n, rules, 4, 2)
		for _, wrong := range cases {
			for _, l := range [][]string{nil, {""}, slices.Repeat([]string{"ok"}, n), slices.Repeat([]string{"lie"}, n), lies("a b c d e f g")[:n]} {
				refuses(t, c, n, wrong.a, l, wrong.want)
			}
		}
		marks(t, c, n, 2, "1", "2")
		// A Seq that was refused is still to come.
		says(t, c, take(4, 3, number(2)), nil, "2")
		says(t, c, put(5, 1, text("no")), nil, "ok")
		marks(t, c, n, 4, "1", ":no")
	}
}

// C1: the Rules.

func TestWithoutRulesNothingMayBePut(t *testing.T) {
	for n := 1; n <= 7; n++ {
		c := made(t, n, nil)
		for _, deed := range deeds {
			a := api.Ask{Who: 1, Seq: 1, Deed: deed, Tuple: row(number(1))}
			if deed == api.Put {
				refuses(t, c, n, a, nil, api.ErrDenied)
				continue
			}
			says(t, c, a, nil, "none")
		}
		marks(t, c, n, 1)
	}
}

// C1: Mark.

func TestMarkTellsNumbers(t *testing.T) {
	for n := 1; n <= 7; n++ {
		c := filled(t, n, ones(), 1, 3)
		for _, i := range []int{math.MinInt, math.MinInt + 1, -1 << 32, -256, -n, -2, -1, n, n + 1, 7, 8, 256, 1 << 32, 1<<32 + 1, math.MaxInt - 1, math.MaxInt} {
			if count, mark, err := c.Mark(i); count != 0 || mark != 0 || plain.Told(err) != api.ErrRange {
				t.Errorf("Mark(%d) of %d: got %d %d %v, want 0 0 ErrRange", i, n, count, mark, err)
			}
		}
		marks(t, c, n, 3, upTo(1, 3)...)
	}
}

func TestCrowdsAreApart(t *testing.T) {
	a, b := filled(t, 4, ones(), 1, 3), filled(t, 4, ones(), 1, 3)
	says(t, a, take(2, 1, anything), nil, "1")
	marks(t, b, 4, 3, upTo(1, 3)...)
	says(t, b, take(2, 1, number(2)), nil, "2")
	marks(t, a, 4, 4, "2", "3")
	marks(t, b, 4, 4, "1", "3")
	marks(t, made(t, 4, ones()), 4, 0)
}

// C1: all that is answered is held against one honest copy, and a count of what each says.

// wins goes over each text by itself: where does its need-th stand?
func wins(l []string, need int) (string, bool) {
	first, who := len(l), ""
	for _, s := range l {
		left := need
		for place, other := range l {
			if other == s {
				left--
			}
			if left == 0 {
				if place < first {
					first, who = place, s
				}
				break
			}
		}
	}
	return who, first < len(l)
}

// drawn is what somebody asks, in most cases what may be done.
func drawn(draw func(n int) int, next []int) api.Ask {
	cells := row(number(0), number(-7), text(""), text("a"), anything, odd)
	a := api.Ask{Who: draw(len(next)), Deed: max(0, draw(5)-2)}
	a.Seq = next[a.Who]
	kinds := 5
	if a.Deed == api.Put {
		kinds = 4
	}
	a.Tuple = row(cells[draw(kinds)])
	switch draw(10) {
	case 0:
		a.Seq += draw(5) - 3
	case 1:
		a.Seq--
	case 2:
		a.Tuple[0] = cells[draw(len(cells))]
	case 3:
		a.Deed = draw(5) - 1
	}
	return a
}

// drawnLies are at most one more than there are copies.
func drawnLies(draw func(n int) int, n int) (l []string) {
	texts := lies("ok none lie 0 a b c d . . . .")
	for range draw(n + 2) {
		l = append(l, texts[draw(len(texts))])
	}
	return l
}

// expected is what a crowd of so many answers, whose copies are as this one.
func expected(honest *mirror.Copy, n int, a api.Ask, l []string) (string, api.Errno) {
	if len(l) > n {
		return "", api.ErrShape
	}
	answer, err := honest.Do(a)
	if err != nil {
		return "", plain.Told(err)
	}
	said := slices.Repeat([]string{answer}, n)
	for i, lie := range l {
		if len(lie) > 0 {
			said[i] = lie
		}
	}
	if who, is := wins(said, needs[n]); is {
		return who, api.OK
	}
	return "", api.ErrNone
}

func TestManyDeedsAgainstOneCopy(t *testing.T) {
	state := uint32(1)
	draw := func(n int) int {
		state = state*1664525 + 1013904223
		return int(state>>16) % n
	}
	told := map[api.Errno]int{}
	rules := append([]api.Rule{forbid(api.Put, 1, text("a")), forbid(api.Take, 2, number(0))}, ones()...)
	for round := range 70 {
		n := round%7 + 1
		c, honest := made(t, n, rules), copyOf(t, rules)
		next := []int{1, 1, 1, 1}
		for i := range 200 {
			a, l := drawn(draw, next), drawnLies(draw, n)
			before, _ := honest.Mark()
			want, wrong := expected(honest, n, a, l)
			if got, err := c.Do(a, l); got != want || plain.Told(err) != wrong {
				t.Errorf("Do(%+v, %q) of %d: got %q %v, want %q %v", a, l, n, got, err, want, wrong)
			}
			count, mark := honest.Mark()
			if count > before {
				next[a.Who]++
			}
			for i := range n {
				if got, m, err := c.Mark(i); got != count || m != mark || err != nil {
					t.Errorf("Mark(%d) of %d: got %d %d %v, want %d %d", i, n, got, m, err, count, mark)
				}
			}
			told[wrong]++
			if t.Failed() {
				t.Fatalf("at deed %d of round %d", i, round)
			}
		}
	}
	for _, e := range []api.Errno{api.OK, api.ErrRange, api.ErrShape, api.ErrNone, api.ErrState, api.ErrDenied} {
		if told[e] == 0 {
			t.Errorf("%v was never told", e)
		}
	}
}

// P2: nothing that is handed in is written into, nor kept, nor read behind its length.

func TestNothingHandedInIsWrittenInto(t *testing.T) {
	like := row(anything, odd)
	rules := []api.Rule{{Deed: api.Put, Who: -1, Like: like[:1], May: true}, {Deed: 9}}
	r := row(text("a"), odd, far)
	all := lies("lie . . . lie lie lie lie lie")
	keptLike, keptRow, keptLies := slices.Clone(like), slices.Clone(r), slices.Clone(all)
	c := made(t, 4, rules[:1])
	for range 2 {
		says(t, c, api.Ask{Who: 1, Seq: 1, Tuple: r[:1]}, all[:1], "ok")
		says(t, c, api.Ask{Who: 1, Seq: 1, Tuple: r[:1]}, all[:4], "ok")
		says(t, c, api.Ask{Who: 1, Seq: 1, Tuple: r[:1]}, all[:0], "ok")
		refuses(t, c, 4, api.Ask{Who: 1, Seq: 2, Deed: api.Take, Tuple: r[:1]}, all[:4], api.ErrDenied)
		refuses(t, c, 4, api.Ask{Who: 1, Seq: 1, Tuple: r[:1]}, all[:5], api.ErrShape)
	}
	if !slices.Equal(like, keptLike) || !slices.Equal(r, keptRow) || !slices.Equal(all, keptLies) || rules[1].Deed != 9 || !rules[0].May {
		t.Errorf("what was handed in was changed: %+v %+v %q", rules, r, all)
	}
}

// Lists, and texts in them, may be memory whose owner writes into it later.
func TestNothingHandedInIsKept(t *testing.T) {
	bytes := []byte("hello")
	shared := unsafe.String(&bytes[0], len(bytes))
	like, r := row(text(shared)), row(text(shared))
	rules := []api.Rule{{Deed: api.Put, Who: 1, Like: like, May: true}, let(api.Read, 1, anything)}
	c := made(t, 4, rules)
	said := []string{shared, shared}
	says(t, c, api.Ask{Who: 1, Seq: 1, Deed: api.Put, Tuple: r}, nil, "ok")
	says(t, c, api.Ask{Who: 1, Seq: 2, Deed: api.Read, Tuple: r}, said, "hello")
	copy(bytes, "XXXXX")
	like[0], r[0], said[0], said[1] = far, far, "x", "x"
	rules[0], rules[1] = api.Rule{Deed: 9}, api.Rule{Deed: 9}
	marks(t, c, 4, 2, ":hello")
	says(t, c, read(1, 2, anything), nil, ":hello")
	says(t, c, put(1, 3, text("hello")), nil, "ok")
	refuses(t, c, 4, put(1, 4, text("a")), nil, api.ErrDenied)
	marks(t, c, 4, 3, ":hello", ":hello")
}

// P2: what comes out is fresh memory, and the caller's, also where it is a lie.
func TestAnswersAreTheCallers(t *testing.T) {
	for n := 1; n <= 7; n++ {
		c := made(t, n, ones())
		says(t, c, put(1, 1, text("hello")), nil, "ok")
		said := slices.Repeat([]string{string([]byte(":howdy"))}, n)
		for range 3 {
			for _, l := range [][]string{nil, said} {
				want := ":hello"
				if l != nil {
					want = ":howdy"
				}
				got, err := c.Do(read(2, 1, text("hello")), l)
				if got != want || err != nil {
					t.Fatalf("Do: got %q %v, want %q", got, err, want)
				}
				// Whoever has the memory of an answer may write into it: what is kept, and what was handed in, is elsewhere.
				copy(unsafe.Slice(unsafe.StringData(got), len(got)), "XXXXXX")
			}
			if said[0] != ":howdy" {
				t.Fatalf("an answer has the memory of a lie: %q", said[0])
			}
		}
		marks(t, c, n, 2, ":hello")
	}
}
