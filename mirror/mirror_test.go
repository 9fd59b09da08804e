package mirror_test

import (
	"math"
	"math/big"
	"reflect"
	"slices"
	"strconv"
	"strings"
	"testing"
	"unsafe"

	"tuplestead/api"
	"tuplestead/mirror"
	"tuplestead/plain"
	"tuplestead/rule"
	"tuplestead/tuple"
)

func number(n int) api.Value  { return api.Value{Kind: api.Number, N: n} }
func text(s string) api.Value { return api.Value{Kind: api.Text, S: s} }

// row is fields in a row, in memory of its own.
func row(v ...api.Value) []api.Value { return slices.Clone(v) }

// times is as many fields that are all the same.
func times(n int, v api.Value) []api.Value { return slices.Repeat(row(v), n) }

// put, read and take are what somebody asks.
func put(who, seq int, v ...api.Value) api.Ask {
	return api.Ask{Who: who, Seq: seq, Deed: api.Put, Tuple: row(v...)}
}
func read(who, seq int, v ...api.Value) api.Ask {
	return api.Ask{Who: who, Seq: seq, Deed: api.Read, Tuple: row(v...)}
}
func take(who, seq int, v ...api.Value) api.Ask {
	return api.Ask{Who: who, Seq: seq, Deed: api.Take, Tuple: row(v...)}
}

// let and forbid make one rule.
func let(deed, who int, like ...api.Value) api.Rule {
	return api.Rule{Deed: deed, Who: who, Like: row(like...), May: true}
}
func forbid(deed, who int, like ...api.Value) api.Rule {
	return api.Rule{Deed: deed, Who: who, Like: row(like...)}
}

// ones lets anybody do everything with tuples of one field, twos with those of two.
func ones() []api.Rule {
	return []api.Rule{let(api.Put, -1, anything), let(api.Read, -1, anything), let(api.Take, -1, anything)}
}
func twos() []api.Rule {
	return []api.Rule{let(api.Put, -1, anything, anything), let(api.Read, -1, anything, anything), let(api.Take, -1, anything, anything)}
}

var (
	anything = api.Value{Kind: api.Any}
	long     = api.Value{Kind: api.Text, S: "abcdefghijklm"}
	odd      = api.Value{Kind: api.Text, S: "A"}
	far      = api.Value{Kind: api.Number, N: api.MaxNumber + 1}
	deeds    = []int{api.Put, api.Read, api.Take}
)

// noWho and noDeed are numbers that may not be.
var (
	noWho  = []int{math.MinInt, math.MinInt + 1, -1 << 32, -1_000_001, -1_000_000, -256, -2, -1, 1_000_001, 1_000_002, 1 << 32, 1<<32 + 1, math.MaxInt - 1, math.MaxInt}
	noDeed = []int{math.MinInt, math.MinInt + 1, -1 << 32, -256, -2, -1, 3, 4, 256, 257, 1 << 32, 1<<32 + 1, math.MaxInt - 1, math.MaxInt}
)

// fault is what may be neither asked for nor put, and what is wrong with it.
type fault struct {
	t    []api.Value
	want api.Errno
}

func faulty() []fault {
	return []fault{
		{nil, api.ErrNone},
		{[]api.Value{}, api.ErrNone},
		{times(3, number(1))[:0], api.ErrNone},
		{times(6, number(1)), api.ErrFull},
		{times(6, anything), api.ErrFull},
		{times(6, far), api.ErrFull},
		{times(1<<12, text("a")), api.ErrFull},
		{row(far), api.ErrRange},
		{row(number(-api.MaxNumber - 1)), api.ErrRange},
		{row(number(math.MinInt)), api.ErrRange},
		{row(api.Value{Kind: 3}), api.ErrRange},
		{row(api.Value{Kind: -1}), api.ErrRange},
		{row(long), api.ErrFull},
		{row(text(strings.Repeat("a", 1<<12))), api.ErrFull},
		{row(odd), api.ErrShape},
		{row(text("\n")), api.ErrShape},
		{row(text("\xff")), api.ErrShape},
		{row(api.Value{Kind: api.Text, N: 1}), api.ErrShape},
		{row(api.Value{Kind: api.Number, S: "a"}), api.ErrShape},
		{row(api.Value{Kind: api.Any, N: 1}), api.ErrShape},
		{row(number(1), far, odd), api.ErrRange},
		{row(number(1), odd, far), api.ErrShape},
		{row(anything, far), api.ErrRange},
		{row(anything, long), api.ErrFull},
	}
}

// inOneGo makes the number of a text by whole numbers of any size, and takes it modulo at the end alone.
func inOneGo(s string) int {
	n := big.NewInt(7)
	for _, c := range []byte(s) {
		n.Mul(n, big.NewInt(31))
		n.Add(n, big.NewInt(int64(c)))
	}
	return int(n.Mod(n, big.NewInt(10007)).Int64())
}

// made is a copy with these rules.
func made(t *testing.T, l []api.Rule) *mirror.Copy {
	t.Helper()
	c, err := mirror.New(l)
	if err != nil || c == nil {
		t.Fatalf("New(%+v): got %v", l, err)
	}
	return c
}

// short is a piece of what is asked that can be printed beside a fault.
func short(a api.Ask) api.Ask {
	a.Tuple = slices.Clone(a.Tuple[:min(len(a.Tuple), 6)])
	for i := range a.Tuple {
		a.Tuple[i].S = a.Tuple[i].S[:min(len(a.Tuple[i].S), 20)]
	}
	return a
}

// says asks for an answer, and that Again has told ahead whether something is done by that.
func says(t *testing.T, c *mirror.Copy, a api.Ask, want string) {
	t.Helper()
	count, mark := c.Mark()
	again, wrong := c.Again(a)
	if n, m := c.Mark(); n != count || m != mark || wrong != nil {
		t.Errorf("Again(%+v): got %v, and %d %d, was %d %d", short(a), wrong, n, m, count, mark)
	}
	if got, err := c.Do(a); got != want || err != nil {
		t.Errorf("Do(%+v): got %q %v, want %q", short(a), got, err, want)
	}
	if n, _ := c.Mark(); again != (n == count) {
		t.Errorf("Again(%+v): got %v, but %d were done behind %d", short(a), again, n, count)
	}
}

// refuses asks that an error is told, by Again, too, and that the copy is just as it was.
func refuses(t *testing.T, c *mirror.Copy, a api.Ask, told api.Errno) {
	t.Helper()
	count, mark := c.Mark()
	all := c.Space()
	if got, err := c.Again(a); got || plain.Told(err) != told {
		t.Errorf("Again(%+v): got %v %v, want %v", short(a), got, err, told)
	}
	if got, err := c.Do(a); got != "" || plain.Told(err) != told {
		t.Errorf("Do(%+v): got %q %v, want %v", short(a), got, err, told)
	}
	if n, m := c.Mark(); n != count || m != mark {
		t.Errorf("Mark behind a refused %+v: got %d %d, want %d %d", short(a), n, m, count, mark)
	}
	if got := c.Space(); !reflect.DeepEqual(got, all) {
		t.Errorf("Space behind a refused %+v: got %+v, want %+v", short(a), got, all)
	}
}

// has asks how often something was done, and for all tuples that are there, as they are printed.
func has(t *testing.T, c *mirror.Copy, count int, want ...string) {
	t.Helper()
	lines := ""
	for _, s := range want {
		lines += s + "\n"
	}
	if n, mark := c.Mark(); n != count || mark != inOneGo(lines) {
		t.Errorf("Mark: got %d %d, want %d %d", n, mark, count, inOneGo(lines))
	}
	var got []string
	for _, r := range c.Space() {
		s, err := tuple.Print(r)
		if err != nil {
			t.Errorf("Space has %+v: %v", r, err)
		}
		got = append(got, s)
	}
	if !slices.Equal(got, want) {
		t.Errorf("Space: got %q, want %q", got, want)
	}
}

// upTo are the numbers from one to another, as they are printed.
func upTo(from, to int) (l []string) {
	for n := from; n <= to; n++ {
		l = append(l, strconv.Itoa(n))
	}
	return l
}

// filled has the numbers from 1 on, that one who asks has put.
func filled(t *testing.T, l []api.Rule, who, many int) *mirror.Copy {
	t.Helper()
	c := made(t, l)
	for i := range many {
		says(t, c, put(who, i+1, number(i+1)), "ok")
	}
	return c
}

// C1: New.

func TestNewHasNothing(t *testing.T) {
	for _, l := range [][]api.Rule{nil, {}, ones(), slices.Repeat([]api.Rule{let(api.Put, 0, anything)}, 8)} {
		c := made(t, l)
		has(t, c, 0)
		if n, mark := c.Mark(); n != 0 || mark != 7 {
			t.Errorf("Mark: got %d %d, want 0 7", n, mark)
		}
	}
}

func TestNewTellsWhatIsWrongWithRules(t *testing.T) {
	good := let(api.Put, 0, anything)
	type bad struct {
		l    []api.Rule
		want api.Errno
	}
	cases := []bad{
		{slices.Repeat([]api.Rule{good}, 9), api.ErrFull},
		{slices.Repeat([]api.Rule{let(3, 0, anything)}, 9), api.ErrFull},
		{slices.Repeat([]api.Rule{good}, 1<<12), api.ErrFull},
		{[]api.Rule{let(3, 0), let(0, 0)}, api.ErrRange},
		{[]api.Rule{let(0, 0), let(3, 0)}, api.ErrNone},
		{[]api.Rule{good, good, good, good, good, good, good, let(0, -2, anything)}, api.ErrRange},
		{[]api.Rule{let(-1, 0, odd)}, api.ErrRange},
	}
	for _, no := range noDeed {
		cases = append(cases, bad{[]api.Rule{let(no, 0, anything)}, api.ErrRange})
	}
	for _, no := range noWho {
		if no != -1 {
			cases = append(cases, bad{[]api.Rule{let(api.Read, no, anything)}, api.ErrRange})
		}
	}
	for _, f := range faulty() {
		cases = append(cases, bad{[]api.Rule{good, {Deed: api.Take, Like: f.t}}, f.want})
	}
	for _, c := range cases {
		if got, err := mirror.New(c.l); got != nil || plain.Told(err) != c.want {
			t.Errorf("New(%.200v): got %v %v, want nil %v", c.l[:min(len(c.l), 9)], got, err, c.want)
		}
	}
}

// C1: Do, where nothing stands against it.

func TestDoPutsReadsAndTakes(t *testing.T) {
	c := made(t, twos())
	says(t, c, put(1, 1, text("hello"), number(42)), "ok")
	has(t, c, 1, ":hello,42")
	says(t, c, put(2, 1, text(""), number(-1_000_000)), "ok")
	says(t, c, put(1, 2, text("hello"), number(7)), "ok")
	has(t, c, 3, ":hello,42", ":,-1000000", ":hello,7")
	says(t, c, read(0, 1, anything, number(7)), ":hello,7")
	says(t, c, read(0, 2, anything, anything), ":hello,42")
	says(t, c, read(0, 3, text("hello"), anything), ":hello,42")
	has(t, c, 6, ":hello,42", ":,-1000000", ":hello,7")
	says(t, c, take(0, 4, text("hello"), anything), ":hello,42")
	has(t, c, 7, ":,-1000000", ":hello,7")
	says(t, c, take(2, 2, text("hello"), anything), ":hello,7")
	says(t, c, take(1, 3, text("hello"), anything), "none")
	says(t, c, read(1, 4, text("hello"), anything), "none")
	has(t, c, 10, ":,-1000000")
	says(t, c, take(1, 5, text(""), number(-1_000_000)), ":,-1000000")
	has(t, c, 11)
}

func TestDoTakesTheLargestAndTheLeast(t *testing.T) {
	five, all := times(5, text("zzzzzzzzzzzz")), times(5, anything)
	c := made(t, []api.Rule{let(api.Put, 1_000_000, all...), let(api.Take, 0, all...)})
	printed := ":zzzzzzzzzzzz,:zzzzzzzzzzzz,:zzzzzzzzzzzz,:zzzzzzzzzzzz,:zzzzzzzzzzzz"
	says(t, c, put(1_000_000, 1, five...), "ok")
	has(t, c, 1, printed)
	says(t, c, take(0, 1, all...), printed)
	has(t, c, 2)
}

// The same tuple may be there more than once.
func TestDoPutsTheSameAgain(t *testing.T) {
	c := made(t, ones())
	for seq := 1; seq <= 3; seq++ {
		says(t, c, put(4, seq, text("a")), "ok")
	}
	has(t, c, 3, ":a", ":a", ":a")
	says(t, c, take(4, 4, text("a")), ":a")
	has(t, c, 4, ":a", ":a")
}

// What finds no room is done all the same, and not put.
func TestDoSaysFull(t *testing.T) {
	c := filled(t, ones(), 1, 20)
	has(t, c, 20, upTo(1, 20)...)
	says(t, c, put(1, 21, number(21)), "full")
	says(t, c, put(2, 1, number(22)), "full")
	has(t, c, 22, upTo(1, 20)...)
	says(t, c, read(1, 22, number(21)), "none")
	says(t, c, take(3, 1, anything), "1")
	has(t, c, 24, upTo(2, 20)...)
	// There is room by now, but this one was done.
	says(t, c, put(2, 1, number(22)), "full")
	has(t, c, 24, upTo(2, 20)...)
	says(t, c, put(2, 2, number(21)), "ok")
	says(t, c, put(2, 3, number(22)), "full")
	has(t, c, 26, upTo(2, 21)...)
}

// What is answered by none and full was done, too.
func TestDoneIsAlsoWhatFoundNothing(t *testing.T) {
	c := made(t, nil)
	for seq := 1; seq <= 100; seq++ {
		says(t, c, read(9, seq, anything), "none")
		has(t, c, seq)
	}
	refuses(t, c, read(9, 99, anything), api.ErrState)
	refuses(t, c, read(9, 102, anything), api.ErrState)
}

// C1: what is wrong with what is asked.

func TestDoTellsNumbers(t *testing.T) {
	for _, many := range []int{0, 3, 20} {
		c := filled(t, ones(), 0, many)
		for _, seq := range []int{many + 1, many, many + 2, 0, math.MinInt, math.MaxInt} {
			for _, deed := range deeds {
				for _, who := range noWho {
					refuses(t, c, api.Ask{Who: who, Seq: seq, Deed: deed, Tuple: row(text("a"))}, api.ErrRange)
				}
			}
			for _, deed := range noDeed {
				refuses(t, c, api.Ask{Who: 0, Seq: seq, Deed: deed, Tuple: row(text("a"))}, api.ErrRange)
				refuses(t, c, api.Ask{Who: 7, Seq: seq, Deed: deed}, api.ErrRange)
			}
		}
		says(t, c, read(0, many+1, text("b")), "none")
		says(t, c, read(7, 1, text("b")), "none")
	}
}

func TestDoTellsTuples(t *testing.T) {
	for _, many := range []int{0, 3, 20} {
		c := filled(t, ones(), 6, many)
		for _, f := range faulty() {
			for _, deed := range deeds {
				for _, seq := range []int{many + 1, many, many + 2, 0, math.MinInt, math.MaxInt} {
					refuses(t, c, api.Ask{Who: 6, Seq: seq, Deed: deed, Tuple: f.t}, f.want)
				}
			}
		}
		says(t, c, read(6, many+1, text("b")), "none")
	}
}

// Anything may be read and taken, but not put, and not by those either who may put all there is.
func TestAnythingMayNotBePut(t *testing.T) {
	c := made(t, twos())
	for _, r := range [][]api.Value{row(anything), row(anything, anything), row(number(1), anything), row(anything, number(1)), times(5, anything)} {
		refuses(t, c, put(8, 1, r...), api.ErrShape)
	}
	says(t, c, put(8, 1, number(1), number(2)), "ok")
	refuses(t, c, put(8, 1, anything), api.ErrShape)
	says(t, c, read(8, 2, anything, anything), "1,2")
	says(t, c, take(8, 3, anything, anything), "1,2")
}

// C1: the Seqs.

func TestDoAsksForTheNextSeqOrTheLast(t *testing.T) {
	for _, many := range []int{0, 1, 2, 19} {
		c := filled(t, ones(), 3, many)
		for _, deed := range deeds {
			for _, seq := range []int{many - 1, 0, -1, -many - 1, -1 << 32, math.MinInt + 1, math.MinInt, many + 2, many + 3, 1_000_001, 1<<32 + many, 1<<32 + many + 1, math.MaxInt - 1, math.MaxInt} {
				refuses(t, c, api.Ask{Who: 3, Seq: seq, Deed: deed, Tuple: row(text("a"))}, api.ErrState)
			}
		}
		has(t, c, many, upTo(1, many)...)
		says(t, c, put(3, many+1, number(many+1)), "ok")
		has(t, c, many+1, upTo(1, many+1)...)
	}
}

// Nothing was done at first, so that there is no last one of Seq 0.
func TestNoughtIsNoLastOne(t *testing.T) {
	c := filled(t, ones(), 1, 2)
	for _, deed := range deeds {
		refuses(t, c, api.Ask{Who: 2, Seq: 0, Deed: deed, Tuple: row(number(1))}, api.ErrState)
	}
}

// Each has numbers of their own, also those who differ but little.
func TestEachHasTheirOwnSeqs(t *testing.T) {
	c := made(t, ones())
	whos := []int{0, 1, 2, 256, 257, 65_536, 999_999, 1_000_000}
	for i, who := range whos {
		for seq := 1; seq <= i%4; seq++ {
			says(t, c, read(who, seq, number(1)), "none")
		}
	}
	for i, who := range whos {
		refuses(t, c, read(who, i%4+2, number(1)), api.ErrState)
		says(t, c, read(who, i%4+1, number(1)), "none")
	}
}

func TestAskedAgainItAnswersAgain(t *testing.T) {
	c := made(t, ones())
	for range 3 {
		says(t, c, put(1, 1, number(5)), "ok")
		has(t, c, 1, "5")
	}
	for range 3 {
		says(t, c, read(2, 1, anything), "5")
		has(t, c, 2, "5")
	}
	says(t, c, put(1, 2, number(6)), "ok")
	for range 3 {
		says(t, c, take(3, 1, anything), "5")
		has(t, c, 4, "6")
	}
	// What was read is there no more, but that is how it was answered.
	says(t, c, read(2, 1, anything), "5")
	for range 3 {
		says(t, c, take(4, 1, number(5)), "none")
		has(t, c, 5, "6")
	}
	says(t, c, put(1, 3, number(5)), "ok")
	// And now there is one.
	says(t, c, take(4, 1, number(5)), "none")
	has(t, c, 6, "6", "5")
	// Behind all of these each goes on where they were.
	says(t, c, take(4, 2, number(5)), "5")
	says(t, c, take(2, 2, number(5)), "none")
	says(t, c, take(3, 2, anything), "6")
	has(t, c, 9)
}

// Of the last one it does not matter what is asked now, nor whether it may be done.
func TestTheLastOneIsAnsweredWhateverItAsksNow(t *testing.T) {
	c := made(t, []api.Rule{let(api.Put, 1, anything), let(api.Read, 1, number(1))})
	says(t, c, put(1, 1, number(1)), "ok")
	again := func(seq int, want string, count int, all ...string) {
		for _, deed := range deeds {
			for _, r := range [][]api.Value{row(number(1)), row(number(2)), row(text("a"), number(2)), times(5, text("a"))} {
				says(t, c, api.Ask{Who: 1, Seq: seq, Deed: deed, Tuple: r}, want)
				has(t, c, count, all...)
			}
		}
		says(t, c, read(1, seq, anything), want)
		says(t, c, take(1, seq, anything, anything), want)
		has(t, c, count, all...)
	}
	again(1, "ok", 1, "1")
	says(t, c, read(1, 2, anything), "1")
	again(2, "1", 2, "1")
	refuses(t, c, take(1, 3, anything), api.ErrDenied)
	again(2, "1", 2, "1")
	says(t, c, take(1, 3, number(2)), "none")
	again(3, "none", 3, "1")
	refuses(t, c, read(1, 2, anything), api.ErrState)
	for n := 2; n <= 20; n++ {
		says(t, c, put(1, n+2, number(n)), "ok")
	}
	says(t, c, put(1, 23, number(21)), "full")
	again(23, "full", 23, upTo(1, 20)...)
}

// C1: the Rules.

// What no rule speaks of may not be done; but where there is none to be found, none is denied.
func TestWithoutRulesNothingMayBePut(t *testing.T) {
	for _, l := range [][]api.Rule{nil, {}, {let(api.Put, 1, anything, anything)}} {
		c := made(t, l)
		refuses(t, c, put(0, 1, number(1)), api.ErrDenied)
		says(t, c, read(0, 1, anything), "none")
		says(t, c, take(0, 2, anything), "none")
		refuses(t, c, put(0, 3, number(1)), api.ErrDenied)
		refuses(t, c, put(0, 3, number(1), number(2)), api.ErrDenied)
		has(t, c, 2)
	}
}

// What was denied was not done, and its Seq is still to come.
func TestWhatIsDeniedIsNotDone(t *testing.T) {
	c := made(t, []api.Rule{forbid(api.Put, 1, number(1)), let(api.Put, -1, anything)})
	for range 3 {
		refuses(t, c, put(1, 1, number(1)), api.ErrDenied)
		refuses(t, c, put(1, 2, number(2)), api.ErrState)
		refuses(t, c, put(1, 0, number(2)), api.ErrState)
	}
	says(t, c, put(2, 1, number(1)), "ok")
	says(t, c, put(1, 1, number(2)), "ok")
	has(t, c, 2, "1", "2")
	refuses(t, c, read(1, 2, number(1)), api.ErrDenied)
	refuses(t, c, take(1, 2, number(2)), api.ErrDenied)
	says(t, c, put(1, 1, number(1)), "ok")
	says(t, c, read(1, 2, number(3)), "none")
	has(t, c, 3, "1", "2")
}

func TestRulesAreAskedByWhoAndDeed(t *testing.T) {
	for _, deed := range deeds {
		c := made(t, []api.Rule{let(api.Put, 9, anything), let(deed, 4, anything)})
		says(t, c, put(9, 1, number(1)), "ok")
		want := map[int]string{api.Put: "ok", api.Read: "1", api.Take: "1"}
		for _, other := range deeds {
			a := api.Ask{Who: 4, Seq: 1, Deed: other, Tuple: row(number(1))}
			refuses(t, c, api.Ask{Who: 5, Seq: 1, Deed: other, Tuple: row(number(1))}, api.ErrDenied)
			if other != deed {
				refuses(t, c, a, api.ErrDenied)
			}
		}
		says(t, c, api.Ask{Who: 4, Seq: 1, Deed: deed, Tuple: row(number(1))}, want[deed])
	}
}

// The rules speak of the oldest that fits, not of what is asked for, nor of a younger one.
func TestRulesSpeakOfTheTupleThatWouldBe(t *testing.T) {
	c := made(t, []api.Rule{
		let(api.Put, -1, anything),
		let(api.Read, 1, number(1)), let(api.Read, 2, number(2)),
		let(api.Take, 1, number(1)), let(api.Take, 2, number(2)),
	})
	says(t, c, put(0, 1, number(1)), "ok")
	says(t, c, put(0, 2, number(2)), "ok")
	refuses(t, c, read(2, 1, anything), api.ErrDenied)
	refuses(t, c, take(2, 1, anything), api.ErrDenied)
	says(t, c, read(1, 1, anything), "1")
	says(t, c, read(2, 1, number(2)), "2")
	refuses(t, c, read(1, 2, number(2)), api.ErrDenied)
	says(t, c, take(1, 2, anything), "1")
	says(t, c, take(2, 2, anything), "2")
	says(t, c, take(1, 3, anything), "none")
	has(t, c, 7)
}

// The first rule that goes decides.
func TestTheFirstRuleDecides(t *testing.T) {
	c := made(t, []api.Rule{
		forbid(api.Take, 3, text("a")), let(api.Take, -1, anything), forbid(api.Take, 4, text("a")), let(api.Put, -1, anything),
	})
	says(t, c, put(3, 1, text("a")), "ok")
	refuses(t, c, take(3, 2, text("a")), api.ErrDenied)
	says(t, c, take(4, 1, text("a")), ":a")
}

// P3: of several faults the one that the chapter names first is told.
func TestDoTellsTheFirstFault(t *testing.T) {
	tuples := []fault{{row(text("a")), api.OK}, {nil, api.ErrNone}, {times(6, far), api.ErrFull}, {row(odd), api.ErrShape}}
	for _, many := range []int{0, 5, 20} {
		for _, may := range []bool{true, false} {
			for _, who := range []int{4, -1, 1_000_001} {
				for _, deed := range []int{api.Put, -1, 3} {
					for _, f := range tuples {
						for _, seq := range []int{many + 1, many - 1, many + 2} {
							c := filled(t, []api.Rule{{Deed: api.Put, Who: 4, Like: row(text("a")), May: may}, let(api.Put, 4, anything)}, 4, many)
							a := api.Ask{Who: who, Seq: seq, Deed: deed, Tuple: f.t}
							switch {
							case who != 4 || deed != api.Put:
								refuses(t, c, a, api.ErrRange)
							case f.want != api.OK:
								refuses(t, c, a, f.want)
							case seq != many+1:
								refuses(t, c, a, api.ErrState)
							case !may:
								refuses(t, c, a, api.ErrDenied)
							case many == 20:
								says(t, c, a, "full")
							default:
								says(t, c, a, "ok")
							}
						}
					}
				}
			}
		}
	}
}

// C1: Mark.

func TestMarkIsOfAllThatAreThereByAge(t *testing.T) {
	for _, c := range []struct {
		tuples [][]api.Value
		want   int
	}{
		{nil, 7},
		{[][]api.Value{row(number(0))}, 8225},
		{[][]api.Value{row(text(""))}, 8535},
		{[][]api.Value{row(number(1)), row(number(2))}, inOneGo("1\n2\n")},
		{[][]api.Value{row(number(2)), row(number(1))}, inOneGo("2\n1\n")},
		{[][]api.Value{row(number(12))}, inOneGo("12\n")},
		{[][]api.Value{row(number(1), number(2))}, inOneGo("1,2\n")},
		{[][]api.Value{row(text("hello"), number(-42)), row(text("")), row(number(0), number(0))}, inOneGo(":hello,-42\n:\n0,0\n")},
		{slices.Repeat([][]api.Value{times(2, text("zzzzzzzzzzzz"))}, 20), inOneGo(strings.Repeat(":zzzzzzzzzzzz,:zzzzzzzzzzzz\n", 20))},
	} {
		m := made(t, append(ones(), twos()...))
		for i, r := range c.tuples {
			says(t, m, put(1, i+1, r...), "ok")
		}
		for range 2 {
			if n, mark := m.Mark(); n != len(c.tuples) || mark != c.want {
				t.Errorf("Mark of %+v: got %d %d, want %d %d", c.tuples, n, mark, len(c.tuples), c.want)
			}
		}
	}
}

// Copies that were told the same are the same, and those that were not, are apart.
func TestCopiesAreApart(t *testing.T) {
	a, b := filled(t, ones(), 1, 3), filled(t, ones(), 1, 3)
	says(t, a, take(2, 1, anything), "1")
	has(t, b, 3, upTo(1, 3)...)
	says(t, b, take(2, 1, number(2)), "2")
	has(t, a, 4, "2", "3")
	has(t, b, 4, "1", "3")
	has(t, made(t, ones()), 0)
}

// C1: all that is answered is held against a plain list of all that was done.

// model is a copy once more, as plainly as can be.
type model struct {
	rules   []api.Rule
	tuples  [][]api.Value
	asked   []api.Ask // all that were done, and beside them what was answered
	answers []string
}

// last gives the place of the last one of somebody, below 0 if there is none.
func (m *model) last(who int) int {
	for i := len(m.asked) - 1; i >= 0; i-- {
		if m.asked[i].Who == who {
			return i
		}
	}
	return -1
}

// oldest gives the place of the oldest tuple that fits, below 0 if there is none.
func (m *model) oldest(like []api.Value) int {
	return slices.IndexFunc(m.tuples, func(r []api.Value) bool {
		fits, err := tuple.Fits(like, r)
		return fits && err == nil
	})
}

func (m *model) wrong(a api.Ask) api.Errno {
	if a.Who < 0 || a.Who > 1_000_000 || a.Deed < 0 || a.Deed > 2 {
		return api.ErrRange
	}
	if a.Deed == api.Put {
		return plain.Told(tuple.Check(a.Tuple))
	}
	return plain.Told(tuple.Like(a.Tuple))
}

// next is the Seq that is to come.
func (m *model) next(who int) int {
	if at := m.last(who); at >= 0 {
		return m.asked[at].Seq + 1
	}
	return 1
}

// do answers, and tells an error.
func (m *model) do(a api.Ask) (string, api.Errno) {
	if told := m.wrong(a); told != api.OK {
		return "", told
	}
	if at := m.last(a.Who); at >= 0 && m.asked[at].Seq == a.Seq {
		return m.answers[at], api.OK
	}
	if a.Seq != m.next(a.Who) {
		return "", api.ErrState
	}
	at, speaks := -1, a.Tuple
	if a.Deed != api.Put {
		if at = m.oldest(a.Tuple); at < 0 {
			return m.done(a, "none"), api.OK
		}
		speaks = m.tuples[at]
	}
	if may, err := rule.May(m.rules, a.Who, a.Deed, speaks); !may || err != nil {
		return "", api.ErrDenied
	}
	if a.Deed == api.Put && len(m.tuples) == 20 {
		return m.done(a, "full"), api.OK
	}
	if a.Deed == api.Put {
		m.tuples = append(m.tuples, a.Tuple)
		return m.done(a, "ok"), api.OK
	}
	text, _ := tuple.Print(speaks)
	if a.Deed == api.Take {
		m.tuples = append(slices.Clone(m.tuples[:at]), m.tuples[at+1:]...)
	}
	return m.done(a, text), api.OK
}

func (m *model) done(a api.Ask, answer string) string {
	m.asked, m.answers = append(m.asked, a), append(m.answers, answer)
	return answer
}

// printed are all tuples that are there.
func (m *model) printed() (l []string) {
	for _, r := range m.tuples {
		s, _ := tuple.Print(r)
		l = append(l, s)
	}
	return l
}

// drawn is what somebody asks, in most cases what may be done.
func (m *model) drawn(draw func(n int) int) api.Ask {
	cells := row(number(0), number(-7), text(""), text("a"), anything, odd, far, long)
	a := api.Ask{Who: draw(4), Deed: max(0, draw(5)-2)}
	a.Seq = m.next(a.Who)
	for range 1 + draw(2) {
		kinds := 5
		if a.Deed == api.Put {
			kinds = 4
		}
		a.Tuple = append(a.Tuple, cells[draw(kinds)])
	}
	switch draw(10) {
	case 0:
		a.Seq += draw(5) - 3
	case 1:
		a.Seq--
	case 2:
		a.Tuple[0] = cells[draw(len(cells))]
	case 3:
		a.Deed = draw(5) - 1
	case 4:
		a.Who = draw(5) - 1
	}
	return a
}

// drawnRules lets much be done, with some rules ahead.
func drawnRules(draw func(n int) int) (l []api.Rule) {
	cells := row(number(0), text("a"), anything)
	for range draw(3) {
		r := api.Rule{Deed: draw(3), Who: draw(5) - 1, May: draw(2) == 0}
		for range 1 + draw(2) {
			r.Like = append(r.Like, cells[draw(3)])
		}
		l = append(l, r)
	}
	if draw(4) > 0 {
		l = append(l, ones()[:1+draw(3)]...)
	}
	return append(l, twos()[:draw(3)]...)
}

func TestManyDeedsAgainstAPlainList(t *testing.T) {
	state := uint32(1)
	draw := func(n int) int {
		state = state*1664525 + 1013904223
		return int(state>>16) % n
	}
	told, said := map[api.Errno]int{}, map[string]int{}
	for round := range 100 {
		m := &model{rules: drawnRules(draw)}
		c := made(t, m.rules)
		for i := range 300 {
			a := m.drawn(draw)
			want, wrong := m.do(a)
			if wrong != api.OK {
				refuses(t, c, a, wrong)
			} else {
				says(t, c, a, want)
			}
			has(t, c, len(m.asked), m.printed()...)
			told[wrong]++
			said[want]++
			if t.Failed() {
				t.Fatalf("at deed %d of round %d, rules %+v", i, round, m.rules)
			}
		}
	}
	for _, e := range []api.Errno{api.OK, api.ErrRange, api.ErrShape, api.ErrFull, api.ErrState, api.ErrDenied} {
		if told[e] == 0 {
			t.Errorf("%v was never told", e)
		}
	}
	for _, s := range []string{"ok", "none", "full", "0", ":a,-7"} {
		if said[s] == 0 {
			t.Errorf("%q was never answered", s)
		}
	}
}

func TestManyAsk(t *testing.T) {
	c := made(t, ones())
	for who := range 2_000 {
		says(t, c, put(who*500, 1, number(who)), "ok")
		says(t, c, take(who*500, 2, anything), strconv.Itoa(who))
	}
	for who := range 2_000 {
		says(t, c, put(who*500, 2, number(5)), strconv.Itoa(who))
	}
	has(t, c, 4_000)
}

// P2: nothing that is handed in is written into, nor kept, nor read behind its length.

func TestNothingHandedInIsWrittenInto(t *testing.T) {
	like := row(anything, odd)
	l := []api.Rule{{Deed: api.Put, Who: -1, Like: like[:1], May: true}, {Deed: 9}}
	r := row(text("a"), odd, far)
	keptLike, keptRow := slices.Clone(like), slices.Clone(r)
	c := made(t, l[:1])
	for range 2 {
		says(t, c, api.Ask{Who: 1, Seq: 1, Tuple: r[:1]}, "ok")
		refuses(t, c, api.Ask{Who: 1, Seq: 2, Deed: api.Take, Tuple: r[:1]}, api.ErrDenied)
		refuses(t, c, api.Ask{Who: 1, Seq: 2, Deed: api.Take, Tuple: r}, api.ErrShape)
	}
	if !slices.Equal(like, keptLike) || !slices.Equal(r, keptRow) || l[1].Deed != 9 || !l[0].May {
		t.Errorf("what was handed in was changed: %+v %+v", l, r)
	}
}

// Rules are those that New was given, whatever becomes of the list.
func TestNewKeepsNothingHandedIn(t *testing.T) {
	bytes := []byte("hello")
	like := row(text(unsafe.String(&bytes[0], len(bytes))))
	l := []api.Rule{{Deed: api.Put, Who: 1, Like: like, May: true}, let(api.Put, 2, number(1))}
	c := made(t, l)
	copy(bytes, "XXXXX")
	says(t, c, put(1, 1, text("hello")), "ok")
	like[0] = number(5)
	says(t, c, put(1, 2, text("hello")), "ok")
	refuses(t, c, put(1, 3, number(5)), api.ErrDenied)
	l[0], l[1] = api.Rule{Deed: 9}, api.Rule{Deed: 9}
	says(t, c, put(1, 3, text("hello")), "ok")
	says(t, c, put(2, 1, number(1)), "ok")
}

// A list, and a text in it, may be memory whose owner writes into it later.
func TestDoKeepsNothingHandedIn(t *testing.T) {
	bytes := []byte("hello")
	r := row(text(unsafe.String(&bytes[0], len(bytes))))
	c := made(t, ones())
	says(t, c, api.Ask{Who: 1, Seq: 1, Deed: api.Put, Tuple: r}, "ok")
	says(t, c, api.Ask{Who: 1, Seq: 2, Deed: api.Read, Tuple: r}, ":hello")
	copy(bytes, "XXXXX")
	r[0] = far
	says(t, c, read(1, 2, anything), ":hello")
	has(t, c, 2, ":hello")
	says(t, c, take(1, 3, text("hello")), ":hello")
}

// P2: what comes out is fresh memory, and the caller's.
func TestAnswersAreTheCallers(t *testing.T) {
	c := filled(t, ones(), 1, 2)
	says(t, c, put(1, 3, text("hello")), "ok")
	seen := map[*byte]bool{}
	for range 3 {
		all := c.Space()
		if at := unsafe.StringData(all[2][0].S); seen[at] {
			t.Error("two answers of Space share a text")
		} else {
			seen[at] = true
		}
		for _, r := range all {
			whole := r[:cap(r)]
			for i := range whole {
				whole[i] = odd
			}
		}
		all[0], all[1] = nil, all[2]
		has(t, c, 3, "1", "2", ":hello")
	}
	for range 3 {
		got, err := c.Do(read(2, 1, text("hello")))
		if got != ":hello" || err != nil {
			t.Fatalf("Do: got %q %v, want :hello", got, err)
		}
		// Whoever has the memory of an answer may write into it: what is kept is elsewhere.
		copy(unsafe.Slice(unsafe.StringData(got), len(got)), "XXXXXX")
	}
}
