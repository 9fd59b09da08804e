package log_test

import (
	"math"
	"slices"
	"strconv"
	"strings"
	"testing"
	"unsafe"

	"tuplestead/api"
	"tuplestead/log"
	"tuplestead/mirror"
	"tuplestead/plain"
)

// room is how many records there may be.
const room = 30

func number(n int) api.Value  { return api.Value{Kind: api.Number, N: n} }
func text(s string) api.Value { return api.Value{Kind: api.Text, S: s} }

// row is fields in a row, in memory of its own.
func row(v ...api.Value) []api.Value { return slices.Clone(v) }

// times is as many fields that are all the same.
func times(n int, v api.Value) []api.Value { return slices.Repeat(row(v), n) }

// put, read and take are what somebody asks.
func put(who, seq int, v ...api.Value) api.Ask {
	return api.Ask{Who: who, Seq: seq, Deed: api.Put, Tuple: row(v...)}
}
func read(who, seq int, v ...api.Value) api.Ask {
	return api.Ask{Who: who, Seq: seq, Deed: api.Read, Tuple: row(v...)}
}
func take(who, seq int, v ...api.Value) api.Ask {
	return api.Ask{Who: who, Seq: seq, Deed: api.Take, Tuple: row(v...)}
}

// let and forbid make one rule.
func let(deed, who int, like ...api.Value) api.Rule {
	return api.Rule{Deed: deed, Who: who, Like: row(like...), May: true}
}
func forbid(deed, who int, like ...api.Value) api.Rule {
	return api.Rule{Deed: deed, Who: who, Like: row(like...)}
}

// ones lets anybody do everything with tuples of one field; some does so with those of five, too,
// but for the number 13, that nobody may put, and for one who may not read or take at all.
func ones() []api.Rule {
	return []api.Rule{let(api.Put, -1, anything), let(api.Read, -1, anything), let(api.Take, -1, anything)}
}
func some() []api.Rule {
	five := times(5, anything)
	return append([]api.Rule{forbid(api.Put, -1, number(13)), forbid(api.Read, 77, anything), forbid(api.Take, 77, anything)},
		append(ones(), let(api.Put, -1, five...), let(api.Take, -1, five...))...)
}

var (
	anything = api.Value{Kind: api.Any}
	long     = api.Value{Kind: api.Text, S: "abcdefghijklm"}
	odd      = api.Value{Kind: api.Text, S: "A"}
	far      = api.Value{Kind: api.Number, N: api.MaxNumber + 1}
	deeds    = []int{api.Put, api.Read, api.Take}
	below    = []int{-1, -2, -30, -1 << 32, math.MinInt + 1, math.MinInt}
)

// fault is what may not be asked, and what is wrong with it.
type fault struct {
	a    api.Ask
	want api.Errno
}

// faults are what may not be asked by one who did so much, with the rules of some, whatever is in the space.
func faults(who, done int) []fault {
	next := done + 1
	return []fault{
		{put(-1, 1, number(1)), api.ErrRange},
		{put(api.MaxNumber+1, 1, number(1)), api.ErrRange},
		{put(math.MinInt, 1, number(1)), api.ErrRange},
		{api.Ask{Who: who, Seq: next, Deed: 3, Tuple: row(number(1))}, api.ErrRange},
		{api.Ask{Who: who, Seq: next, Deed: -1, Tuple: row(number(1))}, api.ErrRange},
		{api.Ask{Who: who, Seq: done, Deed: math.MaxInt, Tuple: row(number(1))}, api.ErrRange},
		{put(who, next), api.ErrNone},
		{take(who, done), api.ErrNone},
		{read(who, next, times(6, anything)...), api.ErrFull},
		{read(who, next, long), api.ErrFull},
		{put(who, next, far), api.ErrRange},
		{put(who, next, odd), api.ErrShape},
		{put(who, next, anything), api.ErrShape},
		{put(who, next, number(1), anything), api.ErrShape},
		{put(who, done-1, number(1)), api.ErrState},
		{put(who, next+1, number(1)), api.ErrState},
		{take(who, math.MinInt, number(1)), api.ErrState},
		{read(who, math.MaxInt, number(1)), api.ErrState},
		{put(who, next, number(13)), api.ErrDenied},
		{put(who, next, number(1), number(1)), api.ErrDenied},
	}
}

// state is all that a log tells of itself.
type state struct{ count, mark, bytes, safe int }

func now(l *log.Log) state {
	count, mark := l.Mark()
	return state{count, mark, l.Bytes(), l.Safe()}
}

// is asks for all that a log tells of itself.
func is(t *testing.T, l *log.Log, want state) {
	t.Helper()
	if got := now(l); got != want {
		t.Errorf("got %+v, want %+v", got, want)
	}
}

// made is a log with these rules.
func made(t *testing.T, rules []api.Rule) *log.Log {
	t.Helper()
	l, err := log.New(rules)
	if err != nil || l == nil {
		t.Fatalf("New(%+v): got %v", rules, err)
	}
	return l
}

// copyOf is a copy that did this, by which a log is held.
func copyOf(t *testing.T, rules []api.Rule, asks ...api.Ask) *mirror.Copy {
	t.Helper()
	c, err := mirror.New(rules)
	if err != nil {
		t.Fatal(err)
	}
	for _, a := range asks {
		if _, err := c.Do(a); err != nil {
			t.Fatalf("Do(%+v): %v", a, err)
		}
	}
	return c
}

// short is a piece of what is asked that can be printed beside a fault.
func short(a api.Ask) api.Ask {
	a.Tuple = slices.Clone(a.Tuple[:min(len(a.Tuple), 6)])
	return a
}

// says asks for an answer, whether it is done by that or was done ahead.
func says(t *testing.T, l *log.Log, a api.Ask, want string) {
	t.Helper()
	if got, err := l.Do(a); got != want || err != nil {
		t.Errorf("Do(%+v): got %q %v, want %q", short(a), got, err, want)
	}
}

// does asks for the answer of what is done now: there is one record more, and none of it is safe.
func does(t *testing.T, l *log.Log, a api.Ask, want string) {
	t.Helper()
	was := now(l)
	says(t, l, a, want)
	if is := now(l); is.count != was.count+1 || is.bytes < was.bytes+2 || is.safe != was.safe {
		t.Errorf("behind %+v: got %+v, was %+v", short(a), is, was)
	}
}

// repeats asks for the answer of what was done ahead: nothing is done.
func repeats(t *testing.T, l *log.Log, a api.Ask, want string) {
	t.Helper()
	was := now(l)
	says(t, l, a, want)
	is(t, l, was)
}

// refuses asks that an error is told, and that the log is just as it was.
func refuses(t *testing.T, l *log.Log, a api.Ask, want api.Errno) {
	t.Helper()
	was := now(l)
	if got, err := l.Do(a); got != "" || plain.Told(err) != want {
		t.Errorf("Do(%+v): got %q %v, want %v", short(a), got, err, want)
	}
	if got := now(l); got != was {
		t.Errorf("behind a refused %+v: got %+v, was %+v", short(a), got, was)
	}
}

// syncs asks that all that is there is safe now, and nothing else is changed.
func syncs(t *testing.T, l *log.Log) {
	t.Helper()
	want := now(l)
	want.safe = want.bytes
	if err := l.Sync(); err != nil {
		t.Errorf("Sync: got %v", err)
	}
	is(t, l, want)
}

// syncFails asks that a Sync says ErrState, and does nothing.
func syncFails(t *testing.T, l *log.Log) {
	t.Helper()
	was := now(l)
	if err := l.Sync(); plain.Told(err) != api.ErrState {
		t.Errorf("Sync: got %v, want ErrState", err)
	}
	is(t, l, was)
}

// doFails asks that a Do stops at its record, that has so many bytes: half of them are there.
func doFails(t *testing.T, l *log.Log, a api.Ask, size int) {
	t.Helper()
	want := now(l)
	want.bytes += size / 2
	if got, err := l.Do(a); got != "" || plain.Told(err) != api.ErrState {
		t.Errorf("Do(%+v): got %q %v, want ErrState", short(a), got, err)
	}
	is(t, l, want)
}

// hasStopped asks that nothing goes any more, whatever else is wrong.
func hasStopped(t *testing.T, l *log.Log, who, done int) {
	t.Helper()
	for _, f := range faults(who, done) {
		refuses(t, l, f.a, api.ErrState)
	}
	for _, deed := range deeds {
		for seq := done; seq <= done+1; seq++ {
			refuses(t, l, api.Ask{Who: who, Seq: seq, Deed: deed, Tuple: row(number(1))}, api.ErrState)
		}
	}
	refuses(t, l, read(who+1, 1, anything), api.ErrState)
	syncFails(t, l)
}

// deed is one that is done, and what is answered.
type deed struct {
	a    api.Ask
	want string
}

// story are deeds of all kinds, in their order, with the rules of some.
func story() []deed {
	zs := times(5, text("zzzzzzzzzzzz"))
	return []deed{
		{put(1, 1, number(0)), "ok"},
		{put(1_000_000, 1, number(-1_000_000)), "ok"},
		{read(0, 1, anything), "0"},
		{put(1_000_000, 2, zs...), "ok"},
		{take(1, 2, anything), "0"},
		{take(0, 2, number(5)), "none"},
		{put(77, 1, text("")), "ok"},
		{read(77, 2, text("a")), "none"},
		{take(0, 3, times(5, anything)...), ":zzzzzzzzzzzz,:zzzzzzzzzzzz,:zzzzzzzzzzzz,:zzzzzzzzzzzz,:zzzzzzzzzzzz"},
		{take(0, 4, text("")), ":"},
		{put(1, 3, number(1_000_000)), "ok"},
	}
}

// asks are those of the story.
func asks() (l []api.Ask) {
	for _, d := range story() {
		l = append(l, d.a)
	}
	return l
}

// told is a log that was told the first of the story.
func told(t *testing.T, many int) *log.Log {
	t.Helper()
	l := made(t, some())
	for _, d := range story()[:many] {
		does(t, l, d.a, d.want)
	}
	return l
}

// ends tells how many bytes there are behind none of some asks, behind the first, and so on.
func ends(t *testing.T, rules []api.Rule, asks []api.Ask) []int {
	t.Helper()
	l := made(t, rules)
	out := []int{0}
	for _, a := range asks {
		if _, err := l.Do(a); err != nil {
			t.Fatalf("Do(%+v): %v", a, err)
		}
		out = append(out, l.Bytes())
	}
	return out
}

// whole tells how many records are whole in so many bytes.
func whole(ends []int, bytes int) int {
	n := 0
	for n+1 < len(ends) && ends[n+1] <= bytes {
		n++
	}
	return n
}

// last is how many bytes the last record has.
func last(ends []int) int { return ends[len(ends)-1] - ends[len(ends)-2] }

// full is a log in which there is no room: who has put the numbers from 1 on, of whom 20 are there.
func full(t *testing.T, rules []api.Rule, who int) *log.Log {
	t.Helper()
	l := made(t, rules)
	for seq := 1; seq <= room; seq++ {
		want := "ok"
		if seq > 20 {
			want = "full"
		}
		does(t, l, put(who, seq, number(100+seq)), want)
	}
	return l
}

// L1: New.

func TestNewHasNothing(t *testing.T) {
	for _, rules := range [][]api.Rule{nil, {}, ones(), some(), slices.Repeat([]api.Rule{let(api.Put, 0, anything)}, 8)} {
		l := made(t, rules)
		is(t, l, state{mark: 7})
		syncs(t, l)
		is(t, l, state{mark: 7})
	}
}

func TestNewTellsWhatIsWrongWithRules(t *testing.T) {
	good := let(api.Put, 0, anything)
	for _, c := range []struct {
		l    []api.Rule
		want api.Errno
	}{
		{slices.Repeat([]api.Rule{good}, 9), api.ErrFull},
		{slices.Repeat([]api.Rule{let(3, 0, anything)}, 9), api.ErrFull},
		{slices.Repeat([]api.Rule{good}, 1<<12), api.ErrFull},
		{[]api.Rule{let(3, 0), let(0, 0)}, api.ErrRange},
		{[]api.Rule{let(0, 0), let(3, 0)}, api.ErrNone},
		{[]api.Rule{let(-1, 0, anything)}, api.ErrRange},
		{[]api.Rule{let(math.MaxInt, 0, anything)}, api.ErrRange},
		{[]api.Rule{let(0, -2, anything)}, api.ErrRange},
		{[]api.Rule{let(0, 1_000_001, anything)}, api.ErrRange},
		{[]api.Rule{let(0, math.MinInt, anything)}, api.ErrRange},
		{[]api.Rule{good, let(0, 0)}, api.ErrNone},
		{[]api.Rule{good, let(0, 0, times(6, anything)...)}, api.ErrFull},
		{[]api.Rule{good, let(0, 0, far)}, api.ErrRange},
		{[]api.Rule{good, let(0, 0, long)}, api.ErrFull},
		{[]api.Rule{good, let(0, 0, odd)}, api.ErrShape},
	} {
		if got, err := log.New(c.l); got != nil || plain.Told(err) != c.want {
			t.Errorf("New(%.200v): got %v %v, want nil %v", c.l[:min(len(c.l), 9)], got, err, c.want)
		}
	}
}

// L1: Do, as long as it goes.

// Each that is done is answered as by a copy, and has a record.
func TestDoIsTheCopys(t *testing.T) {
	l, c := made(t, some()), copyOf(t, some())
	for _, d := range story() {
		does(t, l, d.a, d.want)
		if _, err := c.Do(d.a); err != nil {
			t.Fatal(err)
		}
		count, mark := c.Mark()
		is(t, l, state{count, mark, l.Bytes(), 0})
	}
}

func TestDoTellsWhatIsWrong(t *testing.T) {
	for many := range len(story()) {
		l := told(t, many)
		for _, f := range faults(5, 0) {
			refuses(t, l, f.a, f.want)
		}
		does(t, l, put(5, 1, number(4)), "ok")
		does(t, l, put(77, 1+len(doneBy(77, many)), number(4)), "ok")
		// It is there by now, and may not be had.
		refuses(t, l, read(77, 2+len(doneBy(77, many)), number(4)), api.ErrDenied)
		refuses(t, l, take(77, 2+len(doneBy(77, many)), number(4)), api.ErrDenied)
		for _, f := range faults(5, 1) {
			refuses(t, l, f.a, f.want)
		}
		does(t, l, take(5, 2, number(4)), "4")
	}
}

// doneBy are those of the first of the story that one asked.
func doneBy(who, many int) (l []deed) {
	for _, d := range story()[:many] {
		if d.a.Who == who {
			l = append(l, d)
		}
	}
	return l
}

// The last one of each is answered as it was, whatever it asks now, and has no record once more.
func TestTheLastOneAgainHasNoRecord(t *testing.T) {
	for many := range len(story()) + 1 {
		l := told(t, many)
		for range 2 {
			for _, who := range []int{0, 1, 77, 1_000_000} {
				done := doneBy(who, many)
				for i, d := range done {
					if i+1 < len(done) {
						refuses(t, l, d.a, api.ErrState)
						continue
					}
					repeats(t, l, d.a, d.want)
					for _, deed := range deeds {
						repeats(t, l, api.Ask{Who: who, Seq: d.a.Seq, Deed: deed, Tuple: row(number(13))}, d.want)
					}
				}
			}
			syncs(t, l)
		}
	}
}

// L1: ErrFull.

func TestThereAreNoMoreRecordsThanMayBe(t *testing.T) {
	l := full(t, some(), 3)
	for range 2 {
		for _, who := range []int{3, 4} {
			seq := 1
			if who == 3 {
				seq = room + 1
			}
			refuses(t, l, put(who, seq, number(1)), api.ErrFull)
			refuses(t, l, read(who, seq, anything), api.ErrFull)
			refuses(t, l, take(who, seq, anything), api.ErrFull)
			refuses(t, l, take(who, seq, number(1)), api.ErrFull)
		}
		repeats(t, l, put(3, room, number(1)), "full")
		repeats(t, l, take(3, room, anything), "full")
		syncs(t, l)
	}
}

// Records of several, of whom each has their last one.
func TestTheLastOneOfEachIsAnsweredByAFullOne(t *testing.T) {
	l := made(t, ones())
	for who := range room {
		does(t, l, put(who, 1, number(who)), []string{"ok", "full"}[who/20])
	}
	for who := range room {
		repeats(t, l, take(who, 1, anything), []string{"ok", "full"}[who/20])
		refuses(t, l, take(who, 2, anything), api.ErrFull)
		refuses(t, l, take(who, 3, anything), api.ErrState)
		refuses(t, l, take(who, 0, anything), api.ErrState)
	}
	refuses(t, l, put(room, 1, number(1)), api.ErrFull)
}

// What is wrong by chapter 16 is told by a full one, too.
func TestWhatIsWrongIsToldAheadOfThereBeingNoRoom(t *testing.T) {
	l := full(t, some(), 3)
	for _, f := range append(faults(3, room), faults(4, 0)...) {
		refuses(t, l, f.a, f.want)
	}
	l = full(t, some(), 77)
	for _, f := range faults(77, room) {
		refuses(t, l, f.a, f.want)
	}
	refuses(t, l, read(77, room+1, anything), api.ErrDenied)
	refuses(t, l, take(77, room+1, number(101)), api.ErrDenied)
	refuses(t, l, take(77, room+1, number(1)), api.ErrFull)
}

// What is answered again, and what is refused, is no record: there is room for thirty behind it.
func TestOnlyRecordsCountForRoom(t *testing.T) {
	l := made(t, some())
	for seq := 1; seq <= room; seq++ {
		for _, f := range faults(6, seq-1) {
			refuses(t, l, f.a, f.want)
		}
		does(t, l, read(6, seq, number(1)), "none")
		for range 3 {
			repeats(t, l, read(6, seq, number(1)), "none")
			syncs(t, l)
		}
	}
	refuses(t, l, read(6, room+1, number(1)), api.ErrFull)
}

// L1: Sync.

func TestSyncMakesSafeWhatIsThere(t *testing.T) {
	for many := range len(story()) + 1 {
		l := told(t, many)
		syncs(t, l)
		syncs(t, l)
		for _, d := range story()[many:] {
			does(t, l, d.a, d.want)
		}
		syncs(t, l)
	}
}

// L1: Fail.

// Each record, of whatever size, has half its bytes there, rounded down.
func TestHalfARecordIsThere(t *testing.T) {
	parity := [2]int{}
	for n := range 13 {
		for many := range 4 {
			a := put(8, 1, text(strings.Repeat("b", n)))
			size := last(ends(t, some(), append(asks()[:many], a)))
			l := told(t, many)
			l.Fail(0)
			doFails(t, l, a, size)
			hasStopped(t, l, 8, 0)
			parity[size%2]++
		}
	}
	if parity[0] == 0 || parity[1] == 0 {
		t.Errorf("records of even and odd sizes: %v", parity)
	}
}

// So many steps go well, and the next one stops it; all that is no step does not count.
func TestFailCountsSteps(t *testing.T) {
	size := ends(t, some(), asks())
	for n := range len(asks()) {
		// By a Do, with a Sync now and then, that is a step, too.
		for every := 1; every <= 4; every++ {
			l := made(t, some())
			l.Fail(n)
			left, i := n, 0
			for step := 1; left > 0; step++ {
				for _, f := range faults(5, 0) {
					refuses(t, l, f.a, f.want)
				}
				if step%(every+1) == 0 {
					syncs(t, l)
				} else {
					does(t, l, story()[i].a, story()[i].want)
					repeats(t, l, story()[i].a, story()[i].want)
					i++
				}
				left--
			}
			for _, f := range faults(5, 0) {
				refuses(t, l, f.a, f.want)
			}
			if every%2 == 0 {
				syncFails(t, l)
			} else {
				doFails(t, l, asks()[i], size[i+1]-size[i])
			}
			hasStopped(t, l, 5, 0)
		}
	}
}

// The last one again goes on being answered ahead of the stop, and is no step.
func TestAnsweringAgainIsNoStep(t *testing.T) {
	l := told(t, len(story()))
	l.Fail(0)
	for range 5 {
		repeats(t, l, story()[10].a, "ok")
	}
	doFails(t, l, read(9, 1, number(1)), last(ends(t, some(), append(asks(), read(9, 1, number(1))))))
	refuses(t, l, story()[10].a, api.ErrState)
}

// What finds no room comes to no record, and so is no step.
func TestThereBeingNoRoomIsNoStep(t *testing.T) {
	l := full(t, some(), 3)
	l.Fail(1)
	for range 5 {
		refuses(t, l, put(3, room+1, number(1)), api.ErrFull)
		refuses(t, l, read(4, 1, number(1)), api.ErrFull)
	}
	syncs(t, l)
	refuses(t, l, read(4, 1, number(1)), api.ErrFull)
	repeats(t, l, put(3, room, number(1)), "full")
	syncFails(t, l)
	// That it has stopped is told ahead of there being no room.
	hasStopped(t, l, 3, room)
}

func TestBelowNoughtItNeverStops(t *testing.T) {
	for _, n := range below {
		for _, ahead := range []int{0, 1, 5, n} {
			l := made(t, some())
			l.Fail(ahead)
			l.Fail(n)
			for _, d := range story() {
				does(t, l, d.a, d.want)
				syncs(t, l)
			}
			for range 100 {
				syncs(t, l)
			}
		}
	}
}

// Nothing is said of stopping at first, and one that is far off does not come soon.
func TestItDoesNotStopByItself(t *testing.T) {
	for _, n := range []int{-1, 1_000, 1 << 32, math.MaxInt - 1, math.MaxInt} {
		l := full(t, some(), 3)
		if n >= 0 {
			l.Fail(n)
		}
		for range 900 {
			syncs(t, l)
		}
		refuses(t, l, read(4, 1, number(1)), api.ErrFull)
	}
}

func TestANewFailTakesThePlaceOfTheOneAhead(t *testing.T) {
	for _, c := range []struct{ first, steps, second, more int }{
		{0, 0, 1, 1},
		{0, 0, 5, 5},
		{5, 0, 0, 0},
		{5, 3, 1, 1},
		{5, 5, 4, 4},
		{2, 1, 2, 2},
		{-1, 4, 0, 0},
		{-7, 4, 3, 3},
		{math.MaxInt, 4, 1, 1},
		{1, 0, 1, 1},
	} {
		l := told(t, 3)
		l.Fail(c.first)
		for range c.steps {
			syncs(t, l)
		}
		l.Fail(c.second)
		for range c.more {
			syncs(t, l)
		}
		syncFails(t, l)
		hasStopped(t, l, 1, 1)
	}
}

// Only a Crash lets it go on.
func TestFailDoesNotLetItGoOn(t *testing.T) {
	for _, n := range append([]int{0, 1, 100, math.MaxInt}, below...) {
		l := told(t, 3)
		l.Fail(0)
		syncFails(t, l)
		l.Fail(n)
		hasStopped(t, l, 1, 1)
		l.Crash(math.MaxInt)
		for range 101 {
			syncs(t, l)
		}
	}
}

// L2: Crash.

// goesOn asks that a log answers as a copy does that did the same, from here on.
func goesOn(t *testing.T, l *log.Log, c *mirror.Copy, asks []api.Ask) {
	t.Helper()
	for _, a := range asks {
		want, wrong := c.Do(a)
		got, err := l.Do(a)
		if got != want || plain.Told(err) != plain.Told(wrong) {
			t.Errorf("Do(%+v): got %q %v, want %q %v", short(a), got, err, want, wrong)
		}
		count, mark := c.Mark()
		if n, m := l.Mark(); n != count || m != mark {
			t.Errorf("Mark behind %+v: got %d %d, want %d %d", short(a), n, m, count, mark)
		}
	}
}

// crashed asks that just so many of the story are left, and safe, and that it goes on from there.
func crashed(t *testing.T, l *log.Log, size []int, left int) {
	t.Helper()
	c := copyOf(t, some(), asks()[:left]...)
	count, mark := c.Mark()
	if count != left {
		t.Fatalf("the copy did %d of %d", count, left)
	}
	is(t, l, state{count, mark, size[left], size[left]})
	// Those that are left are the last of each, and those that are lost are still to come.
	goesOn(t, l, c, asks())
	if l.Bytes() != size[len(size)-1] || l.Safe() != size[left] {
		t.Errorf("behind all of it: got %+v, want %d bytes, %d safe", now(l), size[len(size)-1], size[left])
	}
}

// At every place a record may be cut off.
func TestCrashLeavesWholeRecords(t *testing.T) {
	size := ends(t, some(), asks())
	for many := range len(size) {
		for safe := range many + 1 {
			lost := size[many] - size[safe]
			for keep := -1; keep <= lost+1; keep++ {
				l := made(t, some())
				for i, a := range asks()[:many] {
					if i == safe {
						syncs(t, l)
					}
					says(t, l, a, story()[i].want)
				}
				if safe == many {
					syncs(t, l)
				}
				l.Crash(keep)
				crashed(t, l, size, whole(size[:many+1], size[safe]+max(keep, 0)))
				if t.Failed() {
					t.Fatalf("%d of the story, %d of them safe, crashed with %d of %d bytes", many, safe, keep, lost)
				}
			}
		}
	}
}

func TestCrashKeepsAsMuchAsIsAsked(t *testing.T) {
	size := ends(t, some(), asks())
	for many := range len(size) {
		for _, keep := range []int{size[many], 1 << 16, 1 << 31, 1 << 32, 1 << 62, math.MaxInt - 1, math.MaxInt} {
			l := told(t, many)
			l.Crash(keep)
			crashed(t, l, size, many)
			l = told(t, many)
			syncs(t, l)
			l.Crash(keep)
			crashed(t, l, size, many)
		}
		for _, keep := range append([]int{0}, below...) {
			l := told(t, many)
			l.Crash(keep)
			crashed(t, l, size, 0)
			l = told(t, many)
			syncs(t, l)
			l.Crash(keep)
			crashed(t, l, size, many)
		}
	}
}

// Half a record is no record, however much is kept.
func TestCrashLeavesNoHalfRecord(t *testing.T) {
	size := ends(t, some(), asks())
	for many := range len(asks()) {
		for safe := range many + 1 {
			for keep := -1; keep <= size[many+1]-size[safe]+1; keep++ {
				l := told(t, safe)
				syncs(t, l)
				for i, a := range asks()[safe:many] {
					says(t, l, a, story()[safe+i].want)
				}
				l.Fail(0)
				doFails(t, l, asks()[many], size[many+1]-size[many])
				l.Crash(keep)
				crashed(t, l, size, whole(size[:many+1], size[safe]+max(keep, 0)))
				if t.Failed() {
					t.Fatalf("stopped at %d of the story, %d safe, crashed with %d bytes", many, safe, keep)
				}
			}
		}
	}
}

// A Sync that fails has made nothing safe.
func TestCrashBehindASyncThatFailed(t *testing.T) {
	size := ends(t, some(), asks())
	for many := range len(size) {
		for safe := range many + 1 {
			for _, keep := range []int{0, math.MaxInt} {
				l := told(t, safe)
				syncs(t, l)
				for i, a := range asks()[safe:many] {
					says(t, l, a, story()[safe+i].want)
				}
				l.Fail(0)
				syncFails(t, l)
				hasStopped(t, l, 5, 0)
				l.Crash(keep)
				crashed(t, l, size, max(safe, min(keep, many)))
			}
		}
	}
}

// What is lost may be done otherwise than it was.
func TestWhatIsLostIsStillToCome(t *testing.T) {
	l := made(t, some())
	does(t, l, put(1, 1, number(1)), "ok")
	syncs(t, l)
	does(t, l, take(1, 2, anything), "1")
	does(t, l, put(2, 1, text("a")), "ok")
	l.Crash(0)
	repeats(t, l, put(1, 1, number(5)), "ok")
	refuses(t, l, take(1, 3, anything), api.ErrState)
	refuses(t, l, put(2, 2, text("a")), api.ErrState)
	does(t, l, take(2, 1, anything), "1")
	does(t, l, take(1, 2, anything), "none")
	repeats(t, l, put(2, 1, text("a")), "1")
}

// What is answered again is what was answered ahead of the Crash, not what would be now.
func TestAnswersAreKept(t *testing.T) {
	l := made(t, some())
	does(t, l, take(1, 1, anything), "none")
	does(t, l, put(2, 1, number(4)), "ok")
	does(t, l, read(3, 1, anything), "4")
	does(t, l, take(4, 1, anything), "4")
	does(t, l, put(2, 2, number(6)), "ok")
	syncs(t, l)
	for range 3 {
		l.Crash(0)
		repeats(t, l, take(1, 1, anything), "none")
		repeats(t, l, read(3, 1, anything), "4")
		repeats(t, l, take(4, 1, anything), "4")
		repeats(t, l, put(2, 2, number(8)), "ok")
		refuses(t, l, put(2, 1, number(4)), api.ErrState)
	}
}

// The new Copy has the rules that were there ahead.
func TestRulesAreKept(t *testing.T) {
	l := made(t, some())
	for range 3 {
		does(t, l, put(77, 1, number(1)), "ok")
		refuses(t, l, put(77, 2, number(13)), api.ErrDenied)
		refuses(t, l, take(77, 2, anything), api.ErrDenied)
		l.Crash(0)
	}
	does(t, l, put(77, 1, number(1)), "ok")
	l.Crash(1_000)
	refuses(t, l, put(77, 2, number(13)), api.ErrDenied)
	refuses(t, l, take(77, 2, anything), api.ErrDenied)
	does(t, l, take(78, 1, anything), "1")
}

// A Crash makes room, where something is lost.
func TestACrashMakesRoom(t *testing.T) {
	l := full(t, some(), 3)
	l.Crash(math.MaxInt)
	refuses(t, l, put(3, room+1, number(1)), api.ErrFull)
	repeats(t, l, put(3, room, number(1)), "full")
	l.Crash(0)
	refuses(t, l, put(3, room+1, number(1)), api.ErrFull)
	is(t, l, state{room, now(l).mark, l.Bytes(), l.Bytes()})

	l = full(t, some(), 3)
	l.Crash(l.Bytes() - 1)
	does(t, l, read(4, 1, number(1)), "none")
	refuses(t, l, read(4, 2, number(1)), api.ErrFull)

	l = full(t, some(), 3)
	l.Crash(0)
	is(t, l, state{mark: 7})
	for seq := 1; seq <= room; seq++ {
		does(t, l, take(3, seq, anything), "none")
	}
	refuses(t, l, take(3, room+1, anything), api.ErrFull)
}

// The last record there is room for may stop it, too, and is none then.
func TestItStopsAtTheLastRecord(t *testing.T) {
	l := made(t, some())
	for seq := 1; seq < room; seq++ {
		does(t, l, read(4, seq, number(1)), "none")
	}
	l.Fail(0)
	was := l.Bytes()
	if _, err := l.Do(read(4, room, number(1))); plain.Told(err) != api.ErrState {
		t.Errorf("Do: got %v, want ErrState", err)
	}
	l.Crash(math.MaxInt)
	is(t, l, state{room - 1, 7, was, was})
	does(t, l, read(4, room, number(1)), "none")
	refuses(t, l, read(4, room+1, number(1)), api.ErrFull)
}

func TestACrashForgetsWhatFailSaid(t *testing.T) {
	for _, n := range []int{0, 1, 2, 50} {
		for _, keep := range []int{-1, 0, 5, math.MaxInt} {
			l := told(t, 3)
			l.Fail(n)
			l.Crash(keep)
			for range 52 {
				syncs(t, l)
			}
			does(t, l, read(5, 1, number(5)), "none")
			l.Fail(0)
			syncFails(t, l)
			l.Crash(keep)
			for range 52 {
				syncs(t, l)
			}
		}
	}
}

// What a Crash has left is safe: another one takes nothing away.
func TestACrashBehindACrash(t *testing.T) {
	size := ends(t, some(), asks())
	for many := range len(size) {
		for left := range many + 1 {
			l := told(t, many)
			l.Crash(size[left])
			was := now(l)
			for _, keep := range []int{-1, 0, 1, math.MaxInt, math.MinInt} {
				l.Crash(keep)
				is(t, l, was)
			}
			crashed(t, l, size, left)
		}
	}
}

func TestLogsAreApart(t *testing.T) {
	a, b := told(t, 5), told(t, 5)
	was := now(b)
	a.Fail(0)
	syncFails(t, a)
	is(t, b, was)
	syncs(t, b)
	a.Crash(0)
	is(t, a, state{mark: 7})
	does(t, b, story()[5].a, story()[5].want)
}

// L1 and L2: all that is answered is held against plain lists.

// model is a log once more, by lists of what was done.
type model struct {
	t       *testing.T
	rules   []api.Rule
	done    []api.Ask
	safe    int // how many of them are
	left    int // steps until it stops
	stopped bool
	half    int // how many bytes of half a record are there
}

func (m *model) copy() *mirror.Copy { return copyOf(m.t, m.rules, m.done...) }
func (m *model) ends() []int        { return ends(m.t, m.rules, m.done) }

func (m *model) state() state {
	count, mark := m.copy().Mark()
	size := m.ends()
	return state{count, mark, size[len(m.done)] + m.half, size[m.safe]}
}

// step tells whether it stops there.
func (m *model) step() bool {
	if m.left == 0 {
		m.stopped = true
	}
	if m.left > 0 {
		m.left--
	}
	return m.stopped
}

func (m *model) do(a api.Ask) (string, api.Errno) {
	if m.stopped {
		return "", api.ErrState
	}
	c := m.copy()
	answer, err := c.Do(a)
	if err != nil {
		return "", plain.Told(err)
	}
	if n, _ := c.Mark(); n == len(m.done) {
		return answer, api.OK
	}
	if len(m.done) == room {
		return "", api.ErrFull
	}
	if m.step() {
		m.half = last(ends(m.t, m.rules, append(slices.Clone(m.done), a))) / 2
		return "", api.ErrState
	}
	m.done = append(slices.Clone(m.done), a)
	return answer, api.OK
}

func (m *model) sync() api.Errno {
	if m.stopped || m.step() {
		return api.ErrState
	}
	m.safe = len(m.done)
	return api.OK
}

func (m *model) crash(keep int) {
	size := m.ends()
	m.done = m.done[:whole(size, size[m.safe]+max(0, keep))]
	m.safe, m.left, m.stopped, m.half = len(m.done), -1, false, 0
}

// drawn is something to be asked: mostly the next of somebody, and now and then not.
func (m *model) drawn(draw func(n int) int) api.Ask {
	cells := row(number(0), number(-7), text(""), text("a"), text("hello"), anything, number(13), odd, far)
	a := api.Ask{Who: draw(4), Deed: max(0, draw(5)-2)}
	for _, d := range m.done {
		if d.Who == a.Who {
			a.Seq++
		}
	}
	if draw(5) > 0 {
		a.Seq++
	}
	if draw(20) == 0 {
		a.Seq += draw(5) - 2
	}
	most := len(cells)
	if draw(10) > 0 {
		most = 6
	}
	a.Tuple = row(cells[draw(most)])
	if a.Deed == api.Put && a.Tuple[0] == anything {
		a.Tuple[0] = text(strings.Repeat("x", draw(13)))
	}
	return a
}

func TestManyCallsAgainstPlainLists(t *testing.T) {
	seed := uint32(1)
	draw := func(n int) int {
		seed = seed*1664525 + 1013904223
		return int(seed>>16) % n
	}
	told, crashes := map[api.Errno]int{}, map[bool]int{}
	for round := range 60 {
		m := &model{t: t, rules: some(), left: -1}
		l := made(t, m.rules)
		for i := range 120 {
			what := ""
			switch n := draw(40); {
			case n < 32:
				a := m.drawn(draw)
				want, wrong := m.do(a)
				got, err := l.Do(a)
				what = "Do " + strconv.Quote(got)
				if got != want || plain.Told(err) != wrong {
					t.Errorf("Do(%+v): got %q %v, want %q %v", a, got, err, want, wrong)
				}
				told[wrong]++
			case n < 36:
				what = "Sync"
				if wrong, err := m.sync(), l.Sync(); plain.Told(err) != wrong {
					t.Errorf("Sync: got %v, want %v", err, wrong)
				}
			case n < 38:
				what = "Fail"
				at := draw(30) - 5
				l.Fail(at)
				m.left = max(at, -1)
			case m.stopped || draw(4) == 0:
				keep := draw(400) - 100
				what = "Crash " + strconv.Itoa(keep)
				crashes[m.stopped]++
				l.Crash(keep)
				m.crash(keep)
			}
			is(t, l, m.state())
			if t.Failed() {
				t.Fatalf("at call %d of round %d: %s", i, round, what)
			}
		}
	}
	for _, e := range []api.Errno{api.OK, api.ErrRange, api.ErrShape, api.ErrFull, api.ErrState, api.ErrDenied} {
		if told[e] == 0 {
			t.Errorf("%v was never told", e)
		}
	}
	if crashes[true] == 0 || crashes[false] == 0 {
		t.Errorf("crashes, where it had stopped, and where not: %v", crashes)
	}
}

// P2: nothing that is handed in is written into, nor kept, nor read behind its length.

func TestNothingHandedInIsWrittenInto(t *testing.T) {
	like := row(anything, odd)
	rules := []api.Rule{{Deed: api.Put, Who: -1, Like: like[:1], May: true}, {Deed: 9}}
	r := row(text("a"), odd, far)
	keptLike, keptRow := slices.Clone(like), slices.Clone(r)
	l := made(t, rules[:1])
	for range 2 {
		says(t, l, api.Ask{Who: 1, Seq: 1, Tuple: r[:1]}, "ok")
		refuses(t, l, api.Ask{Who: 1, Seq: 2, Deed: api.Take, Tuple: r[:1]}, api.ErrDenied)
		refuses(t, l, api.Ask{Who: 1, Seq: 2, Deed: api.Take, Tuple: r}, api.ErrShape)
		syncs(t, l)
		l.Crash(0)
	}
	if !slices.Equal(like, keptLike) || !slices.Equal(r, keptRow) || rules[1].Deed != 9 || !rules[0].May {
		t.Errorf("what was handed in was changed: %+v %+v", rules, r)
	}
}

// The rules of a new Copy are those that New was given, whatever became of the list.
func TestNewKeepsNothingHandedIn(t *testing.T) {
	bytes := []byte("hello")
	like := row(text(unsafe.String(&bytes[0], len(bytes))))
	rules := []api.Rule{{Deed: api.Put, Who: 1, Like: like, May: true}, let(api.Put, 2, number(1))}
	l := made(t, rules)
	copy(bytes, "XXXXX")
	like[0] = number(5)
	rules[0], rules[1] = api.Rule{Deed: 9}, let(api.Put, -1, anything)
	for range 3 {
		does(t, l, put(1, 1, text("hello")), "ok")
		refuses(t, l, put(1, 2, number(5)), api.ErrDenied)
		does(t, l, put(2, 1, number(1)), "ok")
		l.Crash(0)
	}
}

// A list, and a text in it, may be memory whose owner writes into it later.
func TestDoKeepsNothingHandedIn(t *testing.T) {
	bytes := []byte("hello")
	r := row(text(unsafe.String(&bytes[0], len(bytes))))
	l := made(t, ones())
	does(t, l, api.Ask{Who: 1, Seq: 1, Deed: api.Put, Tuple: r}, "ok")
	does(t, l, api.Ask{Who: 1, Seq: 2, Deed: api.Read, Tuple: r}, ":hello")
	copy(bytes, "XXXXX")
	r[0] = far
	for range 3 {
		repeats(t, l, read(1, 2, anything), ":hello")
		l.Crash(math.MaxInt)
	}
	does(t, l, take(1, 3, text("hello")), ":hello")
}

// P2: what comes out is fresh memory, and the caller's.
func TestAnswersAreTheCallers(t *testing.T) {
	l := made(t, ones())
	does(t, l, put(1, 1, text("hello")), "ok")
	for i := range 6 {
		got, err := l.Do(read(2, 1, text("hello")))
		if got != ":hello" || err != nil {
			t.Fatalf("Do: got %q %v, want :hello", got, err)
		}
		// Whoever has the memory of an answer may write into it: what is kept is elsewhere.
		copy(unsafe.Slice(unsafe.StringData(got), len(got)), "XXXXXX")
		if i%2 == 1 {
			l.Crash(math.MaxInt)
		}
	}
}
