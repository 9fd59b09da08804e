package queue_test

import (
	"math"
	"slices"
	"strings"
	"testing"
	"unsafe"

	"tuplestead/api"
	"tuplestead/plain"
	"tuplestead/queue"
	"tuplestead/tuple"
)

func number(n int) api.Value  { return api.Value{Kind: api.Number, N: n} }
func text(s string) api.Value { return api.Value{Kind: api.Text, S: s} }

// row is fields in a row, in memory of its own.
func row(v ...api.Value) []api.Value { return slices.Clone(v) }

// times is as many fields that are all the same.
func times(n int, v api.Value) []api.Value { return slices.Repeat(row(v), n) }

// ask is what somebody asks: its tuple may be put, read and taken.
func ask(who, seq, deed int) api.Ask {
	return api.Ask{Who: who, Seq: seq, Deed: deed, Tuple: row(number(who), number(1), text("a"))}
}

var (
	anything = api.Value{Kind: api.Any}
	full     = api.Value{Kind: api.Text, S: "abcdefghijklm"}
	odd      = api.Value{Kind: api.Text, S: "A"}
	far      = api.Value{Kind: api.Number, N: api.MaxNumber + 1}
	deeds    = []int{api.Put, api.Read, api.Take}
)

// noWho and noDeed are numbers that may not be.
var (
	noWho  = []int{math.MinInt, math.MinInt + 1, -1 << 32, -1_000_001, -1_000_000, -256, -2, -1, 1_000_001, 1_000_002, 1 << 32, 1<<32 + 1, math.MaxInt - 1, math.MaxInt}
	noDeed = []int{math.MinInt, math.MinInt + 1, -1 << 32, -256, -2, -1, 3, 4, 256, 257, 1 << 32, 1<<32 + 1, math.MaxInt - 1, math.MaxInt}
)

// fault is what may be neither asked for nor put, and what is wrong with it.
type fault struct {
	t    []api.Value
	want api.Errno
}

func faulty() []fault {
	return []fault{
		{nil, api.ErrNone},
		{[]api.Value{}, api.ErrNone},
		{times(3, number(1))[:0], api.ErrNone},
		{times(6, number(1)), api.ErrFull},
		{times(6, anything), api.ErrFull},
		{times(6, far), api.ErrFull},
		{times(1<<12, text("a")), api.ErrFull},
		{row(far), api.ErrRange},
		{row(number(-api.MaxNumber - 1)), api.ErrRange},
		{row(number(math.MinInt)), api.ErrRange},
		{row(api.Value{Kind: 3}), api.ErrRange},
		{row(api.Value{Kind: -1}), api.ErrRange},
		{row(full), api.ErrFull},
		{row(text(strings.Repeat("a", 1<<12))), api.ErrFull},
		{row(odd), api.ErrShape},
		{row(text("\xff")), api.ErrShape},
		{row(api.Value{Kind: api.Text, N: 1}), api.ErrShape},
		{row(api.Value{Kind: api.Number, S: "a"}), api.ErrShape},
		{row(api.Value{Kind: api.Any, N: 1}), api.ErrShape},
		{row(number(1), far, odd), api.ErrRange},
		{row(number(1), odd, far), api.ErrShape},
		{row(anything, far), api.ErrRange},
		{row(anything, full), api.ErrFull},
	}
}

// withAnything are those that may be asked for, but not put.
func withAnything() (l [][]api.Value) {
	for n := 1; n <= api.MaxFields; n++ {
		l = append(l, times(n, anything))
		for at := range n {
			r := times(n, text("b"))
			r[at] = anything
			l = append(l, r)
		}
	}
	return l
}

// short is a piece of what is asked that can be printed beside a fault.
func short(a api.Ask) api.Ask {
	a.Tuple = slices.Clone(a.Tuple[:min(len(a.Tuple), 6)])
	for i := range a.Tuple {
		a.Tuple[i].S = a.Tuple[i].S[:min(len(a.Tuple[i].S), 20)]
	}
	return a
}

func same(a, b api.Ask) bool {
	return a.Who == b.Who && a.Seq == b.Seq && a.Deed == b.Deed && slices.Equal(a.Tuple, b.Tuple)
}

func pushes(t *testing.T, q *queue.Queue, a api.Ask, told api.Errno) {
	t.Helper()
	if err := q.Push(a); plain.Told(err) != told {
		t.Errorf("Push(%+v): got %v, want %v", short(a), err, told)
	}
}

func pops(t *testing.T, q *queue.Queue, want api.Ask) {
	t.Helper()
	if got, err := q.Pop(); !same(got, want) || err != nil {
		t.Errorf("Pop: got %+v %v, want %+v", got, err, want)
	}
}

func popsNone(t *testing.T, q *queue.Queue) {
	t.Helper()
	if got, err := q.Pop(); !same(got, api.Ask{}) || plain.Told(err) != api.ErrNone {
		t.Errorf("Pop: got %+v %v, want ErrNone", got, err)
	}
}

func nexts(t *testing.T, q *queue.Queue, who, want int, told api.Errno) {
	t.Helper()
	if got, err := q.Next(who); got != want || plain.Told(err) != told {
		t.Errorf("Next(%d): got %d %v, want %d %v", who, got, err, want, told)
	}
}

func counts(t *testing.T, q *queue.Queue, want int) {
	t.Helper()
	if got := q.Count(); got != want {
		t.Errorf("Count: got %d, want %d", got, want)
	}
}

// filled has so many of one who asks.
func filled(t *testing.T, who, many int) *queue.Queue {
	t.Helper()
	q := queue.New()
	for i := range many {
		pushes(t, q, ask(who, i+1, i%3), api.OK)
	}
	return q
}

// holds asks that just those of filled are there, and nothing else was pushed. It empties the queue.
func holds(t *testing.T, q *queue.Queue, who, many int) {
	t.Helper()
	counts(t, q, many)
	nexts(t, q, who, many+1, api.OK)
	for i := range many {
		pops(t, q, ask(who, i+1, i%3))
	}
	popsNone(t, q)
}

// Q1: a new one.

func TestNewHasNothing(t *testing.T) {
	q := queue.New()
	counts(t, q, 0)
	popsNone(t, q)
	for _, who := range []int{0, 1, 2, 3, 30, 999_999, 1_000_000} {
		nexts(t, q, who, 1, api.OK)
	}
	counts(t, q, 0)
}

func TestQueuesAreApart(t *testing.T) {
	a, b := filled(t, 1, 2), queue.New()
	counts(t, b, 0)
	nexts(t, b, 1, 1, api.OK)
	popsNone(t, b)
	pushes(t, b, ask(1, 1, api.Take), api.OK)
	nexts(t, a, 1, 3, api.OK)
	pops(t, b, ask(1, 1, api.Take))
	holds(t, a, 1, 2)
}

// Q1: Next.

func TestNextGoesFromOneOn(t *testing.T) {
	for _, who := range []int{0, 1, 2, 3, 7, 257, 999_999, 1_000_000} {
		q := queue.New()
		for i := range api.MaxDone {
			nexts(t, q, who, i+1, api.OK)
			nexts(t, q, who, i+1, api.OK)
			pushes(t, q, ask(who, i+1, i%3), api.OK)
		}
		nexts(t, q, who, 31, api.OK)
	}
}

func TestNextTellsNumbers(t *testing.T) {
	for _, many := range []int{0, 3, 30} {
		q := filled(t, 0, many)
		for _, who := range noWho {
			nexts(t, q, who, 0, api.ErrRange)
		}
		holds(t, q, 0, many)
	}
}

// Each has numbers of their own, also those who differ but little.
func TestEachHasTheirOwnSeqs(t *testing.T) {
	q := queue.New()
	whos := []int{0, 1, 2, 256, 257, 65_536, 999_999, 1_000_000}
	for i, who := range whos {
		for seq := range i % 4 {
			pushes(t, q, ask(who, seq+1, api.Read), api.OK)
		}
	}
	for i, who := range whos {
		nexts(t, q, who, i%4+1, api.OK)
	}
	nexts(t, q, 3, 1, api.OK)
	pushes(t, q, ask(0, 2, api.Read), api.ErrState)
	pushes(t, q, ask(0, 1, api.Read), api.OK)
}

// Q1: Push, Pop, Count.

func TestEachInItsTurn(t *testing.T) {
	q := queue.New()
	all := []api.Ask{
		{Who: 1, Seq: 1, Deed: api.Take, Tuple: row(anything, number(2))},
		{Who: 2, Seq: 1, Deed: api.Put, Tuple: row(text("hello"), number(-1_000_000))},
		{Who: 2, Seq: 2, Deed: api.Read, Tuple: times(5, anything)},
		{Who: 0, Seq: 1, Deed: api.Put, Tuple: row(text(""))},
		{Who: 1, Seq: 2, Deed: api.Put, Tuple: times(5, text("abcdefghijkl"))},
		{Who: 1_000_000, Seq: 1, Deed: api.Read, Tuple: row(number(1_000_000))},
		{Who: 2, Seq: 3, Deed: api.Put, Tuple: row(text("hello"), number(-1_000_000))},
	}
	for i, a := range all {
		pushes(t, q, a, api.OK)
		counts(t, q, i+1)
	}
	for i, a := range all {
		pops(t, q, a)
		counts(t, q, len(all)-1-i)
	}
	popsNone(t, q)
	counts(t, q, 0)
}

func TestPushBetweenPops(t *testing.T) {
	q := queue.New()
	pushes(t, q, ask(1, 1, api.Put), api.OK)
	pushes(t, q, ask(2, 1, api.Read), api.OK)
	pops(t, q, ask(1, 1, api.Put))
	pushes(t, q, ask(1, 2, api.Take), api.OK)
	pops(t, q, ask(2, 1, api.Read))
	pops(t, q, ask(1, 2, api.Take))
	popsNone(t, q)
	pushes(t, q, ask(2, 2, api.Put), api.OK)
	pops(t, q, ask(2, 2, api.Put))
	popsNone(t, q)
}

// The same may be asked more than once, by different numbers.
func TestTheSameMayBeAskedAgain(t *testing.T) {
	q := queue.New()
	for seq := 1; seq <= 5; seq++ {
		pushes(t, q, ask(4, seq, api.Put), api.OK)
	}
	for seq := 1; seq <= 5; seq++ {
		pops(t, q, ask(4, seq, api.Put))
	}
}

// What was popped is not to come again.
func TestOnceAlsoWhenItIsThereNoMore(t *testing.T) {
	q := filled(t, 5, 3)
	for i := range 3 {
		pops(t, q, ask(5, i+1, i%3))
		nexts(t, q, 5, 4, api.OK)
		pushes(t, q, ask(5, i+1, i%3), api.ErrClash)
	}
	counts(t, q, 0)
	for range 3 {
		popsNone(t, q)
		nexts(t, q, 5, 4, api.OK)
	}
	pushes(t, q, ask(5, 1, api.Put), api.ErrClash)
	pushes(t, q, ask(5, 5, api.Put), api.ErrState)
	pushes(t, q, ask(5, 4, api.Put), api.OK)
	pops(t, q, ask(5, 4, api.Put))
}

// More may be pushed in all than can be there at once.
func TestSeqsGoOnBeyondWhatIsThere(t *testing.T) {
	q := queue.New()
	for seq := 1; seq <= 5_000; seq++ {
		nexts(t, q, 9, seq, api.OK)
		pushes(t, q, ask(9, seq, api.Read), api.OK)
		if seq > 20 {
			pops(t, q, ask(9, seq-20, api.Read))
		}
		counts(t, q, min(seq, 20))
	}
	pushes(t, q, ask(9, 5_000, api.Read), api.ErrClash)
	pushes(t, q, ask(9, 1, api.Read), api.ErrClash)
	pushes(t, q, ask(9, 5_002, api.Read), api.ErrState)
}

func TestManyAsk(t *testing.T) {
	q := queue.New()
	for who := range 5_000 {
		pushes(t, q, ask(who*200, 1, api.Take), api.OK)
		pops(t, q, ask(who*200, 1, api.Take))
	}
	for who := range 5_000 {
		nexts(t, q, who*200, 2, api.OK)
		nexts(t, q, who*200+1, 1, api.OK)
	}
}

func TestPushTellsNumbers(t *testing.T) {
	for _, many := range []int{0, 3, 30} {
		q := filled(t, 0, many)
		for _, deed := range deeds {
			for _, who := range noWho {
				pushes(t, q, ask(who, 1, deed), api.ErrRange)
			}
		}
		for _, deed := range noDeed {
			pushes(t, q, ask(0, many+1, deed), api.ErrRange)
			pushes(t, q, ask(7, 1, deed), api.ErrRange)
		}
		nexts(t, q, 7, 1, api.OK)
		holds(t, q, 0, many)
	}
}

// Check tells what Push tells of an Ask by itself, for the layers below, too: no Seq is asked.
func TestCheckTellsOfAnAskByItself(t *testing.T) {
	wants := func(a api.Ask, want api.Errno) {
		t.Helper()
		if err := queue.Check(a); plain.Told(err) != want {
			t.Errorf("Check(%+v): got %v, want %v", short(a), err, want)
		}
	}
	for _, seq := range []int{math.MinInt, -1, 0, 1, 2, math.MaxInt} {
		for _, deed := range deeds {
			wants(ask(0, seq, deed), api.OK)
			wants(ask(api.MaxNumber, seq, deed), api.OK)
			for _, who := range noWho {
				wants(api.Ask{Who: who, Seq: seq, Deed: deed}, api.ErrRange)
			}
			for _, c := range faulty() {
				wants(api.Ask{Who: 1, Seq: seq, Deed: deed, Tuple: c.t}, c.want)
			}
		}
		for _, deed := range noDeed {
			wants(api.Ask{Who: 1, Seq: seq, Deed: deed}, api.ErrRange)
		}
		for _, like := range withAnything() {
			wants(api.Ask{Seq: seq, Deed: api.Put, Tuple: like}, api.ErrShape)
			wants(api.Ask{Seq: seq, Deed: api.Read, Tuple: like}, api.OK)
			wants(api.Ask{Seq: seq, Deed: api.Take, Tuple: like}, api.OK)
		}
	}
}

// Who is bound by another number than Deed is.
func TestPushTakesAllWhoMayBe(t *testing.T) {
	for _, who := range []int{0, 1, 2, 3, 4, 30, 31, 999_999, 1_000_000} {
		for _, deed := range deeds {
			q := queue.New()
			a := api.Ask{Who: who, Seq: 1, Deed: deed, Tuple: row(text("a"))}
			pushes(t, q, a, api.OK)
			nexts(t, q, who, 2, api.OK)
			pops(t, q, a)
		}
	}
}

func TestPushTellsTuples(t *testing.T) {
	for _, many := range []int{0, 3, 30} {
		q := filled(t, 6, many)
		for _, c := range faulty() {
			for _, deed := range deeds {
				for _, seq := range []int{many + 1, many, many + 2, 0, math.MinInt, math.MaxInt} {
					pushes(t, q, api.Ask{Who: 6, Seq: seq, Deed: deed, Tuple: c.t}, c.want)
				}
			}
		}
		holds(t, q, 6, many)
	}
}

// Anything may be read and taken, but not put.
func TestAnythingMayNotBePut(t *testing.T) {
	for _, like := range withAnything() {
		q := queue.New()
		pushes(t, q, api.Ask{Who: 8, Seq: 1, Deed: api.Put, Tuple: like}, api.ErrShape)
		counts(t, q, 0)
		nexts(t, q, 8, 1, api.OK)
		for i, deed := range []int{api.Read, api.Take} {
			a := api.Ask{Who: 8, Seq: i + 1, Deed: deed, Tuple: like}
			pushes(t, q, a, api.OK)
			pops(t, q, a)
		}
	}
}

func TestPushAsksForTheNextSeq(t *testing.T) {
	for _, many := range []int{0, 1, 2, 29} {
		q := filled(t, 3, many)
		for _, deed := range deeds {
			for _, seq := range []int{many, many - 1, 0, -1, -many - 1, -1 << 32, math.MinInt + 1, math.MinInt} {
				pushes(t, q, ask(3, seq, deed), api.ErrClash)
			}
			for _, seq := range []int{many + 2, many + 3, 1_000_001, 1<<32 + many + 1, math.MaxInt - 1, math.MaxInt} {
				pushes(t, q, ask(3, seq, deed), api.ErrState)
			}
		}
		holds(t, q, 3, many)
		pushes(t, q, ask(3, many+1, api.Put), api.OK)
	}
}

func TestPushTakesThirtyAndNoMore(t *testing.T) {
	q := filled(t, 1, 30)
	for range 3 {
		pushes(t, q, ask(1, 31, api.Put), api.ErrFull)
		pushes(t, q, ask(2, 1, api.Read), api.ErrFull)
	}
	counts(t, q, 30)
	// A call in vain uses no number up.
	nexts(t, q, 1, 31, api.OK)
	nexts(t, q, 2, 1, api.OK)
	pops(t, q, ask(1, 1, api.Put))
	counts(t, q, 29)
	pushes(t, q, ask(2, 1, api.Read), api.OK)
	pushes(t, q, ask(2, 2, api.Read), api.ErrFull)
	pushes(t, q, ask(1, 31, api.Put), api.ErrFull)
	for i := 1; i < 30; i++ {
		pops(t, q, ask(1, i+1, i%3))
	}
	pops(t, q, ask(2, 1, api.Read))
	popsNone(t, q)
}

// P3: of several faults the one that the chapter names first is told.
func TestPushTellsTheFirstFault(t *testing.T) {
	tuples := []fault{{row(text("a")), api.OK}, {nil, api.ErrNone}, {times(6, far), api.ErrFull}, {row(odd), api.ErrShape}}
	for _, many := range []int{0, 5, 30} {
		for _, who := range []int{4, -1, 1_000_001} {
			for _, deed := range []int{0, 1, 2, -1, 3} {
				for _, c := range tuples {
					for _, seq := range []int{many + 1, many, many + 2} {
						q := filled(t, 4, many)
						want := api.OK
						switch {
						case who != 4 || deed < 0 || deed > 2:
							want = api.ErrRange
						case c.want != api.OK:
							want = c.want
						case seq == many:
							want = api.ErrClash
						case seq == many+2:
							want = api.ErrState
						case many == 30:
							want = api.ErrFull
						}
						pushes(t, q, api.Ask{Who: who, Seq: seq, Deed: deed, Tuple: c.t}, want)
						if want != api.OK {
							holds(t, q, 4, many)
						}
					}
				}
			}
		}
	}
}

// Q1: all that is answered is held against a plain list of all that was ever pushed.

// model is a queue once more, as plainly as can be: nothing is ever taken out of it.
type model struct {
	all    []api.Ask
	popped int
}

func (m *model) next(who int) int {
	n := 1
	for _, a := range m.all {
		if a.Who == who {
			n++
		}
	}
	return n
}

func (m *model) push(a api.Ask) api.Errno {
	if a.Who < 0 || a.Who > 1_000_000 || a.Deed < 0 || a.Deed > 2 {
		return api.ErrRange
	}
	wrong := tuple.Like(a.Tuple)
	if a.Deed == api.Put {
		wrong = tuple.Check(a.Tuple)
	}
	switch next := m.next(a.Who); {
	case wrong != nil:
		return plain.Told(wrong)
	case a.Seq < next:
		return api.ErrClash
	case a.Seq > next:
		return api.ErrState
	case len(m.all)-m.popped == 30:
		return api.ErrFull
	}
	m.all = append(m.all, a)
	return api.OK
}

// deed does one thing to both, and asks that they answer alike.
func (m *model) deed(t *testing.T, q *queue.Queue, draw func(n int) int, seen map[api.Errno]int) {
	t.Helper()
	cells := row(number(0), number(-7), text(""), text("a"), text("b"), anything, odd, far, full)
	if draw(10) < 3 {
		if m.popped == len(m.all) {
			popsNone(t, q)
			seen[api.ErrNone]++
			return
		}
		pops(t, q, m.all[m.popped])
		m.popped++
		return
	}
	a := api.Ask{Who: draw(4), Deed: draw(3)}
	a.Seq = m.next(a.Who)
	for range 1 + draw(2) {
		a.Tuple = append(a.Tuple, cells[draw(5)])
	}
	switch draw(8) {
	case 0:
		a.Seq += draw(5) - 2
	case 1:
		a.Tuple[0] = cells[draw(len(cells))]
	case 2:
		a.Deed = draw(5) - 1
	case 3:
		a.Who = draw(5) - 1
	}
	told := m.push(a)
	pushes(t, q, a, told)
	seen[told]++
}

func TestManyDeedsAgainstAPlainList(t *testing.T) {
	state := uint32(1)
	draw := func(n int) int {
		state = state*1664525 + 1013904223
		return int(state>>16) % n
	}
	seen := map[api.Errno]int{}
	for round := range 40 {
		q, m := queue.New(), &model{}
		for i := range 400 {
			m.deed(t, q, draw, seen)
			counts(t, q, len(m.all)-m.popped)
			for who := range 5 {
				nexts(t, q, who, m.next(who), api.OK)
			}
			if t.Failed() {
				t.Fatalf("at deed %d of round %d", i, round)
			}
		}
	}
	for _, told := range []api.Errno{api.OK, api.ErrRange, api.ErrShape, api.ErrFull, api.ErrNone, api.ErrState, api.ErrClash} {
		if seen[told] == 0 {
			t.Errorf("%v was never told", told)
		}
	}
}

// P2: nothing that is handed in is written into, nor kept, nor read behind its length.

func TestNothingHandedInIsWrittenInto(t *testing.T) {
	r := row(text("a"), number(1), odd, far)
	kept := slices.Clone(r)
	q := queue.New()
	for i, deed := range deeds {
		a := api.Ask{Who: 1, Seq: i + 1, Deed: deed, Tuple: r[:2]}
		pushes(t, q, a, api.OK)
		pushes(t, q, a, api.ErrClash)
		pops(t, q, api.Ask{Who: 1, Seq: i + 1, Deed: deed, Tuple: kept[:2]})
	}
	if !slices.Equal(r, kept) {
		t.Errorf("what was handed in was changed: %+v", r)
	}
}

// A list, and a text in it, may be memory whose owner writes into it later.
func TestPushKeepsNothingHandedIn(t *testing.T) {
	bytes := []byte("hello")
	r := row(text(unsafe.String(&bytes[0], len(bytes))), number(1))
	q := queue.New()
	pushes(t, q, api.Ask{Who: 1, Seq: 1, Tuple: r}, api.OK)
	copy(bytes, "XXXXX")
	r[1] = far
	pops(t, q, api.Ask{Who: 1, Seq: 1, Tuple: row(text("hello"), number(1))})
}

// P2: what comes out is fresh memory, and the caller's, whoever pushed the same list twice.
func TestAnswersAreTheCallers(t *testing.T) {
	r := row(text(strings.Clone("hello")), number(1))
	q := queue.New()
	for seq := 1; seq <= 4; seq++ {
		pushes(t, q, api.Ask{Who: 1, Seq: seq, Tuple: r}, api.OK)
	}
	seen := map[*byte]bool{unsafe.StringData(r[0].S): true}
	for seq := 1; seq <= 4; seq++ {
		got, err := q.Pop()
		if err != nil || !same(got, api.Ask{Who: 1, Seq: seq, Tuple: row(text("hello"), number(1))}) {
			t.Fatalf("Pop: got %+v %v", got, err)
		}
		at := unsafe.StringData(got.Tuple[0].S)
		if seen[at] {
			t.Error("an answer of Pop shares its text")
		}
		seen[at] = true
		all := got.Tuple[:cap(got.Tuple)]
		for i := range all {
			all[i] = odd
		}
	}
	if !slices.Equal(r, row(text("hello"), number(1))) {
		t.Errorf("what was handed in was changed: %+v", r)
	}
}
