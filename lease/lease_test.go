package lease_test

import (
	"math"
	"slices"
	"strings"
	"testing"
	"unsafe"

	"tuplestead/api"
	"tuplestead/lease"
	"tuplestead/plain"
	"tuplestead/tuple"
)

func number(n int) api.Value  { return api.Value{Kind: api.Number, N: n} }
func text(s string) api.Value { return api.Value{Kind: api.Text, S: s} }

// row is fields in a row, in memory of its own.
func row(v ...api.Value) []api.Value { return slices.Clone(v) }

// times is as many fields that are all the same.
func times(n int, v api.Value) []api.Value { return slices.Repeat(row(v), n) }

var (
	anything = api.Value{Kind: api.Any}
	full     = api.Value{Kind: api.Text, S: "abcdefghijklm"}
	odd      = api.Value{Kind: api.Text, S: "A"}
	far      = api.Value{Kind: api.Number, N: api.MaxNumber + 1}
)

// fault is what may be neither asked for nor put, and what is wrong with it.
type fault struct {
	t    []api.Value
	want api.Errno
}

func faulty() []fault {
	return []fault{
		{nil, api.ErrNone},
		{[]api.Value{}, api.ErrNone},
		{times(3, number(1))[:0], api.ErrNone},
		{times(6, number(1)), api.ErrFull},
		{times(6, anything), api.ErrFull},
		{times(6, far), api.ErrFull},
		{times(1<<16, text("a")), api.ErrFull},
		{row(far), api.ErrRange},
		{row(number(-api.MaxNumber - 1)), api.ErrRange},
		{row(number(math.MinInt)), api.ErrRange},
		{row(api.Value{Kind: 3}), api.ErrRange},
		{row(api.Value{Kind: -1}), api.ErrRange},
		{row(full), api.ErrFull},
		{row(text(strings.Repeat("a", 1<<20))), api.ErrFull},
		{row(odd), api.ErrShape},
		{row(api.Value{Kind: api.Text, N: 1}), api.ErrShape},
		{row(api.Value{Kind: api.Number, S: "a"}), api.ErrShape},
		{row(api.Value{Kind: api.Any, N: 1}), api.ErrShape},
		{row(number(1), far, odd), api.ErrRange},
		{row(number(1), odd, far), api.ErrShape},
		{row(anything, far), api.ErrRange},
		{row(anything, full), api.ErrFull},
	}
}

// faultyTuples are those that may not be put: some of them may be asked for.
func faultyTuples() []fault {
	l := faulty()
	for n := 1; n <= api.MaxFields; n++ {
		for at := range n {
			r := times(n, number(1))
			r[at] = anything
			l = append(l, fault{r, api.ErrShape})
		}
	}
	return l
}

// short is a piece of a tuple that can be printed beside a fault.
func short(t []api.Value) []api.Value {
	t = slices.Clone(t[:min(len(t), 6)])
	for i := range t {
		t[i].S = t[i].S[:min(len(t[i].S), 20)]
	}
	return t
}

func puts(t *testing.T, l *lease.Leases, r []api.Value, until, want int, told api.Errno) {
	t.Helper()
	if got, err := l.Put(r, until); got != want || plain.Told(err) != told {
		t.Errorf("Put(%+v, %d): got %d %v, want %d %v", short(r), until, got, err, want, told)
	}
}

func renews(t *testing.T, l *lease.Leases, id, until int, told api.Errno) {
	t.Helper()
	if err := l.Renew(id, until); plain.Told(err) != told {
		t.Errorf("Renew(%d, %d): got %v, want %v", id, until, err, told)
	}
}

func nows(t *testing.T, l *lease.Leases, time, want int, told api.Errno) {
	t.Helper()
	if got, err := l.Now(time); got != want || plain.Told(err) != told {
		t.Errorf("Now(%d): got %d %v, want %d %v", time, got, err, want, told)
	}
}

func reads(t *testing.T, l *lease.Leases, like, want []api.Value, told api.Errno) {
	t.Helper()
	got, err := l.Read(like)
	if !slices.Equal(got, want) || plain.Told(err) != told || told != api.OK && got != nil {
		t.Errorf("Read(%+v): got %+v %v, want %+v %v", short(like), got, err, want, told)
	}
}

func counts(t *testing.T, l *lease.Leases, want int) {
	t.Helper()
	if got := l.Count(); got != want {
		t.Errorf("Count: got %d, want %d", got, want)
	}
}

// filled has one tuple of one number for each time: the first is 0, and has the number 1.
func filled(t *testing.T, untils ...int) *lease.Leases {
	t.Helper()
	l := lease.New()
	for i, until := range untils {
		puts(t, l, row(number(i)), until, i+1, api.OK)
	}
	return l
}

// has asks that of those of filled just these are there.
func has(t *testing.T, l *lease.Leases, want ...int) {
	t.Helper()
	counts(t, l, len(want))
	for n := range api.MaxTuples + 1 {
		if slices.Contains(want, n) {
			reads(t, l, row(number(n)), row(number(n)), api.OK)
		} else {
			reads(t, l, row(number(n)), nil, api.ErrNone)
		}
	}
}

// L1: a new one.

func TestNewHasNothing(t *testing.T) {
	l := lease.New()
	counts(t, l, 0)
	for n := 1; n <= api.MaxFields; n++ {
		reads(t, l, times(n, anything), nil, api.ErrNone)
	}
	for _, id := range []int{-1, 0, 1, 2, math.MinInt, math.MaxInt} {
		renews(t, l, id, 5, api.ErrNone)
	}
}

func TestTimeIsNoughtAtFirst(t *testing.T) {
	l := lease.New()
	nows(t, l, -1, 0, api.ErrRange)
	puts(t, l, row(number(1)), 0, 0, api.ErrRange)
	puts(t, l, row(number(1)), 1, 1, api.OK)
	nows(t, l, 0, 0, api.OK)
	counts(t, l, 1)
}

func TestLeasesAreApart(t *testing.T) {
	a, b := filled(t, 5, 6), lease.New()
	counts(t, b, 0)
	nows(t, a, 5, 1, api.OK)
	puts(t, b, row(text("b")), 1, 1, api.OK)
	has(t, a, 1)
	reads(t, b, row(anything), row(text("b")), api.OK)
}

// L1: Put.

func TestPutGivesNumbersFromOneOn(t *testing.T) {
	l := lease.New()
	for i := range api.MaxTuples {
		puts(t, l, row(number(7)), 1+i%3, i+1, api.OK)
		counts(t, l, i+1)
	}
}

// A call that tells an error uses no number up.
func TestPutInVainUsesNoNumber(t *testing.T) {
	l := lease.New()
	puts(t, l, row(anything), 5, 0, api.ErrShape)
	puts(t, l, row(number(0)), 0, 0, api.ErrRange)
	puts(t, l, row(number(0)), 5, 1, api.OK)
	puts(t, l, row(number(1)), -5, 0, api.ErrRange)
	puts(t, l, nil, 5, 0, api.ErrNone)
	puts(t, l, row(number(1)), 5, 2, api.OK)
	has(t, l, 0, 1)
}

// The number of one that is there no more is not given again.
func TestNumbersAreNotGivenAgain(t *testing.T) {
	l := filled(t, 1, 9, 1)
	nows(t, l, 1, 2, api.OK)
	puts(t, l, row(number(3)), 9, 4, api.OK)
	nows(t, l, 9, 2, api.OK)
	counts(t, l, 0)
	puts(t, l, row(number(4)), 10, 5, api.OK)
	has(t, l, 4)
	for id := range 5 {
		renews(t, l, id, 11, api.ErrNone)
	}
	renews(t, l, 5, 11, api.OK)
}

func TestPutTellsFaults(t *testing.T) {
	untils := []int{1, 0, -1, api.MaxTime, api.MaxTime + 1, math.MaxInt, math.MinInt}
	for _, there := range []int{0, 3, 20} {
		l := filled(t, slices.Repeat([]int{9}, there)...)
		for _, c := range faultyTuples() {
			for _, until := range untils {
				puts(t, l, c.t, until, 0, c.want)
			}
		}
		counts(t, l, there)
	}
}

func TestPutAsksForATimeThatMayBe(t *testing.T) {
	for _, time := range []int{0, 1, 17, 9998, 9999, 10_000} {
		l := lease.New()
		nows(t, l, time, 0, api.OK)
		for _, until := range []int{time, time - 1, 0, -1, -10_000, math.MinInt, 10_001, math.MaxInt} {
			puts(t, l, row(number(1)), until, 0, api.ErrRange)
			counts(t, l, 0)
		}
		if time == 10_000 {
			continue
		}
		puts(t, l, row(number(1)), time+1, 1, api.OK)
		puts(t, l, row(number(2)), 10_000, 2, api.OK)
		counts(t, l, 2)
	}
}

func TestPutTakesTwentyAndNoMore(t *testing.T) {
	l := lease.New()
	for i := range 20 {
		puts(t, l, row(number(i)), 5+i, i+1, api.OK)
	}
	for range 3 {
		puts(t, l, row(number(20)), 9, 0, api.ErrFull)
		puts(t, l, row(number(0)), 10_000, 0, api.ErrFull)
	}
	// A time that may not be is told ahead of there being no room.
	puts(t, l, row(number(20)), 0, 0, api.ErrRange)
	puts(t, l, row(number(20)), 10_001, 0, api.ErrRange)
	counts(t, l, 20)
	reads(t, l, row(number(20)), nil, api.ErrNone)
	// Those that are there no more leave room, as many as they were.
	nows(t, l, 6, 2, api.OK)
	puts(t, l, row(number(20)), 9, 21, api.OK)
	puts(t, l, row(number(21)), 9, 22, api.OK)
	puts(t, l, row(number(22)), 9, 0, api.ErrFull)
	counts(t, l, 20)
}

// spent has as many put as ever may be, and those of the last round still there.
func spent(t *testing.T) *lease.Leases {
	t.Helper()
	l := lease.New()
	for i := range 10_000 {
		if i > 0 && i%20 == 0 {
			nows(t, l, i/20, 20, api.OK)
		}
		puts(t, l, row(number(i)), i/20+1, i+1, api.OK)
	}
	return l
}

func TestPutEndsAtTenThousandEver(t *testing.T) {
	l := spent(t)
	puts(t, l, row(number(1)), 9_999, 0, api.ErrFull)
	renews(t, l, 10_000, 600, api.OK)
	renews(t, l, 9_980, 600, api.ErrNone)
	nows(t, l, 500, 19, api.OK)
	// There is room, and yet none is taken any more.
	counts(t, l, 1)
	puts(t, l, row(number(1)), 9_999, 0, api.ErrFull)
	puts(t, l, row(number(1)), 10_000, 0, api.ErrFull)
	puts(t, l, row(number(1)), 500, 0, api.ErrRange)
	puts(t, l, row(number(1)), 10_001, 0, api.ErrRange)
	puts(t, l, row(anything), 600, 0, api.ErrShape)
	reads(t, l, row(anything), row(number(9_999)), api.OK)
	nows(t, l, 600, 1, api.OK)
	puts(t, l, row(number(1)), 9_999, 0, api.ErrFull)
	counts(t, l, 0)
}

// The last number may be given also where the round before was not full.
func TestTheTenThousandthIsTaken(t *testing.T) {
	l := lease.New()
	for i := range 9_999 {
		puts(t, l, row(number(1)), i+1, i+1, api.OK)
		nows(t, l, i+1, 1, api.OK)
	}
	puts(t, l, row(number(1)), 10_000, 10_000, api.OK)
	puts(t, l, row(number(1)), 10_000, 0, api.ErrFull)
	counts(t, l, 1)
}

// L1: Renew.

func TestRenewMakesItLast(t *testing.T) {
	l := filled(t, 5, 5, 5)
	renews(t, l, 2, 8, api.OK)
	nows(t, l, 5, 2, api.OK)
	has(t, l, 1)
	renews(t, l, 2, 10_000, api.OK)
	nows(t, l, 9_999, 0, api.OK)
	has(t, l, 1)
	nows(t, l, 10_000, 1, api.OK)
	has(t, l)
}

func TestRenewToWhatItWas(t *testing.T) {
	l := filled(t, 5, 10_000)
	renews(t, l, 1, 5, api.OK)
	renews(t, l, 2, 10_000, api.OK)
	nows(t, l, 4, 0, api.OK)
	renews(t, l, 1, 5, api.OK)
	nows(t, l, 5, 1, api.OK)
	has(t, l, 1)
}

func TestRenewTellsATimeThatMayNotBe(t *testing.T) {
	l := filled(t, 7, 9)
	nows(t, l, 3, 0, api.OK)
	for _, until := range []int{6, 4, 3, 2, 0, -1, math.MinInt, 10_001, math.MaxInt} {
		renews(t, l, 1, until, api.ErrRange)
	}
	renews(t, l, 2, 8, api.ErrRange)
	renews(t, l, 2, 7, api.ErrRange)
	nows(t, l, 6, 0, api.OK)
	nows(t, l, 7, 1, api.OK)
	has(t, l, 1)
	nows(t, l, 8, 0, api.OK)
	nows(t, l, 9, 1, api.OK)
}

// What it was is what it was renewed to last.
func TestRenewAfterRenew(t *testing.T) {
	l := filled(t, 5)
	renews(t, l, 1, 9, api.OK)
	renews(t, l, 1, 8, api.ErrRange)
	renews(t, l, 1, 5, api.ErrRange)
	renews(t, l, 1, 9, api.OK)
	nows(t, l, 8, 0, api.OK)
	nows(t, l, 9, 1, api.OK)
}

// That there is none is told ahead of what is wrong with the time.
func TestRenewOfNone(t *testing.T) {
	l := filled(t, 5, 9)
	nows(t, l, 5, 1, api.OK)
	for _, id := range []int{1, 0, -1, 3, math.MinInt, math.MaxInt} {
		for _, until := range []int{6, 5, 0, -1, 10_000, 10_001, math.MinInt, math.MaxInt} {
			renews(t, l, id, until, api.ErrNone)
		}
	}
	has(t, l, 1)
	nows(t, l, 9, 1, api.OK)
}

// Renewing changes neither which is the oldest nor how many there are.
func TestRenewKeepsTheAge(t *testing.T) {
	l := filled(t, 5, 6, 7)
	renews(t, l, 1, 9, api.OK)
	reads(t, l, row(anything), row(number(0)), api.OK)
	renews(t, l, 3, 10, api.OK)
	reads(t, l, row(anything), row(number(0)), api.OK)
	counts(t, l, 3)
	puts(t, l, row(number(3)), 8, 4, api.OK)
	nows(t, l, 9, 3, api.OK)
	reads(t, l, row(anything), row(number(2)), api.OK)
}

// L1: Now.

func TestNowEndsThoseWhoseTimeIsOver(t *testing.T) {
	l := filled(t, 3, 1, 2, 3, 5, 2)
	nows(t, l, 0, 0, api.OK)
	has(t, l, 0, 1, 2, 3, 4, 5)
	nows(t, l, 1, 1, api.OK)
	has(t, l, 0, 2, 3, 4, 5)
	nows(t, l, 1, 0, api.OK)
	nows(t, l, 3, 4, api.OK)
	has(t, l, 4)
	nows(t, l, 4, 0, api.OK)
	has(t, l, 4)
	nows(t, l, 10_000, 1, api.OK)
	has(t, l)
	nows(t, l, 10_000, 0, api.OK)
}

func TestNowEndsAFullOneWhole(t *testing.T) {
	l := filled(t, slices.Repeat([]int{10_000}, 20)...)
	nows(t, l, 9_999, 0, api.OK)
	counts(t, l, 20)
	nows(t, l, 10_000, 20, api.OK)
	has(t, l)
}

func TestNowTellsATimeThatMayNotBe(t *testing.T) {
	l := filled(t, 5, 9)
	nows(t, l, 4, 0, api.OK)
	for _, time := range []int{3, 0, -1, math.MinInt, 10_001, math.MaxInt} {
		nows(t, l, time, 0, api.ErrRange)
		has(t, l, 0, 1)
	}
	// The time is as it was: neither later nor earlier.
	puts(t, l, row(number(2)), 4, 0, api.ErrRange)
	puts(t, l, row(number(2)), 5, 3, api.OK)
	nows(t, l, 4, 0, api.OK)
	nows(t, l, 5, 2, api.OK)
	nows(t, l, 4, 0, api.ErrRange)
	has(t, l, 1)
}

// L1: Read, Count.

func TestReadFindsTheOldestAndLeavesIt(t *testing.T) {
	l := lease.New()
	for i, r := range [][]api.Value{
		row(text("b"), number(9)), row(text("a"), number(5)), row(text("a")), row(text("a"), number(3)),
		row(text("b"), number(3)), row(text("a"), number(3), number(0)),
	} {
		puts(t, l, r, 20-i, i+1, api.OK)
	}
	for range 3 {
		reads(t, l, row(anything, anything), row(text("b"), number(9)), api.OK)
		reads(t, l, row(text("a"), anything), row(text("a"), number(5)), api.OK)
		reads(t, l, row(anything, number(3)), row(text("a"), number(3)), api.OK)
		reads(t, l, row(text("b"), number(3)), row(text("b"), number(3)), api.OK)
		reads(t, l, row(anything), row(text("a")), api.OK)
		reads(t, l, times(3, anything), row(text("a"), number(3), number(0)), api.OK)
		reads(t, l, times(4, anything), nil, api.ErrNone)
		reads(t, l, row(text("c"), anything), nil, api.ErrNone)
		counts(t, l, 6)
	}
}

func TestReadFindsTheNextOnceTheOldestIsGone(t *testing.T) {
	l := filled(t, 2, 4, 3, 1)
	for _, c := range []struct{ time, gone, oldest int }{{1, 1, 0}, {2, 1, 1}, {3, 1, 1}} {
		nows(t, l, c.time, c.gone, api.OK)
		reads(t, l, row(anything), row(number(c.oldest)), api.OK)
	}
	nows(t, l, 4, 1, api.OK)
	reads(t, l, row(anything), nil, api.ErrNone)
}

func TestReadTellsFaults(t *testing.T) {
	for _, there := range []int{0, 3, 20} {
		l := filled(t, slices.Repeat([]int{9}, there)...)
		for _, c := range faulty() {
			reads(t, l, c.t, nil, c.want)
		}
		counts(t, l, there)
	}
}

// L1: all that is answered is held against a plain list of what was ever put.

// entry is a tuple that was put; it is there while its time lasts.
type entry struct {
	r     []api.Value
	until int
}

// model is leases once more, as plainly as can be: nothing is ever taken out of it.
type model struct {
	time int
	all  []entry
}

func (m *model) there(time int) (ids []int) {
	for i, e := range m.all {
		if e.until > time {
			ids = append(ids, i+1)
		}
	}
	return ids
}

func (m *model) put(r []api.Value, until int) (int, api.Errno) {
	if err := tuple.Check(r); err != nil {
		return 0, plain.Told(err)
	}
	if until <= m.time || until > 10_000 {
		return 0, api.ErrRange
	}
	if len(m.there(m.time)) == 20 || len(m.all) == 10_000 {
		return 0, api.ErrFull
	}
	m.all = append(m.all, entry{slices.Clone(r), until})
	return len(m.all), api.OK
}

func (m *model) renew(id, until int) api.Errno {
	if !slices.Contains(m.there(m.time), id) {
		return api.ErrNone
	}
	if until <= m.time || until > 10_000 || until < m.all[id-1].until {
		return api.ErrRange
	}
	m.all[id-1].until = until
	return api.OK
}

func (m *model) now(time int) (int, api.Errno) {
	if time < m.time || time > 10_000 {
		return 0, api.ErrRange
	}
	gone := len(m.there(m.time)) - len(m.there(time))
	m.time = time
	return gone, api.OK
}

func (m *model) read(like []api.Value) ([]api.Value, api.Errno) {
	if err := tuple.Like(like); err != nil {
		return nil, plain.Told(err)
	}
	for _, id := range m.there(m.time) {
		if is, _ := tuple.Fits(like, m.all[id-1].r); is {
			return m.all[id-1].r, api.OK
		}
	}
	return nil, api.ErrNone
}

func TestManyDeedsAgainstAPlainList(t *testing.T) {
	cells := row(number(0), number(1), number(2), text(""), text("a"), text("b"), anything, odd)
	state := uint32(1)
	next := func(n int) int {
		state = state*1664525 + 1013904223
		return int(state>>16) % n
	}
	fields := func(kinds int) (r []api.Value) {
		for range 1 + next(2) {
			r = append(r, cells[next(kinds)])
		}
		return r
	}
	seen := map[api.Errno]int{}
	for round := range 40 {
		l, m := lease.New(), &model{}
		// Some begin near the end of time.
		if round%4 == 3 {
			m.time = 9_900
			nows(t, l, 9_900, 0, api.OK)
		}
		for i := range 500 {
			until := m.time - 2 + next(40)
			switch next(10) {
			case 0:
				time := m.time - 1 + next(6)
				n, told := m.now(time)
				nows(t, l, time, n, told)
				seen[told]++
			case 1, 2:
				id := len(m.all) + 1 - next(25)
				told := m.renew(id, until)
				renews(t, l, id, until, told)
				seen[told]++
			case 3, 4:
				like := fields(len(cells))
				r, told := m.read(like)
				reads(t, l, like, r, told)
				seen[told]++
			default:
				r := fields(6 + next(2))
				id, told := m.put(r, until)
				puts(t, l, r, until, id, told)
				seen[told]++
			}
			counts(t, l, len(m.there(m.time)))
			if t.Failed() {
				t.Fatalf("at deed %d of round %d", i, round)
			}
		}
	}
	for _, told := range []api.Errno{api.OK, api.ErrRange, api.ErrShape, api.ErrFull, api.ErrNone} {
		if seen[told] == 0 {
			t.Errorf("%v was never told", told)
		}
	}
}

// P2: nothing that is handed in is written into, nor kept, nor read behind its length.

func TestNothingHandedInIsWrittenInto(t *testing.T) {
	r := row(text("a"), number(1), odd, far)
	like := row(anything, number(1), full, odd)
	kept, keptLike := slices.Clone(r), slices.Clone(like)
	l := lease.New()
	puts(t, l, r[:2], 5, 1, api.OK)
	reads(t, l, like[:2], kept[:2], api.OK)
	if !slices.Equal(r, kept) || !slices.Equal(like, keptLike) {
		t.Errorf("what was handed in was changed: %+v, %+v", like, r)
	}
}

// A list, and a text in it, may be memory whose owner writes into it later.
func TestPutKeepsNothingHandedIn(t *testing.T) {
	bytes := []byte("hello")
	r := row(text(unsafe.String(&bytes[0], len(bytes))), number(1))
	l := lease.New()
	puts(t, l, r, 5, 1, api.OK)
	copy(bytes, "XXXXX")
	r[1] = far
	reads(t, l, row(anything, anything), row(text("hello"), number(1)), api.OK)
}

// P2: what comes out is fresh memory, and the caller's.

func TestAnswersAreTheCallers(t *testing.T) {
	word := strings.Clone("hello")
	l := lease.New()
	puts(t, l, row(text(word), number(1)), 5, 1, api.OK)
	seen := map[*byte]bool{unsafe.StringData(word): true}
	for range 3 {
		got, err := l.Read(row(anything, anything))
		if err != nil || !slices.Equal(got, row(text("hello"), number(1))) {
			t.Fatalf("Read: got %+v %v", got, err)
		}
		at := unsafe.StringData(got[0].S)
		if seen[at] {
			t.Error("an answer of Read shares its text")
		}
		seen[at] = true
		got = got[:cap(got)]
		for i := range got {
			got[i] = odd
		}
	}
}
