package once_test

import (
	"math"
	"slices"
	"strings"
	"testing"
	"unsafe"

	"tuplestead/api"
	"tuplestead/once"
	"tuplestead/plain"
	"tuplestead/space"
	"tuplestead/tuple"
)

func number(n int) api.Value  { return api.Value{Kind: api.Number, N: n} }
func text(s string) api.Value { return api.Value{Kind: api.Text, S: s} }

// row is fields in a row, in memory of its own.
func row(v ...api.Value) []api.Value { return slices.Clone(v) }

// times is as many fields that are all the same.
func times(n int, v api.Value) []api.Value { return slices.Repeat(row(v), n) }

var (
	anything = api.Value{Kind: api.Any}
	full     = api.Value{Kind: api.Text, S: "abcdefghijklm"}
	odd      = api.Value{Kind: api.Text, S: "A"}
	far      = api.Value{Kind: api.Number, N: api.MaxNumber + 1}
)

// fault is what may be neither asked for nor put, and what is wrong with it.
type fault struct {
	t    []api.Value
	want api.Errno
}

func faulty() []fault {
	return []fault{
		{nil, api.ErrNone},
		{[]api.Value{}, api.ErrNone},
		{times(3, number(1))[:0], api.ErrNone},
		{times(6, number(1)), api.ErrFull},
		{times(6, anything), api.ErrFull},
		{times(6, far), api.ErrFull},
		{times(1<<16, text("a")), api.ErrFull},
		{row(far), api.ErrRange},
		{row(number(-api.MaxNumber - 1)), api.ErrRange},
		{row(number(math.MinInt)), api.ErrRange},
		{row(api.Value{Kind: 3}), api.ErrRange},
		{row(api.Value{Kind: -1}), api.ErrRange},
		{row(full), api.ErrFull},
		{row(text(strings.Repeat("a", 1<<20))), api.ErrFull},
		{row(odd), api.ErrShape},
		{row(api.Value{Kind: api.Text, N: 1}), api.ErrShape},
		{row(api.Value{Kind: api.Number, S: "a"}), api.ErrShape},
		{row(api.Value{Kind: api.Any, N: 1}), api.ErrShape},
		{row(number(1), far, odd), api.ErrRange},
		{row(number(1), odd, far), api.ErrShape},
		{row(anything, far), api.ErrRange},
		{row(anything, full), api.ErrFull},
	}
}

// faultyTuples are those that may not be put: some of them may be asked for.
func faultyTuples() []fault {
	l := faulty()
	for n := 1; n <= api.MaxFields; n++ {
		for at := range n {
			r := times(n, number(1))
			r[at] = anything
			l = append(l, fault{r, api.ErrShape})
		}
	}
	return l
}

// short is a piece of a tuple that can be printed beside a fault.
func short(t []api.Value) []api.Value {
	t = slices.Clone(t[:min(len(t), 6)])
	for i := range t {
		t[i].S = t[i].S[:min(len(t[i].S), 20)]
	}
	return t
}

// filled has tuples in it, in this order.
func filled(t *testing.T, rows ...[]api.Value) *space.Space {
	t.Helper()
	s := space.New()
	for _, r := range rows {
		if err := s.Put(r); err != nil {
			t.Fatalf("Put(%+v): %v", r, err)
		}
	}
	return s
}

// some are as many tuples of two fields, told apart by the first.
func some(n int) (rows [][]api.Value) {
	for i := range n {
		rows = append(rows, row(number(i), text("a")))
	}
	return rows
}

// has asks that a space has just these, in this order.
func has(t *testing.T, s *space.Space, want ...[]api.Value) {
	t.Helper()
	if got := s.All(); !slices.EqualFunc(got, want, slices.Equal[[]api.Value]) {
		t.Errorf("All: got %+v, want %+v", got, want)
	}
}

func puts(t *testing.T, s *space.Space, like, r []api.Value, want bool, told api.Errno) {
	t.Helper()
	if got, err := once.Put(s, like, r); got != want || plain.Told(err) != told {
		t.Errorf("Put(%+v, %+v): got %v %v, want %v %v", short(like), short(r), got, err, want, told)
	}
}

func changes(t *testing.T, s *space.Space, like, r, want []api.Value, told api.Errno) {
	t.Helper()
	got, err := once.Change(s, like, r)
	if !slices.Equal(got, want) || plain.Told(err) != told || told != api.OK && got != nil {
		t.Errorf("Change(%+v, %+v): got %+v %v, want %+v %v", short(like), short(r), got, err, want, told)
	}
}

func moves(t *testing.T, from, to *space.Space, like []api.Value, want int, told api.Errno) {
	t.Helper()
	if got, err := once.Move(from, to, like); got != want || plain.Told(err) != told {
		t.Errorf("Move(%+v): got %d %v, want %d %v", short(like), got, err, want, told)
	}
}

// O1: Put.

func TestPutIfNoneFits(t *testing.T) {
	s := space.New()
	one, two, three := row(text("a"), number(1)), row(text("b"), number(1)), row(text("b"))
	puts(t, s, row(text("a"), anything), one, true, api.OK)
	has(t, s, one)
	puts(t, s, row(text("b"), anything), two, true, api.OK)
	has(t, s, one, two)
	puts(t, s, row(text("b")), three, true, api.OK)
	has(t, s, one, two, three)
	puts(t, s, times(3, anything), one, true, api.OK)
	has(t, s, one, two, three, one)
}

func TestPutNotIfOneFits(t *testing.T) {
	one, two, three := row(text("a"), number(1)), row(text("b"), number(1)), row(text("c"))
	s := filled(t, one, two, three)
	for _, like := range [][]api.Value{
		one, two, three, row(anything), row(anything, anything), row(text("b"), anything), row(anything, number(1)),
	} {
		for _, r := range [][]api.Value{one, three, row(text("d"), number(9))} {
			puts(t, s, like, r, false, api.OK)
			has(t, s, one, two, three)
		}
	}
}

// Of several who try one alone does it.
func TestPutOfSeveralOneAlone(t *testing.T) {
	s := space.New()
	done := 0
	for who := range 10 {
		is, err := once.Put(s, row(text("lock"), anything), row(text("lock"), number(who)))
		if err != nil {
			t.Fatal(err)
		}
		if is {
			done++
		}
	}
	if done != 1 {
		t.Errorf("done %d times, want once", done)
	}
	has(t, s, row(text("lock"), number(0)))
	if _, err := s.Take(row(text("lock"), anything)); err != nil {
		t.Fatal(err)
	}
	puts(t, s, row(text("lock"), anything), row(text("lock"), number(7)), true, api.OK)
	has(t, s, row(text("lock"), number(7)))
}

// Whether one fits is asked of like alone: t need not fit it, and may be there already.
func TestPutAsksByLikeAlone(t *testing.T) {
	one := row(number(1))
	s := space.New()
	for n := 1; n <= 3; n++ {
		puts(t, s, row(text("a")), one, true, api.OK)
		has(t, s, slices.Repeat([][]api.Value{one}, n)...)
	}
	puts(t, s, row(number(1)), row(text("a")), false, api.OK)
	has(t, s, one, one, one)
}

func TestPutTakesTwentyAndNoMore(t *testing.T) {
	s := filled(t, some(19)...)
	puts(t, s, row(number(19), anything), some(20)[19], true, api.OK)
	has(t, s, some(20)...)
	for _, r := range [][]api.Value{row(number(20), text("a")), row(number(0), text("a")), row(text("b"))} {
		puts(t, s, row(number(20), anything), r, false, api.ErrFull)
		has(t, s, some(20)...)
	}
}

// Where one fits nothing would be put: so there being no room is no fault.
func TestPutToAFullOneWhereOneFits(t *testing.T) {
	s := filled(t, some(20)...)
	puts(t, s, row(number(19), anything), row(number(20), text("a")), false, api.OK)
	puts(t, s, row(anything, anything), row(text("b")), false, api.OK)
	has(t, s, some(20)...)
}

func TestPutTellsFaults(t *testing.T) {
	fits, fitsNone := row(anything, text("a")), row(text("none"))
	for _, rows := range [][][]api.Value{nil, some(3), some(20)} {
		s := filled(t, rows...)
		for _, c := range faulty() {
			puts(t, s, c.t, row(number(1)), false, c.want)
			for _, d := range faultyTuples() {
				puts(t, s, c.t, d.t, false, c.want)
			}
			has(t, s, rows...)
		}
		for _, c := range faultyTuples() {
			puts(t, s, fits, c.t, false, c.want)
			puts(t, s, fitsNone, c.t, false, c.want)
			has(t, s, rows...)
		}
	}
}

// O1: Change.

func TestChangeTakesTheOldestAndPutsBehindAll(t *testing.T) {
	one, two, three, four := row(text("a"), number(1)), row(text("b"), number(1)), row(text("a"), number(2)), row(text("c"))
	s := filled(t, one, two, three)
	changes(t, s, row(text("b"), anything), four, two, api.OK)
	has(t, s, one, three, four)
	changes(t, s, row(text("a"), anything), two, one, api.OK)
	has(t, s, three, four, two)
	changes(t, s, row(anything), one, four, api.OK)
	has(t, s, three, two, one)
	changes(t, s, row(anything, anything), three, three, api.OK)
	has(t, s, two, one, three)
}

// Just one is changed, also where what is put fits, or is the same once more.
func TestChangeIsDoneOnce(t *testing.T) {
	s := filled(t, some(3)...)
	want := some(3)
	for n := range 9 {
		changes(t, s, row(anything, anything), row(number(100+n), text("a")), want[0], api.OK)
		want = append(want[1:], row(number(100+n), text("a")))
		has(t, s, want...)
	}
	same := row(number(5))
	s = filled(t, same, same)
	changes(t, s, same, same, same, api.OK)
	has(t, s, same, same)
	changes(t, s, same, row(number(6)), same, api.OK)
	has(t, s, same, row(number(6)))
}

func TestChangeWhereNoneFits(t *testing.T) {
	for _, rows := range [][][]api.Value{nil, some(3), some(20)} {
		s := filled(t, rows...)
		for _, like := range [][]api.Value{row(number(20), anything), row(anything), times(3, anything), row(text("a"), number(0))} {
			changes(t, s, like, row(number(20), text("a")), nil, api.ErrNone)
			has(t, s, rows...)
		}
	}
}

// The one that is taken makes room for the other.
func TestChangeOfAFullOne(t *testing.T) {
	s := filled(t, some(20)...)
	want := some(20)
	for n := range 25 {
		next := row(number(100+n), text("b"))
		at := n * 7 % 20
		changes(t, s, want[at], next, want[at], api.OK)
		want = append(slices.Delete(want, at, at+1), next)
		has(t, s, want...)
	}
}

func TestChangeTellsFaults(t *testing.T) {
	fits, fitsNone := row(anything, text("a")), row(text("none"))
	for _, rows := range [][][]api.Value{nil, some(3), some(20)} {
		s := filled(t, rows...)
		for _, c := range faulty() {
			changes(t, s, c.t, row(number(1)), nil, c.want)
			for _, d := range faultyTuples() {
				changes(t, s, c.t, d.t, nil, c.want)
			}
			has(t, s, rows...)
		}
		for _, c := range faultyTuples() {
			changes(t, s, fits, c.t, nil, c.want)
			changes(t, s, fitsNone, c.t, nil, c.want)
			has(t, s, rows...)
		}
	}
}

// O1: Move.

func TestMoveAllThatFit(t *testing.T) {
	one, two, three, four := row(text("a"), number(2)), row(text("b"), number(1)), row(text("a"), number(1)), row(text("c"))
	from, to := filled(t, one, two, three, four, one), filled(t, four)
	moves(t, from, to, row(text("a"), anything), 3, api.OK)
	has(t, from, two, four)
	has(t, to, four, one, three, one)
	moves(t, from, to, row(anything), 1, api.OK)
	has(t, from, two)
	has(t, to, four, one, three, one, four)
	moves(t, to, from, row(anything, number(2)), 2, api.OK)
	has(t, from, two, one, one)
	has(t, to, four, three, four)
}

func TestMoveWhereNoneFits(t *testing.T) {
	for _, rows := range [][][]api.Value{nil, some(3), some(20)} {
		from, to := filled(t, rows...), filled(t, some(20)...)
		for _, like := range [][]api.Value{row(number(20), anything), row(anything), times(5, anything)} {
			moves(t, from, to, like, 0, api.OK)
			moves(t, from, space.New(), like, 0, api.OK)
			has(t, from, rows...)
			has(t, to, some(20)...)
		}
	}
}

// As long as there is room: the oldest go, and what is left is as old as it was.
func TestMoveAsLongAsThereIsRoom(t *testing.T) {
	other := row(text("other"))
	for there := range 21 {
		rows := slices.Concat([][]api.Value{other}, some(9), [][]api.Value{other}, some(9))
		from, to := filled(t, rows...), filled(t, slices.Repeat([][]api.Value{other}, there)...)
		fit := slices.Concat(some(9), some(9))
		n := min(18, 20-there)
		moves(t, from, to, row(anything, anything), n, api.OK)
		has(t, to, slices.Concat(slices.Repeat([][]api.Value{other}, there), fit[:n])...)
		left := slices.Concat([][]api.Value{other}, some(9)[min(n, 9):], [][]api.Value{other}, some(9)[max(n-9, 0):])
		has(t, from, left...)
		moves(t, from, to, row(anything, anything), 0, api.OK)
		has(t, from, left...)
	}
}

func TestMoveAFullOneWhole(t *testing.T) {
	from, to := filled(t, some(20)...), space.New()
	moves(t, from, to, row(anything, anything), 20, api.OK)
	has(t, from)
	has(t, to, some(20)...)
}

func TestMoveWithinOneSpace(t *testing.T) {
	for _, rows := range [][][]api.Value{nil, some(3), some(20)} {
		s := filled(t, rows...)
		moves(t, s, s, row(anything, anything), 0, api.ErrShape)
		moves(t, s, s, row(text("none")), 0, api.ErrShape)
		has(t, s, rows...)
	}
}

// Two that have the same in them are not one.
func TestMoveBetweenSpacesThatAreAlike(t *testing.T) {
	moves(t, space.New(), space.New(), row(anything), 0, api.OK)
	from, to := filled(t, some(3)...), filled(t, some(3)...)
	moves(t, from, to, row(number(1), anything), 1, api.OK)
	has(t, from, some(3)[0], some(3)[2])
	has(t, to, append(some(3), some(3)[1])...)
}

// What Like tells is told ahead of both being one space.
func TestMoveTellsFaults(t *testing.T) {
	for _, rows := range [][][]api.Value{nil, some(3), some(20)} {
		from, to := filled(t, rows...), filled(t, some(20)...)
		for _, c := range faulty() {
			moves(t, from, to, c.t, 0, c.want)
			moves(t, from, space.New(), c.t, 0, c.want)
			moves(t, from, from, c.t, 0, c.want)
		}
		has(t, from, rows...)
		has(t, to, some(20)...)
	}
}

// O1: all that is answered is held against plain lists of what is there.

// model is two spaces once more, as plainly as can be.
type model [2][][]api.Value

// fit tells at which places of a list are those that fit.
func fit(rows [][]api.Value, like []api.Value) (at []int) {
	for i, r := range rows {
		if is, _ := tuple.Fits(like, r); is {
			at = append(at, i)
		}
	}
	return at
}

func without(rows [][]api.Value, at int) [][]api.Value {
	return slices.Concat(rows[:at], rows[at+1:])
}

// firstFault is what is told ahead of anything that hangs on the space.
func firstFault(like, r []api.Value) api.Errno {
	if err := tuple.Like(like); err != nil {
		return plain.Told(err)
	}
	return plain.Told(tuple.Check(r))
}

func (m *model) put(at int, like, r []api.Value) (bool, api.Errno) {
	if told := firstFault(like, r); told != api.OK {
		return false, told
	}
	if len(fit(m[at], like)) > 0 {
		return false, api.OK
	}
	if len(m[at]) == 20 {
		return false, api.ErrFull
	}
	m[at] = append(m[at], r)
	return true, api.OK
}

func (m *model) change(at int, like, r []api.Value) ([]api.Value, api.Errno) {
	if told := firstFault(like, r); told != api.OK {
		return nil, told
	}
	found := fit(m[at], like)
	if len(found) == 0 {
		return nil, api.ErrNone
	}
	old := m[at][found[0]]
	m[at] = append(without(m[at], found[0]), r)
	return old, api.OK
}

func (m *model) move(from, to int, like []api.Value) (int, api.Errno) {
	if err := tuple.Like(like); err != nil {
		return 0, plain.Told(err)
	}
	if from == to {
		return 0, api.ErrShape
	}
	found := fit(m[from], like)
	found = found[:min(len(found), 20-len(m[to]))]
	for i, at := range found {
		m[to] = append(m[to], m[from][at-i])
		m[from] = without(m[from], at-i)
	}
	return len(found), api.OK
}

func TestManyDeedsAgainstPlainLists(t *testing.T) {
	cells := row(number(0), number(1), number(2), text(""), text("a"), text("b"), anything, anything, odd)
	s, m := [2]*space.Space{space.New(), space.New()}, &model{}
	state := uint32(1)
	next := func(n int) int {
		state = state*1664525 + 1013904223
		return int(state>>16) % n
	}
	fields := func(kinds int) (r []api.Value) {
		for range 1 + next(2) {
			r = append(r, cells[next(kinds)])
		}
		return r
	}
	seen := map[api.Errno]int{}
	for i := range 20_000 {
		at, to := next(2), next(2)
		like, r := fields(len(cells)), fields(6+next(2))
		switch next(16) {
		case 0:
			n, told := m.move(at, to, like)
			moves(t, s[at], s[to], like, n, told)
			seen[told]++
		case 1, 2, 3:
			old, told := m.change(at, like, r)
			changes(t, s[at], like, r, old, told)
			seen[told]++
		case 4:
			if got, err := s[at].Take(like); err == nil {
				m[at] = without(m[at], fit(m[at], got)[0])
			}
		default:
			// One that nothing there has is asked for at times: so the space grows full.
			if next(2) == 0 {
				like = times(4, anything)
			}
			is, told := m.put(at, like, r)
			puts(t, s[at], like, r, is, told)
			seen[told]++
		}
		has(t, s[0], m[0]...)
		has(t, s[1], m[1]...)
		if t.Failed() {
			t.Fatalf("at deed %d", i)
		}
	}
	for _, told := range []api.Errno{api.OK, api.ErrShape, api.ErrFull, api.ErrNone} {
		if seen[told] == 0 {
			t.Errorf("%v was never told", told)
		}
	}
}

// P2: nothing that is handed in is written into, nor kept, nor read behind its length.

func TestNothingHandedInIsWrittenInto(t *testing.T) {
	r := row(text("a"), number(1), odd, far)
	like := row(anything, number(1), full, odd)
	kept, keptLike := slices.Clone(r), slices.Clone(like)
	from, to := space.New(), space.New()
	puts(t, from, like[:2], r[:2], true, api.OK)
	changes(t, from, like[:2], r[:2], kept[:2], api.OK)
	moves(t, from, to, like[:2], 1, api.OK)
	has(t, to, kept[:2])
	if !slices.Equal(r, kept) || !slices.Equal(like, keptLike) {
		t.Errorf("what was handed in was changed: %+v, %+v", like, r)
	}
}

// A list, and a text in it, may be memory whose owner writes into it later.
func TestNothingHandedInIsKept(t *testing.T) {
	for _, change := range []bool{false, true} {
		bytes := []byte("hello")
		r := row(text(unsafe.String(&bytes[0], len(bytes))), number(1))
		s := space.New()
		if change {
			s = filled(t, row(number(0)))
			changes(t, s, row(anything), r, row(number(0)), api.OK)
		} else {
			puts(t, s, row(anything), r, true, api.OK)
		}
		copy(bytes, "XXXXX")
		r[1] = far
		has(t, s, row(text("hello"), number(1)))
	}
}

// One list may be both what is asked for and what is put.
func TestTheSameListTwice(t *testing.T) {
	r := row(text("a"), number(1))
	s := space.New()
	puts(t, s, r, r, true, api.OK)
	puts(t, s, r, r, false, api.OK)
	changes(t, s, r, r, row(text("a"), number(1)), api.OK)
	has(t, s, r)
}

// P2: what comes out is fresh memory, and the caller's.

func TestChangeAnswersAreTheCallers(t *testing.T) {
	one, two := row(text("a"), number(1)), row(text("b"), number(2))
	s := filled(t, one)
	got, err := once.Change(s, row(text("a"), anything), two)
	if err != nil {
		t.Fatal(err)
	}
	got = got[:cap(got)]
	for i := range got {
		got[i] = odd
	}
	has(t, s, two)
	if !slices.Equal(one, row(text("a"), number(1))) || !slices.Equal(two, row(text("b"), number(2))) {
		t.Errorf("the answer shares memory with what was handed in: %+v, %+v", one, two)
	}
}

// Texts are told apart by where they lie: that of the answer, and all that were handed in.
func TestChangeAnswersNoTextHandedIn(t *testing.T) {
	hello := func() []api.Value { return row(text(strings.Clone("hello"))) }
	old, like, next := hello(), hello(), hello()
	s := filled(t, old)
	got, err := once.Change(s, like, next)
	if err != nil || !slices.Equal(got, hello()) {
		t.Fatalf("Change: got %+v %v", got, err)
	}
	for from, handed := range map[string][]api.Value{"the old one": old, "what was asked for": like, "the new one": next} {
		if unsafe.StringData(got[0].S) == unsafe.StringData(handed[0].S) {
			t.Errorf("the answer shares its text with %s", from)
		}
	}
}
