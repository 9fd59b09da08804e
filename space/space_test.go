package space_test

import (
	"math"
	"slices"
	"strings"
	"testing"
	"unsafe"

	"tuplestead/api"
	"tuplestead/plain"
	"tuplestead/space"
	"tuplestead/tuple"
)

func number(n int) api.Value  { return api.Value{Kind: api.Number, N: n} }
func text(s string) api.Value { return api.Value{Kind: api.Text, S: s} }

// row is fields in a row, in memory of its own.
func row(v ...api.Value) []api.Value { return slices.Clone(v) }

// times is as many fields that are all the same.
func times(n int, v api.Value) []api.Value { return slices.Repeat(row(v), n) }

var (
	anything = api.Value{Kind: api.Any}
	full     = api.Value{Kind: api.Text, S: "abcdefghijklm"}
	odd      = api.Value{Kind: api.Text, S: "A"}
	far      = api.Value{Kind: api.Number, N: api.MaxNumber + 1}
)

// faulty: what may not be asked for, and what is wrong with it.
func faulty() []struct {
	t    []api.Value
	want api.Errno
} {
	return []struct {
		t    []api.Value
		want api.Errno
	}{
		{nil, api.ErrNone},
		{[]api.Value{}, api.ErrNone},
		{times(3, odd)[:0], api.ErrNone},
		{times(6, number(1)), api.ErrFull},
		{times(6, anything), api.ErrFull},
		{times(6, far), api.ErrFull},
		{times(1<<16, text("a")), api.ErrFull},
		{row(far), api.ErrRange},
		{row(number(-api.MaxNumber - 1)), api.ErrRange},
		{row(number(math.MinInt)), api.ErrRange},
		{row(api.Value{Kind: 3}), api.ErrRange},
		{row(api.Value{Kind: -1}), api.ErrRange},
		{row(full), api.ErrFull},
		{row(text(strings.Repeat("a", 1<<20))), api.ErrFull},
		{row(odd), api.ErrShape},
		{row(api.Value{Kind: api.Text, N: 1}), api.ErrShape},
		{row(api.Value{Kind: api.Number, S: "a"}), api.ErrShape},
		{row(api.Value{Kind: api.Any, N: 1}), api.ErrShape},
		{row(number(1), far, odd), api.ErrRange},
		{row(number(1), odd, far), api.ErrShape},
		{row(anything, far), api.ErrRange},
		{row(anything, full), api.ErrFull},
	}
}

// put puts tuples that must all be taken in.
func put(t *testing.T, s *space.Space, rows ...[]api.Value) {
	t.Helper()
	for _, r := range rows {
		if err := s.Put(r); err != nil {
			t.Fatalf("Put(%+v): %v", r, err)
		}
	}
}

// filled has tuples in it, in this order.
func filled(t *testing.T, rows ...[]api.Value) *space.Space {
	t.Helper()
	s := space.New()
	put(t, s, rows...)
	return s
}

// has asks that a space has just these, in this order.
func has(t *testing.T, s *space.Space, want ...[]api.Value) {
	t.Helper()
	if got := s.All(); !slices.EqualFunc(got, want, slices.Equal[[]api.Value]) {
		t.Errorf("All: got %+v, want %+v", got, want)
	}
}

func reads(t *testing.T, s *space.Space, like, want []api.Value) {
	t.Helper()
	if got, err := s.Read(like); !slices.Equal(got, want) || err != nil {
		t.Errorf("Read(%+v): got %+v %v, want %+v", like, got, err, want)
	}
}

func takes(t *testing.T, s *space.Space, like, want []api.Value) {
	t.Helper()
	if got, err := s.Take(like); !slices.Equal(got, want) || err != nil {
		t.Errorf("Take(%+v): got %+v %v, want %+v", like, got, err, want)
	}
}

func counts(t *testing.T, s *space.Space, like []api.Value, want int) {
	t.Helper()
	if got, err := s.Count(like); got != want || err != nil {
		t.Errorf("Count(%+v): got %d %v, want %d", like, got, err, want)
	}
}

// askedInVain asks by Read and by Take: both must tell this error, and nothing else.
func askedInVain(t *testing.T, s *space.Space, like []api.Value, want api.Errno) {
	t.Helper()
	if got, err := s.Read(like); got != nil || plain.Told(err) != want {
		t.Errorf("Read(%+v): got %+v %v, want nothing, %v", like[:min(len(like), 6)], got, err, want)
	}
	if got, err := s.Take(like); got != nil || plain.Told(err) != want {
		t.Errorf("Take(%+v): got %+v %v, want nothing, %v", like[:min(len(like), 6)], got, err, want)
	}
}

// S1: a new one.

func TestNewHasNothing(t *testing.T) {
	s := space.New()
	has(t, s)
	for n := 1; n <= api.MaxFields; n++ {
		askedInVain(t, s, times(n, anything), api.ErrNone)
		counts(t, s, times(n, anything), 0)
	}
	has(t, s)
}

func TestSpacesAreApart(t *testing.T) {
	a, b := space.New(), space.New()
	if a == b {
		t.Fatal("New made the same one twice")
	}
	put(t, a, row(number(1)))
	has(t, b)
	put(t, b, row(number(2)))
	has(t, a, row(number(1)))
	takes(t, a, row(anything), row(number(1)))
	has(t, b, row(number(2)))
}

// S1: Put.

func TestPutLaysBehindAll(t *testing.T) {
	rows := [][]api.Value{
		row(number(3)), row(number(1)), row(number(2)), row(text("b"), number(0)), row(text("a"), number(0)),
		times(5, number(-api.MaxNumber)), times(5, text("zzzzzzzzzzzz")), row(text("")), row(number(1)), row(number(1)),
	}
	s := space.New()
	for i, r := range rows {
		put(t, s, r)
		has(t, s, rows[:i+1]...)
	}
}

func TestPutTakesTheSameOneMoreThanOnce(t *testing.T) {
	r := row(text("a"), number(1))
	s := filled(t, r, r, r)
	has(t, s, r, r, r)
	counts(t, s, r, 3)
	for n := 3; n > 0; n-- {
		takes(t, s, r, r)
		counts(t, s, r, n-1)
	}
	askedInVain(t, s, r, api.ErrNone)
}

func TestPutTellsFaults(t *testing.T) {
	s := filled(t, row(number(1)))
	for _, c := range faulty() {
		if got := plain.Told(s.Put(c.t)); got != c.want {
			t.Errorf("Put(%+v): got %v, want %v", c.t[:min(len(c.t), 6)], got, c.want)
		}
		has(t, s, row(number(1)))
	}
}

func TestPutTakesNoAny(t *testing.T) {
	s := space.New()
	for n := 1; n <= api.MaxFields; n++ {
		for at := range n {
			r := times(n, number(1))
			r[at] = anything
			if got := plain.Told(s.Put(r)); got != api.ErrShape {
				t.Errorf("Put(%+v): got %v, want ErrShape", r, got)
			}
		}
	}
	has(t, s)
}

// twenty are as many as may be there.
func twenty() (rows [][]api.Value) {
	for i := range api.MaxTuples {
		rows = append(rows, row(number(i), text("a")))
	}
	return rows
}

func TestPutTakesTwentyAndNoMore(t *testing.T) {
	rows := twenty()
	if len(rows) != 20 {
		t.Fatalf("as many as may be there: got %d, want 20", len(rows))
	}
	s := filled(t, rows...)
	for range 3 {
		for _, r := range [][]api.Value{row(number(20)), rows[0], row(text("b"), number(1))} {
			if got := plain.Told(s.Put(r)); got != api.ErrFull {
				t.Errorf("Put(%+v) of the 21st: got %v, want ErrFull", r, got)
			}
		}
	}
	has(t, s, rows...)
	counts(t, s, row(anything, anything), 20)
}

// What Check tells of a tuple is told ahead of there being no room.
func TestPutChecksAheadOfRoom(t *testing.T) {
	s := filled(t, twenty()...)
	for _, c := range faulty() {
		if got := plain.Told(s.Put(c.t)); got != c.want {
			t.Errorf("Put(%+v): got %v, want %v", c.t[:min(len(c.t), 6)], got, c.want)
		}
	}
	if got := plain.Told(s.Put(row(anything))); got != api.ErrShape {
		t.Errorf("Put of anything: got %v, want ErrShape", got)
	}
	has(t, s, twenty()...)
}

// The bound is of those that are there, not of those that ever were.
func TestTakeMakesRoom(t *testing.T) {
	want := twenty()
	s := filled(t, want...)
	for i := range 200 {
		at := i * 7 % len(want)
		takes(t, s, want[at], want[at])
		want = slices.Delete(want, at, at+1)
		next := row(number(1000+i), text("b"))
		put(t, s, next)
		want = append(want, next)
		has(t, s, want...)
		if got := plain.Told(s.Put(next)); got != api.ErrFull {
			t.Fatalf("Put of the 21st: got %v, want ErrFull", got)
		}
	}
}

// S1: Read, Take, Count.

func TestReadLeavesIt(t *testing.T) {
	s := filled(t, row(number(1)), row(text("a")))
	for range 3 {
		reads(t, s, row(anything), row(number(1)))
		reads(t, s, row(text("a")), row(text("a")))
		has(t, s, row(number(1)), row(text("a")))
	}
}

func TestReadFindsTheOldest(t *testing.T) {
	s := filled(t,
		row(text("b"), number(9)), row(text("a"), number(5)), row(text("a")), row(text("a"), number(3)),
		row(text("b"), number(3)), row(text("a"), number(3), number(0)))
	reads(t, s, row(anything, anything), row(text("b"), number(9)))
	reads(t, s, row(text("a"), anything), row(text("a"), number(5)))
	reads(t, s, row(anything, number(3)), row(text("a"), number(3)))
	reads(t, s, row(text("b"), number(3)), row(text("b"), number(3)))
	reads(t, s, row(anything), row(text("a")))
	reads(t, s, times(3, anything), row(text("a"), number(3), number(0)))
}

func TestTakeTakesTheOldestAlone(t *testing.T) {
	one, two, three, four := row(text("a"), number(2)), row(text("b"), number(1)), row(text("a"), number(1)), row(text("a"), number(2))
	s := filled(t, one, two, three, four)
	takes(t, s, row(text("b"), anything), two)
	has(t, s, one, three, four)
	takes(t, s, row(anything, number(2)), one)
	has(t, s, three, four)
	takes(t, s, row(anything, number(2)), four)
	has(t, s, three)
	askedInVain(t, s, row(anything, number(2)), api.ErrNone)
	has(t, s, three)
	takes(t, s, row(anything, anything), three)
	has(t, s)
	askedInVain(t, s, row(anything, anything), api.ErrNone)
}

// What was taken and is put again is the youngest.
func TestPutAgainIsTheYoungest(t *testing.T) {
	s := filled(t, row(number(1)), row(number(2)), row(number(3)))
	takes(t, s, row(number(1)), row(number(1)))
	put(t, s, row(number(1)))
	has(t, s, row(number(2)), row(number(3)), row(number(1)))
	reads(t, s, row(anything), row(number(2)))
}

func TestNoneFits(t *testing.T) {
	rows := [][]api.Value{row(number(0)), row(text("a"), number(1)), row(text("ab"), number(2), number(3))}
	s := filled(t, rows...)
	for _, like := range [][]api.Value{
		row(text("")), row(number(1)), row(text("a")), row(text("ab"), anything), row(text("a"), number(2)),
		row(number(1), text("a")), row(text("a"), anything, anything), times(4, anything), times(5, anything),
	} {
		askedInVain(t, s, like, api.ErrNone)
		counts(t, s, like, 0)
		has(t, s, rows...)
	}
}

func TestCount(t *testing.T) {
	rows := [][]api.Value{
		row(number(1)), row(text("a"), number(1)), row(number(1)), row(text("a"), number(2)), row(text("b"), number(1)),
		row(text("")), row(text("a"), number(1)),
	}
	s := filled(t, rows...)
	counts(t, s, row(anything), 3)
	counts(t, s, row(number(1)), 2)
	counts(t, s, row(text("")), 1)
	counts(t, s, row(number(0)), 0)
	counts(t, s, row(anything, anything), 4)
	counts(t, s, row(text("a"), anything), 3)
	counts(t, s, row(anything, number(1)), 3)
	counts(t, s, row(text("a"), number(1)), 2)
	counts(t, s, row(number(1), text("a")), 0)
	counts(t, s, times(3, anything), 0)
	has(t, s, rows...)
}

func TestWhatIsAskedForIsChecked(t *testing.T) {
	for _, rows := range [][][]api.Value{nil, {row(number(1))}, twenty()} {
		s := filled(t, rows...)
		for _, c := range faulty() {
			askedInVain(t, s, c.t, c.want)
			if n, err := s.Count(c.t); n != 0 || plain.Told(err) != c.want {
				t.Errorf("Count(%+v): got %d %v, want 0 %v", c.t[:min(len(c.t), 6)], n, err, c.want)
			}
			has(t, s, rows...)
		}
	}
}

// S1: what is taken was put, and once: all that a space answers is held against a plain list of what is there.

// model is a space once more, as plainly as can be.
type model struct{ rows [][]api.Value }

func (m *model) at(like []api.Value) (found []int) {
	for i, r := range m.rows {
		if is, _ := tuple.Fits(like, r); is {
			found = append(found, i)
		}
	}
	return found
}

// step does one deed on both, and holds the answers against each other.
func (m *model) step(t *testing.T, s *space.Space, deed int, r []api.Value) {
	t.Helper()
	found := m.at(r)
	var want []api.Value
	told := api.ErrNone
	if len(found) > 0 {
		want, told = m.rows[found[0]], api.OK
	}
	switch deed {
	case 0:
		if got, err := s.Read(r); !slices.Equal(got, want) || plain.Told(err) != told {
			t.Fatalf("Read(%+v): got %+v %v, want %+v %v", r, got, err, want, told)
		}
	case 1:
		if got, err := s.Take(r); !slices.Equal(got, want) || plain.Told(err) != told {
			t.Fatalf("Take(%+v): got %+v %v, want %+v %v", r, got, err, want, told)
		}
		if told == api.OK {
			m.rows = slices.Concat(m.rows[:found[0]], m.rows[found[0]+1:])
		}
	case 2:
		if n, err := s.Count(r); n != len(found) || err != nil {
			t.Fatalf("Count(%+v): got %d %v, want %d", r, n, err, len(found))
		}
	default:
		told := plain.Told(tuple.Check(r))
		if told == api.OK && len(m.rows) == 20 {
			told = api.ErrFull
		}
		if got := plain.Told(s.Put(r)); got != told {
			t.Fatalf("Put(%+v) beside %d: got %v, want %v", r, len(m.rows), got, told)
		}
		if told == api.OK {
			m.rows = append(m.rows, slices.Clone(r))
		}
	}
}

func TestManyDeedsAgainstAPlainList(t *testing.T) {
	cells := row(number(0), number(1), text(""), text("a"), anything)
	s, m := space.New(), &model{}
	state := uint32(1)
	next := func(n int) int {
		state = state*1664525 + 1013904223
		return int(state>>16) % n
	}
	fullSeen := 0
	for i := range 20_000 {
		var r []api.Value
		for range 1 + next(2) {
			r = append(r, cells[next(len(cells))])
		}
		// By turns more is put than is taken, and less: so it is full at times, and empty at times.
		deeds := 4 + i/500%2*4
		m.step(t, s, next(deeds), r)
		if len(m.rows) == 20 {
			fullSeen++
		}
		has(t, s, m.rows...)
		if t.Failed() {
			t.Fatalf("at deed %d", i)
		}
	}
	if fullSeen == 0 {
		t.Error("the space was never full")
	}
}

// P2: nothing that is handed in is written into, nor kept, nor read behind its length.

func TestNothingHandedInIsWrittenInto(t *testing.T) {
	behind := row(text("a"), number(1), odd, far)
	like := row(anything, number(1), full, odd)
	kept, keptLike := slices.Clone(behind), slices.Clone(like)
	s := space.New()
	put(t, s, behind[:2], behind[:2])
	reads(t, s, like[:2], kept[:2])
	counts(t, s, like[:2], 2)
	takes(t, s, like[:2], kept[:2])
	if !slices.Equal(behind, kept) || !slices.Equal(like, keptLike) {
		t.Errorf("what was handed in was changed: %+v, %+v", like, behind)
	}
}

func TestPutKeepsNothingHandedIn(t *testing.T) {
	r := row(text("a"), number(1))
	s := filled(t, r)
	r[0], r[1] = odd, far
	has(t, s, row(text("a"), number(1)))
	reads(t, s, row(anything, anything), row(text("a"), number(1)))
	takes(t, s, row(text("a"), number(1)), row(text("a"), number(1)))
}

// A text may be a piece of memory whose owner writes into it later.
func TestPutKeepsNoTextHandedIn(t *testing.T) {
	bytes := []byte("hello")
	s := filled(t, row(text(unsafe.String(&bytes[0], len(bytes)))))
	copy(bytes, "XXXXX")
	has(t, s, row(text("hello")))
	takes(t, s, row(text("hello")), row(text("hello")))
}

// P2: what comes out is fresh memory, and the caller's.

func TestAnswersAreTheCallers(t *testing.T) {
	one, two := row(text("a"), number(1)), row(text("b"), number(2))
	s := filled(t, one, two)
	spoil := func(r []api.Value) {
		r = r[:cap(r)]
		for i := range r {
			r[i] = odd
		}
	}
	got, _ := s.Read(row(anything, anything))
	spoil(got)
	has(t, s, one, two)
	all := s.All()
	spoil(all[0])
	if !slices.Equal(all[1], two) {
		t.Errorf("two lists of All share memory: %+v", all[1])
	}
	spoil(all[1])
	for all = all[:cap(all)]; len(all) > 0; all = all[1:] {
		all[0] = row(far)
	}
	has(t, s, one, two)
	got, _ = s.Take(row(anything, anything))
	spoil(got)
	has(t, s, two)
	put(t, s, one)
	has(t, s, two, one)
}

// The same list of All is not handed out twice, nor changed by what is done later.
func TestAllIsNotChangedLater(t *testing.T) {
	one, two, three := row(number(1)), row(number(2)), row(number(3))
	s := filled(t, one, two)
	ahead := s.All()
	takes(t, s, one, one)
	put(t, s, three)
	if want := [][]api.Value{one, two}; !slices.EqualFunc(ahead, want, slices.Equal[[]api.Value]) {
		t.Errorf("what All answered was changed by later calls: %+v, want %+v", ahead, want)
	}
}

// Texts of answers are told apart by where they lie: those of two answers, and that which was handed in.
func TestAnswersShareNoText(t *testing.T) {
	word := strings.Clone("hello")
	like := row(text(strings.Clone("hello")))
	s := filled(t, row(text(word)), row(text(word)))
	seen := map[*byte]string{unsafe.StringData(word): "the text put", unsafe.StringData(like[0].S): "the text asked for"}
	fresh := func(from string, r []api.Value) {
		at := unsafe.StringData(r[0].S)
		if other, is := seen[at]; is {
			t.Errorf("%s shares its text with %s", from, other)
		}
		seen[at] = from
	}
	for range 2 {
		got, _ := s.Read(like)
		fresh("Read", got)
		for _, r := range s.All() {
			fresh("All", r)
		}
	}
	for range 2 {
		got, _ := s.Take(like)
		fresh("Take", got)
	}
}
