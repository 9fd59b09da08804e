package seal_test

import (
	"math"
	"math/big"
	"slices"
	"strings"
	"testing"

	"tuplestead/api"
	"tuplestead/plain"
	"tuplestead/seal"
)

const (
	prime   = 257
	most    = 7
	longest = 12
)

// outside are no numbers of chapter 7.
var outside = []int{math.MinInt, math.MinInt + 1, -1_000_000, -257, -256, -1, 257, 258, 513, 514, 1_000_000, 1 << 32, math.MaxInt - 1, math.MaxInt}

// noCount are numbers of shares that may not be.
var noCount = []int{math.MinInt, math.MinInt + 1, -257, -7, -1, 0, 8, 9, 256, 257, 1 << 32, math.MaxInt - 1, math.MaxInt}

// answer is what Open gave.
type answer struct {
	text string
	err  api.Errno
}

func told(text string, err error) answer { return answer{text, plain.Told(err)} }

func is(text string) answer { return answer{text: text} }

func wrong(e api.Errno) answer { return answer{err: e} }

// points is shares in a row, in memory of their own: at, is, at, is ..
func points(n ...int) (l []api.Share) {
	for i := 0; i+1 < len(n); i += 2 {
		l = append(l, api.Share{At: n[i], Is: n[i+1]})
	}
	return l
}

// flat is one number that so many tell alike.
func flat(n, many int) (l []api.Share) {
	for at := 1; at <= many; at++ {
		l = append(l, api.Share{At: at, Is: n})
	}
	return l
}

// allFlat is a list a number.
func allFlat(many int, n ...int) (l [][]api.Share) {
	for _, one := range n {
		l = append(l, flat(one, many))
	}
	return l
}

// steps gives numbers that go all over the place, the same ones each time.
type steps uint64

func (s *steps) below(n int) int {
	*s = *s*6364136223846793005 + 1442695040888963407
	return int(uint64(*s) >> 33 % uint64(n))
}

// list of as many numbers of chapter 7.
func (s *steps) list(many int) []int {
	l := make([]int, many)
	for i := range l {
		l[i] = s.below(prime)
	}
	return l
}

// text of as many bytes of any kind.
func (s *steps) text(long int) string {
	b := make([]byte, long)
	for i := range b {
		b[i] = byte(s.below(256))
	}
	return string(b)
}

// rests, one a byte, none of them so long that so many could not tell it.
func (s *steps) rests(long, many int) (l [][]int) {
	for range long {
		l = append(l, s.list(s.below(many)))
	}
	return l
}

// places are as many, none of them twice.
func (s *steps) places(many int) (l []int) {
	for len(l) < many {
		if at := s.below(prime); !slices.Contains(l, at) {
			l = append(l, at)
		}
	}
	return l
}

// bigShare reckons by whole numbers of any size, power by power, and takes it modulo at the end alone.
func bigShare(secret int, rest []int, at int) api.Share {
	sum := big.NewInt(int64(secret))
	for k, factor := range rest {
		power := new(big.Int).Exp(big.NewInt(int64(at)), big.NewInt(int64(k+1)), nil)
		sum.Add(sum, power.Mul(power, big.NewInt(int64(factor))))
	}
	return api.Share{At: at, Is: int(sum.Mod(sum, big.NewInt(prime)).Int64())}
}

// bigSeal goes byte by byte, too.
func bigSeal(text string, rest [][]int, many int) (all [][]api.Share) {
	for i, secret := range []byte(text) {
		var l []api.Share
		for at := 1; at <= many; at++ {
			l = append(l, bigShare(int(secret), rest[i], at))
		}
		all = append(all, l)
	}
	return all
}

func same(a, b [][]api.Share) bool {
	return slices.EqualFunc(a, b, func(x, y []api.Share) bool { return slices.Equal(x, y) })
}

func copied(l [][]api.Share) (all [][]api.Share) {
	for _, one := range l {
		all = append(all, slices.Clone(one))
	}
	return all
}

// wantSeal fails where Seal does not give just these.
func wantSeal(t *testing.T, text string, rest [][]int, many int, want [][]api.Share) {
	t.Helper()
	if l, err := seal.Seal(text, rest, many); err != nil || !same(l, want) {
		t.Fatalf("Seal(%q, %v, %d): got %v %v, want %v", text, rest, many, l, err, want)
	}
}

// wantNoSeal fails where Seal does not tell that error, and nothing beside it.
func wantNoSeal(t *testing.T, text string, rest [][]int, many int, want api.Errno) {
	t.Helper()
	if l, err := seal.Seal(text, rest, many); l != nil || plain.Told(err) != want {
		t.Errorf("Seal(%.20q, %v, %d): got %v %v, want %v", text, rest[:min(len(rest), longest+1)], many, l, err, want)
	}
}

// wantOpen fails where Open does not give just that.
func wantOpen(t *testing.T, l [][]api.Share, need int, want answer) {
	t.Helper()
	if got := told(seal.Open(l, need)); got != want {
		t.Fatalf("Open(%v, %d): got %v, want %v", l[:min(len(l), longest+1)], need, got, want)
	}
}

// S1: Seal.

func TestSeal(t *testing.T) {
	for _, c := range []struct {
		text string
		rest [][]int
		many int
		want [][]api.Share
	}{
		{"a", [][]int{nil}, 1, allFlat(1, 97)},
		{"a", [][]int{{}}, 3, allFlat(3, 97)},
		{"a", [][]int{{5}}, 2, [][]api.Share{points(1, 102, 2, 107)}},
		{"ab", [][]int{{5}, {256}}, 3, [][]api.Share{points(1, 102, 2, 107, 3, 112), points(1, 97, 2, 96, 3, 95)}},
		{"ab", [][]int{nil, {131, 10}}, 3, [][]api.Share{flat(97, 3), points(1, 239, 2, 143, 3, 67)}},
		// Each has its own rest: the last of as many as there may be, and as few.
		{"ba", [][]int{{0, 0, 0, 0, 0, 1}, nil}, 7, [][]api.Share{points(1, 99, 2, 162, 3, 56, 4, 82, 5, 46, 6, 237, 7, 41), flat(97, 7)}},
		{"aaa", [][]int{nil, nil, nil}, 2, allFlat(2, 97, 97, 97)},
		// A share may be 256, a byte not; bytes are from 0 to 255, and a rune may be several.
		{"\x00", [][]int{{256}}, 2, [][]api.Share{points(1, 256, 2, 255)}},
		{"\x00\xff", [][]int{nil, {1}}, 2, [][]api.Share{flat(0, 2), points(1, 256, 2, 0)}},
		{"é", [][]int{nil, nil}, 1, allFlat(1, 0xc3, 0xa9)},
		{"\xff\x80", [][]int{nil, nil}, 1, allFlat(1, 255, 128)},
	} {
		wantSeal(t, c.text, c.rest, c.many, c.want)
	}
}

func TestSealOfEveryByte(t *testing.T) {
	var s steps
	for b := range 256 {
		text := string([]byte{byte(b)})
		for many := 1; many <= most; many++ {
			wantSeal(t, text, [][]int{nil}, many, allFlat(many, b))
			rest := s.rests(1, many)
			wantSeal(t, text, rest, many, bigSeal(text, rest, many))
		}
	}
}

func TestSealOfAnyText(t *testing.T) {
	var s steps
	for long := range longest + 1 {
		for range 60 {
			many := 1 + s.below(most)
			text, rest := s.text(long), s.rests(long, many)
			wantSeal(t, text, rest, many, bigSeal(text, rest, many))
		}
	}
}

// Of no bytes none is dealt, so there is nothing that could be wrong with how many.
func TestSealOfNothing(t *testing.T) {
	for _, many := range append([]int{1, 7}, noCount...) {
		wantSeal(t, "", nil, many, nil)
		wantSeal(t, "", [][]int{}, many, nil)
		wantSeal(t, "", [][]int{{-1}}[:0], many, nil)
	}
}

func TestSealTellsTooLong(t *testing.T) {
	full := strings.Repeat("x", longest)
	wantSeal(t, full, make([][]int, longest), 1, bigSeal(full, make([][]int, longest), 1))
	for _, long := range []int{longest + 1, longest + 2, 100, 1 << 20} {
		text := strings.Repeat("x", long)
		wantNoSeal(t, text, make([][]int, long), 1, api.ErrFull)
		// It is told ahead of all else.
		wantNoSeal(t, text, nil, 1, api.ErrFull)
		wantNoSeal(t, text, make([][]int, longest), 0, api.ErrFull)
		wantNoSeal(t, text, slices.Repeat([][]int{{-1}}, long), 8, api.ErrFull)
	}
	// It is the bytes that count, not the runes.
	wantNoSeal(t, strings.Repeat("é", 7), make([][]int, 7), 1, api.ErrFull)
	wantNoSeal(t, strings.Repeat("é", 7), make([][]int, 14), 1, api.ErrFull)
}

func TestSealTellsThatRestsAreNotAsMany(t *testing.T) {
	for long := range longest + 1 {
		text := strings.Repeat("x", long)
		for _, rests := range []int{0, 1, 2, long - 1, long + 1, 12, 13, 1000} {
			if rests < 0 || rests == long {
				continue
			}
			wantNoSeal(t, text, make([][]int, rests), 1, api.ErrShape)
			// It is told ahead of what would be wrong with one of them.
			wantNoSeal(t, text, make([][]int, rests), 0, api.ErrShape)
			wantNoSeal(t, text, slices.Repeat([][]int{{-1}}, rests), 1, api.ErrShape)
			wantNoSeal(t, text, slices.Repeat([][]int{make([]int, 7)}, rests), 1, api.ErrShape)
		}
	}
	wantNoSeal(t, "é", make([][]int, 1), 1, api.ErrShape)
}

// One rest with a fault is enough, wherever it stands.
func TestSealTellsFaultsOfEachByte(t *testing.T) {
	for long := 1; long <= longest; long++ {
		text := strings.Repeat("x", long)
		for place := range long {
			rest := make([][]int, long)
			rest[place] = make([]int, 7)
			wantNoSeal(t, text, rest, 7, api.ErrFull)
			rest[place] = []int{1, 2, 3}
			wantNoSeal(t, text, rest, 3, api.ErrShape)
			for _, no := range outside {
				rest[place] = []int{no}
				wantNoSeal(t, text, rest, 7, api.ErrRange)
				rest[place] = []int{0, 256, 0, 0, 0, no}
				wantNoSeal(t, text, rest, 7, api.ErrRange)
			}
		}
		for _, no := range noCount {
			wantNoSeal(t, text, make([][]int, long), no, api.ErrRange)
		}
	}
}

// Of several bytes what is wrong with the first is told; of one byte what chapter 9 names first.
func TestSealTellsTheFirstFault(t *testing.T) {
	tooMany, noNumber, tooFewShares := make([]int, 7), []int{-1}, []int{1, 2, 3}
	for _, c := range []struct {
		rest [][]int
		many int
		want api.Errno
	}{
		{[][]int{tooMany, noNumber}, 3, api.ErrFull},
		{[][]int{noNumber, tooMany}, 3, api.ErrRange},
		{[][]int{tooFewShares, noNumber}, 3, api.ErrShape},
		{[][]int{noNumber, tooFewShares}, 3, api.ErrRange},
		{[][]int{tooMany, tooFewShares}, 3, api.ErrFull},
		{[][]int{tooFewShares, tooMany}, 3, api.ErrShape},
		{[][]int{nil, tooFewShares, tooMany}, 3, api.ErrShape},
		{[][]int{nil, nil, tooMany, noNumber}, 3, api.ErrFull},
		// How many is asked at each byte, so the first byte tells it, ahead of what is wrong with the second.
		{[][]int{nil, tooMany}, 0, api.ErrRange},
		{[][]int{tooMany, nil}, 0, api.ErrFull},
		{[][]int{tooMany, nil}, 8, api.ErrFull},
		{[][]int{tooFewShares, tooMany}, 0, api.ErrRange},
		{[][]int{slices.Repeat([]int{-1}, 7)}, 0, api.ErrFull},
		{[][]int{{0, 1, 2, 3, -1}}, 3, api.ErrRange},
	} {
		wantNoSeal(t, "abcd"[:len(c.rest)], c.rest, c.many, c.want)
	}
}

// S1: Open.

func TestOpen(t *testing.T) {
	for _, c := range []struct {
		l    [][]api.Share
		need int
		want answer
	}{
		{allFlat(1, 97), 1, is("a")},
		{allFlat(3, 97, 98), 2, is("ab")},
		{[][]api.Share{points(1, 102, 2, 107)}, 2, is("a")},
		{[][]api.Share{points(1, 102, 2, 107)}, 1, is("f")},
		{[][]api.Share{points(2, 107, 1, 102), points(3, 95, 1, 97)}, 2, is("ab")},
		{[][]api.Share{points(3, 220, 0, 173, 7, 249), points(5, 87, 6, 236, 18, 177, 0, 102, 2, 253)}, 2, is("\xad\x71")},
		// Only the first ones are joined.
		{[][]api.Share{points(1, 97, 2, 97, 3, 0), points(1, 98, 2, 98, 256, 256)}, 2, is("ab")},
		// At 0 it stands itself.
		{[][]api.Share{points(0, 97, 2, 5), points(9, 4, 0, 98)}, 2, is("ab")},
		{allFlat(7, 0, 255, 0), 7, is("\x00\xff\x00")},
		{allFlat(1, 0xc3, 0xa9), 1, is("é")},
		{allFlat(1, 0xff, 0x80), 1, is("\xff\x80")},
	} {
		wantOpen(t, c.l, c.need, c.want)
	}
}

func TestOpenOfEveryByte(t *testing.T) {
	for b := range 256 {
		for need := 1; need <= most; need++ {
			wantOpen(t, allFlat(need, b), need, is(string([]byte{byte(b)})))
		}
	}
}

// 256 is round Prime, but no byte: it is told wherever it stands, and is not taken for 0.
func TestOpenTellsWhatIsNoByte(t *testing.T) {
	for need := 1; need <= most; need++ {
		for long := 1; long <= longest; long++ {
			for place := range long {
				l := allFlat(need, slices.Repeat([]int{255}, long)...)
				wantOpen(t, l, need, is(strings.Repeat("\xff", long)))
				l[place] = flat(256, need)
				wantOpen(t, l, need, wrong(api.ErrShape))
			}
		}
	}
	// None of these shares is 256, but what they tell is; and a share that is 256 may be one of a byte.
	wantOpen(t, [][]api.Share{points(1, 0, 2, 1)}, 2, wrong(api.ErrShape))
	wantOpen(t, [][]api.Share{points(1, 256, 2, 0)}, 2, is("\xff"))
}

// What was sealed is opened by any of the shares, if they are enough.
func TestWhatIsSealedIsOpened(t *testing.T) {
	var s steps
	for long := range longest + 1 {
		for range 40 {
			many := 1 + s.below(most)
			need := 1 + s.below(many)
			text, rest := s.text(long), s.rests(long, need)
			l, err := seal.Seal(text, rest, many)
			if err != nil {
				t.Fatal(err)
			}
			wantOpen(t, l, need, is(text))
			wantOpen(t, l, many, is(text))
			for i := range l {
				slices.Reverse(l[i])
				l[i] = l[i][s.below(many-need+1):]
			}
			wantOpen(t, l, need, is(text))
		}
	}
}

// Shares at any places, and others behind those that are needed.
func TestOpenOfAnyShares(t *testing.T) {
	var s steps
	for long := range longest + 1 {
		for range 60 {
			need := 1 + s.below(most)
			text := s.text(long)
			var l [][]api.Share
			for i := range long {
				var one []api.Share
				rest := s.list(need - 1)
				for k, at := range s.places(need + s.below(most-need+1)) {
					one = append(one, bigShare(int(text[i]), rest, at))
					if k >= need {
						one[k].Is = s.below(prime)
					}
				}
				l = append(l, one)
			}
			wantOpen(t, l, need, is(text))
		}
	}
}

// Of nothing none is joined, so there is nothing that could be wrong with how many are needed.
func TestOpenOfNothing(t *testing.T) {
	for _, need := range append([]int{1, 7}, noCount...) {
		wantOpen(t, nil, need, is(""))
		wantOpen(t, [][]api.Share{}, need, is(""))
		wantOpen(t, allFlat(1, 256)[:0], need, is(""))
	}
}

func TestOpenTellsTooMany(t *testing.T) {
	wantOpen(t, slices.Repeat(allFlat(1, 97), longest), 1, is(strings.Repeat("a", longest)))
	for _, long := range []int{longest + 1, longest + 2, 100, 1 << 20} {
		wantOpen(t, slices.Repeat(allFlat(1, 97), long), 1, wrong(api.ErrFull))
		// It is told ahead of all else.
		wantOpen(t, slices.Repeat(allFlat(1, 97), long), 0, wrong(api.ErrFull))
		wantOpen(t, slices.Repeat(allFlat(1, 256), long), 1, wrong(api.ErrFull))
		wantOpen(t, slices.Repeat(allFlat(1, -1), long), 1, wrong(api.ErrFull))
		wantOpen(t, make([][]api.Share, long), 1, wrong(api.ErrFull))
	}
}

// Faults that one list of shares may have, and what is told of it where two are needed.
func faults() []struct {
	l   []api.Share
	err api.Errno
} {
	return []struct {
		l   []api.Share
		err api.Errno
	}{
		{nil, api.ErrNone},
		{[]api.Share{}, api.ErrNone},
		{flat(97, 1), api.ErrNone},
		{flat(97, 8), api.ErrFull},
		{points(1, 97, 2, -1), api.ErrRange},
		{points(257, 97, 2, 97), api.ErrRange},
		{points(1, 97, 1, 97), api.ErrClash},
		// Those that are not needed have their faults, too.
		{points(1, 97, 2, 97, 3, 257), api.ErrRange},
		{points(1, 97, 2, 97, 2, 5), api.ErrClash},
	}
}

func TestOpenTellsFaultsOfEach(t *testing.T) {
	for _, c := range faults() {
		for long := 1; long <= longest; long++ {
			for place := range long {
				l := allFlat(2, slices.Repeat([]int{97}, long)...)
				l[place] = c.l
				wantOpen(t, l, 2, wrong(c.err))
				for _, no := range noCount {
					wantOpen(t, l, no, wrong(api.ErrRange))
				}
			}
		}
	}
	for _, no := range outside {
		wantOpen(t, [][]api.Share{flat(97, 2), points(1, 97, no, 97)}, 2, wrong(api.ErrRange))
		wantOpen(t, [][]api.Share{flat(97, 2), points(1, no, 2, 97)}, 2, wrong(api.ErrRange))
	}
}

// Of several what is wrong with the first is told; that one is no byte only if nothing is wrong with any.
func TestOpenTellsTheFirstFault(t *testing.T) {
	for _, a := range faults() {
		for _, b := range faults() {
			wantOpen(t, [][]api.Share{a.l, b.l}, 2, wrong(a.err))
			wantOpen(t, [][]api.Share{flat(97, 2), a.l, flat(98, 2), b.l}, 2, wrong(a.err))
		}
		wantOpen(t, [][]api.Share{flat(256, 2), a.l}, 2, wrong(a.err))
		wantOpen(t, [][]api.Share{a.l, flat(256, 2)}, 2, wrong(a.err))
	}
	for _, no := range noCount {
		wantOpen(t, allFlat(2, 256), no, wrong(api.ErrRange))
		wantOpen(t, [][]api.Share{nil}, no, wrong(api.ErrRange))
	}
}

// P2 and P4 of the whole: lists are left as they were, and what lies behind their length is not looked at.

func TestListsAreLeftAsTheyWere(t *testing.T) {
	inner := []int{5, -1, -2, -3, -4, -5, -6, -7}
	rest := [][]int{inner[:1], nil, inner[:1], inner}
	wasInner := slices.Clone(inner)
	shares := points(1, 102, 2, 107, 2, -1, -5, 300, 1, 1, 1, 1, 1, 1, 1, 1)
	wasShares := slices.Clone(shares)
	l := [][]api.Share{shares[:2], shares[:2], shares[2:5], nil}
	for n := range 3 {
		wantSeal(t, "abc"[:n], rest[:n], 2, bigSeal("abc"[:n], rest[:n], 2))
		wantOpen(t, l[:n], 2, is("aa"[:n]))
	}
	wantNoSeal(t, "abcd", rest, 2, api.ErrFull)
	wantOpen(t, l, 2, wrong(api.ErrRange))
	if !slices.Equal(inner, wasInner) || !slices.Equal(shares, wasShares) {
		t.Errorf("a list was written into: %v %v", inner, shares)
	}
	if len(rest[0]) != 1 || rest[1] != nil || len(rest[2]) != 1 || len(rest[3]) != 8 {
		t.Errorf("the list of rests was written into: %v", rest)
	}
	if !same(l, [][]api.Share{shares[:2], shares[:2], shares[2:5], nil}) {
		t.Errorf("the list of shares was written into: %v", l)
	}
}

// What was answered is the caller's: writing into it, and behind it, changes no other list, not even of the same answer.
func TestSealsAreFresh(t *testing.T) {
	rest := [][]int{{5}, {5}, nil}
	first, err := seal.Seal("aab", rest, 3)
	if err != nil {
		t.Fatal(err)
	}
	second, err := seal.Seal("aab", rest, 3)
	if err != nil {
		t.Fatal(err)
	}
	want := copied(second)
	for i := range first {
		whole := first[i][:cap(first[i])]
		for k := range whole {
			whole[k] = api.Share{At: -1, Is: -1}
		}
		if !same(first[i+1:], want[i+1:]) {
			t.Errorf("writing into list %d changed one behind it: %v", i, first)
		}
		first[i] = nil
	}
	if !same(second, want) || !slices.Equal(rest[0], []int{5}) || !slices.Equal(rest[1], []int{5}) {
		t.Errorf("got %v and %v", second, rest)
	}
	wantSeal(t, "aab", rest, 3, want)
}

// A text that was opened stays as it is, whatever becomes of the shares.
func TestTextsAreFresh(t *testing.T) {
	l := allFlat(2, 97, 98)
	text, err := seal.Open(l, 2)
	if err != nil {
		t.Fatal(err)
	}
	l[0][0].Is, l[1] = 0, nil
	if text != "ab" {
		t.Errorf("got %q", text)
	}
}

// What was asked ahead, a fault or not, changes no answer.
func TestAskedAgainAnswersTheSame(t *testing.T) {
	for range 3 {
		wantNoSeal(t, "a", nil, 1, api.ErrShape)
		wantOpen(t, allFlat(1, 256), 1, wrong(api.ErrShape))
		wantSeal(t, "a", [][]int{{5}}, 2, [][]api.Share{points(1, 102, 2, 107)})
		wantOpen(t, [][]api.Share{points(1, 102, 2, 107)}, 2, is("a"))
	}
}
