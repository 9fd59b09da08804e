package share_test

import (
	"math"
	"math/big"
	"slices"
	"testing"

	"tuplestead/api"
	"tuplestead/plain"
	"tuplestead/share"
)

const (
	prime = 257
	most  = 7
)

// outside are no numbers of chapter 7.
var outside = []int{math.MinInt, math.MinInt + 1, -1_000_000, -257, -256, -1, 257, 258, 513, 514, 1_000_000, 1 << 32, math.MaxInt - 1, math.MaxInt}

// noCount are numbers of shares that may not be.
var noCount = []int{math.MinInt, math.MinInt + 1, -257, -7, -1, 0, 8, 9, 256, 257, 1 << 32, math.MaxInt - 1, math.MaxInt}

// answer is what Join gave.
type answer struct {
	is  int
	err api.Errno
}

func told(is int, err error) answer { return answer{is, plain.Told(err)} }

func is(n int) answer { return answer{is: n} }

func wrong(e api.Errno) answer { return answer{err: e} }

// points is shares in a row, in memory of their own: at, is, at, is ..
func points(n ...int) (l []api.Share) {
	for i := 0; i+1 < len(n); i += 2 {
		l = append(l, api.Share{At: n[i], Is: n[i+1]})
	}
	return l
}

// steps gives numbers that go all over the place, the same ones each time.
type steps uint64

func (s *steps) below(n int) int {
	*s = *s*6364136223846793005 + 1442695040888963407
	return int(uint64(*s) >> 33 % uint64(n))
}

// list of as many numbers of chapter 7.
func (s *steps) list(many int) []int {
	l := make([]int, many)
	for i := range l {
		l[i] = s.below(prime)
	}
	return l
}

// mixed is the same shares, in another order.
func (s *steps) mixed(l []api.Share) []api.Share {
	l = slices.Clone(l)
	for i := range l {
		j := i + s.below(len(l)-i)
		l[i], l[j] = l[j], l[i]
	}
	return l
}

// bigShares reckons by whole numbers of any size, power by power, and takes it modulo at the end alone.
func bigShares(secret int, rest []int, many int) (l []api.Share) {
	for at := 1; at <= many; at++ {
		sum := big.NewInt(int64(secret))
		for k, factor := range rest {
			power := new(big.Int).Exp(big.NewInt(int64(at)), big.NewInt(int64(k+1)), nil)
			sum.Add(sum, power.Mul(power, big.NewInt(int64(factor))))
		}
		l = append(l, api.Share{At: at, Is: int(sum.Mod(sum, big.NewInt(prime)).Int64())})
	}
	return l
}

// wantShares fails where Deal does not give just these.
func wantShares(t *testing.T, secret int, rest []int, many int, want []api.Share) {
	t.Helper()
	if l, err := share.Deal(secret, rest, many); err != nil || !slices.Equal(l, want) {
		t.Fatalf("Deal(%d, %v, %d): got %v %v, want %v", secret, rest, many, l, err, want)
	}
}

// wantNoShares fails where Deal does not tell that error, and nothing beside it.
func wantNoShares(t *testing.T, secret int, rest []int, many int, want api.Errno) {
	t.Helper()
	if l, err := share.Deal(secret, rest, many); l != nil || plain.Told(err) != want {
		t.Errorf("Deal(%d, %v, %d): got %v %v, want %v", secret, rest[:min(len(rest), most+1)], many, l, err, want)
	}
}

// S1: Deal.

func TestDeal(t *testing.T) {
	for _, c := range []struct {
		secret int
		rest   []int
		many   int
		want   []api.Share
	}{
		{0, nil, 1, points(1, 0)},
		{42, nil, 1, points(1, 42)},
		{256, []int{}, 3, points(1, 256, 2, 256, 3, 256)},
		{9, nil, 7, points(1, 9, 2, 9, 3, 9, 4, 9, 5, 9, 6, 9, 7, 9)},
		{42, []int{5}, 2, points(1, 47, 2, 52)},
		{42, []int{5}, 3, points(1, 47, 2, 52, 3, 57)},
		{0, []int{1}, 7, points(1, 1, 2, 2, 3, 3, 4, 4, 5, 5, 6, 6, 7, 7)},
		{0, []int{256}, 3, points(1, 256, 2, 255, 3, 254)},
		{250, []int{7}, 2, points(1, 0, 2, 7)},
		{1, []int{2, 3}, 3, points(1, 6, 2, 17, 3, 34)},
		{3, []int{0, 0}, 4, points(1, 3, 2, 3, 3, 3, 4, 3)},
		{0, []int{0, 0, 0, 0, 0, 1}, 7, points(1, 1, 2, 64, 3, 215, 4, 241, 5, 205, 6, 139, 7, 200)},
		{256, []int{256, 256, 256, 256, 256, 256}, 7, bigShares(256, slices.Repeat([]int{256}, 6), 7)},
	} {
		wantShares(t, c.secret, c.rest, c.many, c.want)
	}
}

// All lengths of rest, and all that many may be with them.
func TestDealOfAnyNumbers(t *testing.T) {
	var s steps
	for behind := range most {
		for many := behind + 1; many <= most; many++ {
			for range 100 {
				secret, rest := s.below(prime), s.list(behind)
				wantShares(t, secret, rest, many, bigShares(secret, rest, many))
			}
		}
	}
}

func TestDealOfEverySecret(t *testing.T) {
	rest := []int{200, 31, 0, 256}
	for secret := range prime {
		wantShares(t, secret, rest, most, bigShares(secret, rest, most))
		wantShares(t, secret, nil, 1, points(1, secret))
	}
}

func TestDealTellsFaultsOfNumbers(t *testing.T) {
	for _, no := range outside {
		// The secret is told ahead of all else.
		for behind := range most + 3 {
			for _, many := range append([]int{1, 3, most}, noCount...) {
				wantNoShares(t, no, make([]int, behind), many, api.ErrRange)
				wantNoShares(t, no, slices.Repeat([]int{no}, behind), many, api.ErrRange)
			}
		}
		for behind := 1; behind < most; behind++ {
			for place := range behind {
				rest := slices.Repeat([]int{3}, behind)
				rest[place] = no
				// One of rest is told ahead of many, and of there being too few shares.
				for _, many := range append([]int{1, behind, behind + 1, most}, noCount...) {
					wantNoShares(t, 1, rest, many, api.ErrRange)
				}
			}
		}
	}
}

func TestDealTellsTooManyBehindTheSecret(t *testing.T) {
	wantShares(t, 1, make([]int, most-1), most, points(1, 1, 2, 1, 3, 1, 4, 1, 5, 1, 6, 1, 7, 1))
	for _, behind := range []int{most, most + 1, 20, 1 << 20} {
		for _, many := range append([]int{1, most}, noCount...) {
			wantNoShares(t, 1, make([]int, behind), many, api.ErrFull)
			wantNoShares(t, 1, slices.Repeat([]int{-1}, behind), many, api.ErrFull)
		}
	}
}

func TestDealTellsFaultsOfMany(t *testing.T) {
	for _, many := range noCount {
		// Below 1 there would be too few shares, too: the range is told ahead.
		for behind := range most {
			wantNoShares(t, 1, make([]int, behind), many, api.ErrRange)
		}
	}
}

func TestDealTellsTooFewShares(t *testing.T) {
	for behind := range most {
		for many := 1; many <= behind; many++ {
			wantNoShares(t, 1, slices.Repeat([]int{2}, behind), many, api.ErrShape)
		}
		if _, err := share.Deal(1, slices.Repeat([]int{2}, behind), behind+1); err != nil {
			t.Errorf("Deal of one share more than the %d behind the secret: got %v", behind, err)
		}
	}
}

// S1: Join.

func TestJoin(t *testing.T) {
	for _, c := range []struct {
		l    []api.Share
		need int
		want int
	}{
		{points(1, 42), 1, 42},
		{points(256, 256), 1, 256},
		{points(0, 7), 1, 7},
		{points(1, 47, 2, 52), 2, 42},
		{points(2, 52, 1, 47), 2, 42},
		{points(1, 47, 2, 52, 3, 57), 2, 42},
		{points(1, 47, 2, 52, 3, 57), 3, 42},
		{points(3, 34, 1, 6, 2, 17), 3, 1},
		{points(255, 1, 256, 0), 2, 256},
		// The first ones alone, whatever the others say.
		{points(1, 47, 2, 52, 3, 200, 4, 0), 1, 47},
		{points(1, 47, 2, 52, 3, 200, 4, 0), 2, 42},
		{points(3, 200, 1, 47, 2, 52), 1, 200},
		{points(1, 5, 0, 99), 1, 5},
		{points(1, 5, 0, 99), 2, 99},
		{points(1, 1, 2, 4, 3, 9, 4, 16, 5, 25, 6, 36, 7, 49), 7, 0},
		{points(1, 1, 2, 4, 3, 9, 4, 16, 5, 25, 6, 36, 7, 49), 3, 0},
		{points(1, 1, 2, 4, 3, 9, 4, 16, 5, 25, 6, 36, 7, 49), 2, 255},
		{points(1, 1, 2, 4, 3, 9, 4, 16, 5, 25, 6, 36, 7, 49), 1, 1},
	} {
		if got := told(share.Join(c.l, c.need)); got != is(c.want) {
			t.Errorf("Join(%v, %d): got %v, want %d", c.l, c.need, got, c.want)
		}
	}
}

// So many tell it, whichever they are and in whatever order; more tell nothing else.
func TestSoManyTellIt(t *testing.T) {
	var s steps
	for behind := range most {
		for many := behind + 1; many <= most; many++ {
			for range 30 {
				secret := s.below(prime)
				dealt, err := share.Deal(secret, s.list(behind), many)
				if err != nil {
					t.Fatal(err)
				}
				l := s.mixed(dealt)
				for need := behind + 1; need <= many; need++ {
					if got := told(share.Join(l, need)); got != is(secret) {
						t.Fatalf("Join(%v, %d): got %v, want %d", l, need, got, secret)
					}
				}
				// A lie behind those that are needed is not heard.
				for i := behind + 1; i < many; i++ {
					l[i].Is = s.below(prime)
				}
				if got := told(share.Join(l, behind+1)); got != is(secret) {
					t.Fatalf("Join(%v, %d): got %v, want %d", l, behind+1, got, secret)
				}
			}
		}
	}
}

// One fewer tells nothing: whichever one share is known, each secret goes with it, by one factor.
func TestOneFewerTellsNothing(t *testing.T) {
	type known struct {
		share  api.Share
		secret int
	}
	ways := map[known]int{}
	for secret := range prime {
		for factor := range prime {
			l, err := share.Deal(secret, []int{factor}, 2)
			if err != nil {
				t.Fatal(err)
			}
			for _, one := range l {
				ways[known{one, secret}]++
			}
		}
	}
	for secret := range prime {
		for n := range prime {
			for at := 1; at <= 2; at++ {
				if got := ways[known{api.Share{At: at, Is: n}, secret}]; got != 1 {
					t.Fatalf("the share {%d %d} goes with the secret %d in %d ways, want 1", at, n, secret, got)
				}
			}
		}
	}
}

// faults: shares that may not be, and what is wrong with them.
func faults() []struct {
	l    []api.Share
	want api.Errno
} {
	return []struct {
		l    []api.Share
		want api.Errno
	}{
		{nil, api.ErrNone},
		{[]api.Share{}, api.ErrNone},
		{points(1, 1, 2, 2)[:0], api.ErrNone},
		{points(1, 1, 2, 2, 3, 3, 4, 4, 5, 5, 6, 6, 7, 7, 8, 8), api.ErrFull},
		{slices.Repeat(points(-1, 257), 8), api.ErrFull},
		{slices.Repeat(points(1, 1), 1<<20), api.ErrFull},
		{points(257, 0), api.ErrRange},
		{points(0, 257), api.ErrRange},
		{points(-1, 0), api.ErrRange},
		{points(0, -1), api.ErrRange},
		{points(1, 1, 257, 2), api.ErrRange},
		{points(1, 1, 2, 2, 3, 3, 4, 4, 5, 5, 6, 6, 7, -1), api.ErrRange},
		{points(1, 1, 1, 1), api.ErrClash},
		{points(0, 1, 0, 2), api.ErrClash},
		{points(256, 1, 256, 2), api.ErrClash},
		{points(1, 1, 2, 2, 3, 3, 4, 4, 5, 5, 6, 6, 1, 1), api.ErrClash},
		{slices.Repeat(points(9, 9), 7), api.ErrClash},
		{points(1, 1, 1, 257), api.ErrRange},
		{points(1, 1, 257, 1, 1, 2), api.ErrRange},
		{points(1, 1, 1, 2, 257, 1), api.ErrClash},
	}
}

// Faults of all that are there, joined or not, are told; ahead of there being too few.
func TestJoinTellsFaultsOfShares(t *testing.T) {
	for _, c := range faults() {
		for need := 1; need <= most; need++ {
			if got := told(share.Join(c.l, need)); got != wrong(c.want) {
				t.Errorf("Join(%v, %d): got %v, want %v", c.l[:min(len(c.l), most+1)], need, got, c.want)
			}
		}
	}
}

func TestJoinTellsFaultsOfNumbers(t *testing.T) {
	for _, no := range outside {
		for many := 1; many <= most; many++ {
			for place := range many {
				for _, bad := range []api.Share{{At: no, Is: 1}, {At: 100, Is: no}, {At: no, Is: no}} {
					l := bigShares(1, nil, many)
					l[place] = bad
					for need := 1; need <= most; need++ {
						if got := told(share.Join(l, need)); got != wrong(api.ErrRange) {
							t.Errorf("Join(%v, %d): got %v, want ErrRange", l, need, got)
						}
					}
				}
			}
		}
	}
}

// What need is is told ahead of all else.
func TestJoinTellsFaultsOfNeed(t *testing.T) {
	for _, need := range noCount {
		for _, c := range faults() {
			if got := told(share.Join(c.l, need)); got != wrong(api.ErrRange) {
				t.Errorf("Join(%v, %d): got %v, want ErrRange", c.l[:min(len(c.l), most+1)], need, got)
			}
		}
		for many := 1; many <= most; many++ {
			if got := told(share.Join(bigShares(1, nil, many), need)); got != wrong(api.ErrRange) {
				t.Errorf("Join of %d, by %d: got %v, want ErrRange", many, need, got)
			}
		}
	}
}

func TestJoinTellsThatThereAreFewer(t *testing.T) {
	for many := 1; many <= most; many++ {
		for need := 1; need <= most; need++ {
			want := wrong(api.ErrNone)
			if need <= many {
				want = is(77)
			}
			if got := told(share.Join(bigShares(77, nil, many), need)); got != want {
				t.Errorf("Join of %d, by %d: got %v, want %v", many, need, got, want)
			}
		}
	}
}

// P2 and P4 of the whole: lists are left as they were, and what lies behind their length is not looked at.

func TestListsAreLeftAsTheyWere(t *testing.T) {
	rest := []int{2, 3, -1, math.MaxInt, 5, 6, 7, 8}
	l := points(3, 34, 1, 6, 2, 17, 2, 5, -1, 999, 6, 6, 7, 7, 8, 8)
	wasRest, wasL := slices.Clone(rest), slices.Clone(l)
	wantShares(t, 1, rest[:2], 3, points(1, 6, 2, 17, 3, 34))
	wantShares(t, 9, rest[:0], 1, points(1, 9))
	if got := told(share.Join(l[:3], 3)); got != is(1) {
		t.Errorf("Join: got %v, want 1", got)
	}
	if got := told(share.Join(l[:3], 4)); got != wrong(api.ErrNone) {
		t.Errorf("Join: got %v, want ErrNone", got)
	}
	for n := range l {
		_, _ = share.Deal(1, rest[:n], 7)
		_, _ = share.Join(l[:n], 2)
	}
	if !slices.Equal(rest, wasRest) || !slices.Equal(l, wasL) {
		t.Errorf("a list was written into: %v %v", rest, l)
	}
}

// What was dealt is the caller's: writing into it, and behind it, changes no other.
func TestSharesAreFresh(t *testing.T) {
	first, err := share.Deal(1, []int{2, 3}, 3)
	if err != nil {
		t.Fatal(err)
	}
	second, err := share.Deal(1, []int{2, 3}, 3)
	if err != nil {
		t.Fatal(err)
	}
	for i := range first[:cap(first)] {
		first[:cap(first)][i] = api.Share{At: -1, Is: -1}
	}
	want := points(1, 6, 2, 17, 3, 34)
	if !slices.Equal(second, want) {
		t.Errorf("got %v, want %v", second, want)
	}
	wantShares(t, 1, []int{2, 3}, 3, want)
}

// What was asked ahead, a fault or not, changes no answer.
func TestAskedAgainAnswersTheSame(t *testing.T) {
	for range 3 {
		for _, c := range faults() {
			_, _ = share.Join(c.l, 2)
			_, _ = share.Deal(-1, nil, 1)
			_, _ = share.Deal(1, []int{2, 3}, 2)
		}
		wantShares(t, 1, []int{2, 3}, 3, points(1, 6, 2, 17, 3, 34))
		if got := told(share.Join(points(3, 34, 1, 6, 2, 17), 3)); got != is(1) {
			t.Errorf("Join: got %v, want 1", got)
		}
	}
}
