package poly_test

import (
	"math"
	"math/big"
	"slices"
	"testing"

	"tuplestead/api"
	"tuplestead/plain"
	"tuplestead/poly"
)

const (
	prime = 257
	most  = 7
)

// outside are no numbers of chapter 7.
var outside = []int{math.MinInt, math.MinInt + 1, -1_000_000, -257, -256, -1, 257, 258, 513, 514, 1_000_000, 1 << 32, math.MaxInt - 1, math.MaxInt}

// answer is what a call gave.
type answer struct {
	is  int
	err api.Errno
}

func told(is int, err error) answer { return answer{is, plain.Told(err)} }

func is(n int) answer { return answer{is: n} }

func wrong(e api.Errno) answer { return answer{err: e} }

// points is shares in a row, in memory of their own: at, is, at, is ..
func points(n ...int) (l []api.Share) {
	for i := 0; i+1 < len(n); i += 2 {
		l = append(l, api.Share{At: n[i], Is: n[i+1]})
	}
	return l
}

// steps gives numbers that go all over the place, the same ones each time.
type steps uint64

func (s *steps) below(n int) int {
	*s = *s*6364136223846793005 + 1442695040888963407
	return int(uint64(*s) >> 33 % uint64(n))
}

// list of as many numbers of chapter 7.
func (s *steps) list(many int) []int {
	l := make([]int, many)
	for i := range l {
		l[i] = s.below(prime)
	}
	return l
}

// places are as many of them, no two the same.
func (s *steps) places(many int) (l []int) {
	for len(l) < many {
		if at := s.below(prime); !slices.Contains(l, at) {
			l = append(l, at)
		}
	}
	return l
}

// bigAt reckons by whole numbers of any size, power by power, and takes it modulo at the end alone.
func bigAt(p []int, x int) int {
	sum := new(big.Int)
	for k, factor := range p {
		power := new(big.Int).Exp(big.NewInt(int64(x)), big.NewInt(int64(k)), nil)
		sum.Add(sum, power.Mul(power, big.NewInt(int64(factor))))
	}
	return int(sum.Mod(sum, big.NewInt(prime)).Int64())
}

// solved finds the factors of the polynomial through some points, as many factors
// as points: each point is a row of an equation, and rows are taken from each other.
func solved(l []api.Share) []int {
	n := len(l)
	rows := make([][]int, n)
	for i, s := range l {
		power := 1
		for range n {
			rows[i] = append(rows[i], power)
			power = power * s.At % prime
		}
		rows[i] = append(rows[i], s.Is)
	}
	for k := range n {
		lead := k + slices.IndexFunc(rows[k:], func(r []int) bool { return r[k] != 0 })
		rows[k], rows[lead] = rows[lead], rows[k]
		half := 1
		for half*rows[k][k]%prime != 1 {
			half++
		}
		for c := range rows[k] {
			rows[k][c] = rows[k][c] * half % prime
		}
		for i, row := range rows {
			if times := row[k]; i != k {
				for c := range row {
					row[c] = (row[c] + (prime-times)*rows[k][c]) % prime
				}
			}
		}
	}
	p := make([]int, n)
	for k := range p {
		p[k] = rows[k][n]
	}
	return p
}

// P1: At.

func TestAt(t *testing.T) {
	for _, c := range []struct {
		p    []int
		x    int
		want int
	}{
		{nil, 0, 0},
		{nil, 1, 0},
		{nil, 256, 0},
		{[]int{}, 5, 0},
		{[]int{0}, 5, 0},
		{[]int{84}, 26, 84},
		{[]int{256}, 256, 256},
		{[]int{222}, 0, 222},
		{[]int{7, 9, 11}, 0, 7},
		{[]int{7, 9, 11}, 1, 27},
		{[]int{1, 2, 3}, 10, 321 - 257},
		{[]int{3, 2, 1}, 10, 123},
		{[]int{0, 1}, 256, 256},
		{[]int{0, 0, 1}, 256, 1},
		{[]int{0, 0, 1}, 16, 256},
		{[]int{1, 0, 1}, 16, 0},
		{[]int{0, 0, 0, 0, 0, 0, 1}, 2, 64},
		{[]int{0, 0, 0, 0, 0, 0, 1}, 3, 729 % 257},
		{[]int{1, 1, 1, 1, 1, 1, 1}, 1, 7},
		{[]int{1, 1, 1, 1, 1, 1, 1}, 2, 127},
		{[]int{256, 256, 256, 256, 256, 256, 256}, 256, 256},
		{[]int{256, 256, 256, 256, 256, 256, 256}, 1, 250},
		{[]int{59, 226, 70}, 127, 6},
		{[]int{0, 0, 0}, 200, 0},
		{[]int{5, 0, 0, 0, 0, 0, 0}, 200, 5},
	} {
		if got := told(poly.At(c.p, c.x)); got != is(c.want) {
			t.Errorf("At(%v, %d): got %v, want %d", c.p, c.x, got, c.want)
		}
	}
}

// Each factor alone, at every place, and some of them together.
func TestAtEveryPlace(t *testing.T) {
	var s steps
	for many := range most + 1 {
		all := [][]int{slices.Repeat([]int{256}, many), s.list(many), s.list(many)}
		if many > 0 {
			one := make([]int, many)
			one[many-1] = 1
			all = append(all, one)
		}
		for _, p := range all {
			for x := range prime {
				if got, want := told(poly.At(p, x)), bigAt(p, x); got != is(want) {
					t.Fatalf("At(%v, %d): got %v, want %d", p, x, got, want)
				}
			}
		}
	}
}

func TestAtTellsTooManyFactors(t *testing.T) {
	for many := range 20 {
		want := wrong(api.ErrFull)
		if many <= most {
			want = is(many)
		}
		if got := told(poly.At(slices.Repeat([]int{1}, many), 1)); got != want {
			t.Errorf("At of %d factors: got %v, want %v", many, got, want)
		}
	}
	if got := told(poly.At(make([]int, 1<<20), 1)); got != wrong(api.ErrFull) {
		t.Errorf("At of very many factors: got %v, want ErrFull", got)
	}
}

func TestAtTellsFaultsOfNumbers(t *testing.T) {
	for _, no := range outside {
		for many := 1; many <= most; many++ {
			for place := range many {
				p := slices.Repeat([]int{3}, many)
				p[place] = no
				for _, x := range []int{0, 1, 256, no} {
					if got := told(poly.At(p, x)); got != wrong(api.ErrRange) {
						t.Errorf("At(%v, %d): got %v, want ErrRange", p, x, got)
					}
				}
			}
		}
		for _, p := range [][]int{nil, {}, {0}, {1, 2, 3}, slices.Repeat([]int{256}, most)} {
			if got := told(poly.At(p, no)); got != wrong(api.ErrRange) {
				t.Errorf("At(%v, %d): got %v, want ErrRange", p, no, got)
			}
		}
		// Too many are told ahead of what is wrong with one, or with x.
		if got := told(poly.At(slices.Repeat([]int{no}, most+1), no)); got != wrong(api.ErrFull) {
			t.Errorf("At of too many of %d: got %v, want ErrFull", no, got)
		}
	}
}

// P1: Next and Zero.

func TestNextAndZero(t *testing.T) {
	for _, c := range []struct {
		l          []api.Share
		at         int
		next, zero int
	}{
		{points(0, 0), 0, 0, 0},
		{points(1, 80), 154, 80, 80},
		{points(256, 256), 256, 256, 256},
		{points(0, 5), 9, 5, 5},
		{points(1, 1, 2, 2), 3, 3, 0},
		{points(2, 2, 1, 1), 256, 256, 0},
		{points(1, 5, 2, 7), 10, 23, 3},
		{points(1, 5, 2, 5), 77, 5, 5},
		{points(1, 0, 2, 1), 0, 256, 256},
		{points(255, 1, 256, 0), 1, 255, 256},
		{points(0, 256, 256, 0), 1, 255, 256},
		{points(1, 1, 2, 4, 3, 9), 16, 256, 0},
		{points(1, 1, 2, 4, 3, 9), 100, 10_000 % 257, 0},
		{points(3, 10, 1, 2, 2, 5), 4, 17, 1},
		{points(17, 65, 6, 103, 3, 48), 127, 253, 232},
		{points(7, 106, 0, 121, 9, 121), 152, 96, 121},
		{points(1, 1, 2, 2, 3, 3, 4, 4, 5, 5, 6, 6, 7, 7), 200, 200, 0},
		{points(1, 1, 2, 1, 3, 1, 4, 1, 5, 1, 6, 1, 7, 8), 8, 50, 8},
		{points(250, 9, 251, 9, 252, 9, 253, 9, 254, 9, 255, 9, 256, 9), 0, 9, 9},
	} {
		if got := told(poly.Next(c.l, c.at)); got != is(c.next) {
			t.Errorf("Next(%v, %d): got %v, want %d", c.l, c.at, got, c.next)
		}
		if got := told(poly.Zero(c.l)); got != is(c.zero) {
			t.Errorf("Zero(%v): got %v, want %d", c.l, got, c.zero)
		}
	}
}

// One point, and any other place: nothing changes on the way.
func TestOnePointIsTheSameEverywhere(t *testing.T) {
	for at := range prime {
		l := points(at, prime-1-at)
		for _, place := range []int{0, 1, 128, 255, 256, at} {
			if got := told(poly.Next(l, place)); got != is(prime-1-at) {
				t.Fatalf("Next(%v, %d): got %v, want %d", l, place, got, prime-1-at)
			}
		}
	}
}

// At a place that is one of the points stands what that point says.
func TestNextAtThePointsThemselves(t *testing.T) {
	var s steps
	for many := 1; many <= most; many++ {
		for range 50 {
			l := points()
			for _, at := range s.places(many) {
				l = append(l, api.Share{At: at, Is: s.below(prime)})
			}
			for _, point := range l {
				if got := told(poly.Next(l, point.At)); got != is(point.Is) {
					t.Fatalf("Next(%v, %d): got %v, want %d", l, point.At, got, point.Is)
				}
			}
		}
	}
}

// As many points as factors tell it all, and more tell nothing else: wherever they are, in whatever order.
func TestAsManyPointsAsFactorsTellItAll(t *testing.T) {
	var s steps
	for factors := range most + 1 {
		for many := max(factors, 1); many <= most; many++ {
			for range 10 {
				p := s.list(factors)
				l := points()
				for _, at := range s.places(many) {
					l = append(l, api.Share{At: at, Is: bigAt(p, at)})
				}
				for place := range prime {
					if got, want := told(poly.Next(l, place)), bigAt(p, place); got != is(want) {
						t.Fatalf("Next(%v, %d) of %v: got %v, want %d", l, place, p, got, want)
					}
				}
				if got, want := told(poly.Zero(l)), bigAt(p, 0); got != is(want) {
					t.Fatalf("Zero(%v) of %v: got %v, want %d", l, p, got, want)
				}
			}
		}
	}
}

// Any points at all, against factors that are found another way.
func TestNextThroughAnyPoints(t *testing.T) {
	var s steps
	for many := 1; many <= most; many++ {
		for range 200 {
			l := points()
			for _, at := range s.places(many) {
				l = append(l, api.Share{At: at, Is: s.below(prime)})
			}
			p := solved(l)
			for _, place := range []int{0, 1, 2, 128, 255, 256, s.below(prime), s.below(prime)} {
				want := bigAt(p, place)
				if got := told(poly.Next(l, place)); got != is(want) {
					t.Fatalf("Next(%v, %d): got %v, want %d", l, place, got, want)
				}
				if got := told(poly.At(p, place)); got != is(want) {
					t.Fatalf("At(%v, %d): got %v, want %d", p, place, got, want)
				}
			}
			if got := told(poly.Zero(l)); got != is(p[0]) {
				t.Fatalf("Zero(%v): got %v, want %d", l, got, p[0])
			}
		}
	}
}

// All pairs of places: what is between them, and 0, is known by hand.
func TestNextThroughAllPairs(t *testing.T) {
	for a := range prime {
		for b := range prime {
			if a == b {
				continue
			}
			l := points(a, 3*a%prime, b, 3*b%prime)
			if got := told(poly.Next(l, 100)); got != is(300-257) {
				t.Fatalf("Next(%v, 100): got %v, want 43", l, got)
			}
			if got := told(poly.Zero(l)); got != is(0) {
				t.Fatalf("Zero(%v): got %v, want 0", l, got)
			}
		}
	}
}

// faults: points that may not be, and what is wrong with them.
func faults() []struct {
	l    []api.Share
	want api.Errno
} {
	far := api.Share{At: -1, Is: 257}
	return []struct {
		l    []api.Share
		want api.Errno
	}{
		{nil, api.ErrNone},
		{[]api.Share{}, api.ErrNone},
		{points(1, 1, 2, 2)[:0], api.ErrNone},
		{points(1, 1, 2, 2, 3, 3, 4, 4, 5, 5, 6, 6, 7, 7, 8, 8), api.ErrFull},
		{slices.Repeat([]api.Share{far}, 8), api.ErrFull},
		{slices.Repeat(points(1, 1), 8), api.ErrFull},
		{slices.Repeat(points(1, 1), 1<<20), api.ErrFull},
		{points(257, 0), api.ErrRange},
		{points(0, 257), api.ErrRange},
		{points(-1, 0), api.ErrRange},
		{points(0, -1), api.ErrRange},
		{points(-1, -1), api.ErrRange},
		{points(1, 1, 2, 257), api.ErrRange},
		{points(1, 1, 257, 2), api.ErrRange},
		{points(1, 1, 2, 2, 3, 3, 4, 4, 5, 5, 6, 6, 7, -1), api.ErrRange},
		{points(1, 1, 1, 1), api.ErrClash},
		{points(1, 1, 1, 2), api.ErrClash},
		{points(0, 1, 0, 2), api.ErrClash},
		{points(256, 1, 256, 2), api.ErrClash},
		{points(1, 1, 2, 2, 1, 3), api.ErrClash},
		{points(2, 1, 1, 2, 1, 3), api.ErrClash},
		{points(1, 1, 2, 2, 3, 3, 4, 4, 5, 5, 6, 6, 1, 1), api.ErrClash},
		{points(1, 1, 2, 2, 3, 3, 4, 4, 5, 5, 6, 6, 6, 1), api.ErrClash},
		{slices.Repeat(points(9, 9), 7), api.ErrClash},
		// Of one point its range is told ahead.
		{points(1, 1, 1, 257), api.ErrRange},
		{points(1, 1, 1, -1), api.ErrRange},
		{points(257, 1, 257, 1), api.ErrRange},
		{points(-1, 1, -1, 1), api.ErrRange},
		// Two that are the same but for the prime do not clash: the second is none.
		{points(0, 1, 257, 1), api.ErrRange},
		{points(256, 1, -1, 1), api.ErrRange},
		// Of several points the first with a fault.
		{points(1, 1, 1, 2, 257, 1), api.ErrClash},
		{points(1, 1, 1, 2, 3, -1), api.ErrClash},
		{points(1, 1, 257, 1, 1, 2), api.ErrRange},
		{points(1, 257, 2, 2, 2, 2), api.ErrRange},
		{points(5, 5, 6, 6, 5, 1, 6, 300, 5, 5), api.ErrClash},
		{points(5, 5, 6, 300, 5, 1, 6, 6, 5, 5), api.ErrRange},
	}
}

func TestNextAndZeroTellFaults(t *testing.T) {
	for _, c := range faults() {
		shown := c.l[:min(len(c.l), most+1)]
		// What is wrong with a point is told ahead of what is wrong with the place.
		for _, at := range append([]int{0, 1, 5, 256}, outside...) {
			if got := told(poly.Next(c.l, at)); got != wrong(c.want) {
				t.Errorf("Next(%v, %d): got %v, want %v", shown, at, got, c.want)
			}
		}
		if got := told(poly.Zero(c.l)); got != wrong(c.want) {
			t.Errorf("Zero(%v): got %v, want %v", shown, got, c.want)
		}
	}
}

func TestNextTellsFaultsOfThePlace(t *testing.T) {
	for _, no := range outside {
		for many := 1; many <= most; many++ {
			l := points()
			for at := range many {
				l = append(l, api.Share{At: at, Is: 256})
			}
			if got := told(poly.Next(l, no)); got != wrong(api.ErrRange) {
				t.Errorf("Next(%v, %d): got %v, want ErrRange", l, no, got)
			}
		}
	}
}

func TestNextAndZeroTellFaultsOfNumbers(t *testing.T) {
	for _, no := range outside {
		for many := 1; many <= most; many++ {
			for place := range many {
				for _, bad := range []api.Share{{At: no, Is: 1}, {At: 100, Is: no}, {At: no, Is: no}} {
					l := points()
					for at := range many {
						l = append(l, api.Share{At: at, Is: 1})
					}
					l[place] = bad
					if got := told(poly.Next(l, 1)); got != wrong(api.ErrRange) {
						t.Errorf("Next(%v, 1): got %v, want ErrRange", l, got)
					}
					if got := told(poly.Zero(l)); got != wrong(api.ErrRange) {
						t.Errorf("Zero(%v): got %v, want ErrRange", l, got)
					}
				}
			}
		}
	}
}

func TestTwoAtOnePlaceClashWhereverTheyAre(t *testing.T) {
	for many := 2; many <= most; many++ {
		for second := range many {
			for first := range second {
				l := points()
				for at := range many {
					l = append(l, api.Share{At: at, Is: at})
				}
				l[second].At = l[first].At
				if got := told(poly.Next(l, 100)); got != wrong(api.ErrClash) {
					t.Errorf("Next(%v, 100): got %v, want ErrClash", l, got)
				}
				if got := told(poly.Zero(l)); got != wrong(api.ErrClash) {
					t.Errorf("Zero(%v): got %v, want ErrClash", l, got)
				}
			}
		}
	}
}

// P2 and P4 of the whole: lists are left as they were, and what lies behind their length is not looked at.

func TestListsAreLeftAsTheyWere(t *testing.T) {
	p := []int{1, 2, 3, -1, math.MaxInt, 6, 7, 8, 9}
	l := points(3, 10, 1, 2, 2, 5, 2, 5, -1, 999, 6, 6, 7, 7, 8, 8, 9, 9)
	wasP, wasL := slices.Clone(p), slices.Clone(l)
	if got := told(poly.At(p[:3], 10)); got != is(64) {
		t.Errorf("At: got %v, want 64", got)
	}
	if got := told(poly.Next(l[:3], 4)); got != is(17) {
		t.Errorf("Next: got %v, want 17", got)
	}
	if got := told(poly.Zero(l[:3])); got != is(1) {
		t.Errorf("Zero: got %v, want 1", got)
	}
	_, _ = poly.At(p, 1)
	_, _ = poly.At(p[:4], 1)
	_, _ = poly.Next(l, 1)
	_, _ = poly.Next(l[:4], 1)
	_, _ = poly.Zero(l[:5])
	if !slices.Equal(p, wasP) || !slices.Equal(l, wasL) {
		t.Errorf("a list was written into: %v %v", p, l)
	}
}

// What was asked ahead, a fault or not, changes no answer.
func TestAskedAgainAnswersTheSame(t *testing.T) {
	l := points(3, 10, 1, 2, 2, 5)
	for range 3 {
		for _, c := range faults() {
			_, _ = poly.Next(c.l, 4)
			_, _ = poly.Zero(c.l)
			_, _ = poly.At([]int{-1}, 4)
		}
		if a, b, c := told(poly.At([]int{1, 0, 1}, 4)), told(poly.Next(l, 4)), told(poly.Zero(l)); a != is(17) || b != is(17) || c != is(1) {
			t.Errorf("got %v %v %v, want 17 17 1", a, b, c)
		}
	}
}
