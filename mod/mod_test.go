package mod_test

import (
	"math"
	"math/big"
	"testing"

	"tuplestead/api"
	"tuplestead/mod"
	"tuplestead/plain"
)

const prime = 257

// outside are no numbers of the chapter.
var outside = []int{math.MinInt, math.MinInt + 1, -1_000_000, -257, -256, -1, 257, 258, 513, 514, 1_000_000, 1 << 32, math.MaxInt - 1, math.MaxInt}

// anyNumbers are some of the chapter's, its edges among them, and some that are none.
var anyNumbers = append([]int{0, 1, 2, 128, 255, 256}, outside...)

// answer is what a call gave.
type answer struct {
	is  int
	err api.Errno
}

func told(is int, err error) answer { return answer{is, plain.Told(err)} }

// bigPower reckons a power by whole numbers of any size.
func bigPower(a, n, by int) int {
	return int(new(big.Int).Exp(big.NewInt(int64(a)), big.NewInt(int64(n)), big.NewInt(int64(by))).Int64())
}

// M1: what is a number.

func TestIsNumber(t *testing.T) {
	for a := range prime {
		if !mod.IsNumber(a) {
			t.Errorf("IsNumber(%d): got false", a)
		}
	}
	for _, no := range outside {
		if mod.IsNumber(no) {
			t.Errorf("IsNumber(%d): got true", no)
		}
	}
}

// M1: Add and Times.

func TestAddAndTimes(t *testing.T) {
	for _, c := range []struct{ a, b, sum, product int }{
		{0, 0, 0, 0},
		{0, 1, 1, 0},
		{1, 1, 2, 1},
		{0, 256, 256, 0},
		{1, 255, 256, 255},
		{1, 256, 0, 256},
		{2, 256, 1, 255},
		{256, 256, 255, 1},
		{128, 129, 0, 64},
		{16, 16, 32, 256},
		{2, 129, 131, 1},
		{109, 212, 64, 235},
		{13, 63, 76, 48},
	} {
		if got := told(mod.Add(c.a, c.b)); got != (answer{is: c.sum}) {
			t.Errorf("Add(%d, %d): got %v, want %d", c.a, c.b, got, c.sum)
		}
		if got := told(mod.Times(c.a, c.b)); got != (answer{is: c.product}) {
			t.Errorf("Times(%d, %d): got %v, want %d", c.a, c.b, got, c.product)
		}
	}
}

// All pairs, counted up step by step: one more in b is a step of 1, or of a, round the prime.
func TestAddAndTimesOfAll(t *testing.T) {
	for a := range prime {
		sum, product := a, 0
		for b := range prime {
			if got := told(mod.Add(a, b)); got != (answer{is: sum}) {
				t.Fatalf("Add(%d, %d): got %v, want %d", a, b, got, sum)
			}
			if got := told(mod.Times(a, b)); got != (answer{is: product}) {
				t.Fatalf("Times(%d, %d): got %v, want %d", a, b, got, product)
			}
			if sum++; sum == prime {
				sum = 0
			}
			if product += a; product >= prime {
				product -= prime
			}
		}
	}
}

func TestAddAndTimesTellFaults(t *testing.T) {
	want := answer{err: api.ErrRange}
	for _, no := range outside {
		for _, other := range anyNumbers {
			for _, c := range [][2]int{{no, other}, {other, no}} {
				if got := told(mod.Add(c[0], c[1])); got != want {
					t.Errorf("Add(%d, %d): got %v, want %v", c[0], c[1], got, want)
				}
				if got := told(mod.Times(c[0], c[1])); got != want {
					t.Errorf("Times(%d, %d): got %v, want %v", c[0], c[1], got, want)
				}
			}
		}
	}
}

// M1: Inverse.

func TestInverse(t *testing.T) {
	for _, c := range []struct{ a, want int }{
		{1, 1}, {2, 129}, {3, 86}, {4, 193}, {16, 241}, {64, 253}, {128, 255}, {129, 2}, {255, 128}, {256, 256},
	} {
		if got := told(mod.Inverse(c.a)); got != (answer{is: c.want}) {
			t.Errorf("Inverse(%d): got %v, want %d", c.a, got, c.want)
		}
	}
}

func TestEachButNoughtHasItsOtherHalf(t *testing.T) {
	for a := 1; a < prime; a++ {
		got := told(mod.Inverse(a))
		if got.err != api.OK || got.is < 1 || got.is >= prime || a*got.is%prime != 1 {
			t.Errorf("Inverse(%d): got %v, of which the product is not 1", a, got)
		}
		if one := told(mod.Times(a, got.is)); one != (answer{is: 1}) {
			t.Errorf("Times(%d, %d): got %v, want 1", a, got.is, one)
		}
		if back := told(mod.Inverse(got.is)); back != (answer{is: a}) {
			t.Errorf("Inverse(%d): got %v, want %d", got.is, back, a)
		}
	}
}

func TestInverseTellsFaults(t *testing.T) {
	if got, want := told(mod.Inverse(0)), (answer{err: api.ErrNone}); got != want {
		t.Errorf("Inverse(0): got %v, want %v", got, want)
	}
	for _, no := range outside {
		if got, want := told(mod.Inverse(no)), (answer{err: api.ErrRange}); got != want {
			t.Errorf("Inverse(%d): got %v, want %v", no, got, want)
		}
	}
}

// M1: Power.

func TestPower(t *testing.T) {
	for _, c := range []struct{ a, n, by, want int }{
		{0, 0, 2, 1},
		{1, 0, 2, 1},
		{0, 0, 1_000_000, 1},
		{999_999, 0, 1_000_000, 1},
		{0, 1, 2, 0},
		{0, 1_000_000, 2, 0},
		{1, 1_000_000, 2, 1},
		{0, 1_000_000, 1_000_000, 0},
		{1, 1_000_000, 1_000_000, 1},
		{999_999, 1, 1_000_000, 999_999},
		{999_999, 2, 1_000_000, 1},
		{999_999, 999_999, 1_000_000, 999_999},
		{999_999, 1_000_000, 1_000_000, 1},
		{999_998, 2, 999_999, 1},
		{10, 5, 1_000_000, 100_000},
		{10, 6, 1_000_000, 0},
		{2, 19, 1_000_000, 524_288},
		{2, 20, 1_000_000, 48_576},
		{2, 3, 8, 0},
		{2, 4, 6, 4},
		{3, 256, 257, 1},
		{3, 128, 257, 256},
		{256, 3, 257, 256},
		{api.Base, api.Prime, api.Group, 1},
		{api.Base, 1, api.Group, 64},
		{1542, 1543, 1543, 1542},
		{109, 996, 257, 35},
		{13, 616, 98, 1},
		{57, 223, 1543, 601},
	} {
		if got := told(mod.Power(c.a, c.n, c.by)); got != (answer{is: c.want}) {
			t.Errorf("Power(%d, %d, %d): got %v, want %d", c.a, c.n, c.by, got, c.want)
		}
	}
}

// All a round some numbers, primes or not, one factor more at each step.
func TestPowerStepByStep(t *testing.T) {
	for _, by := range []int{2, 3, 4, 6, 12, 64, 97, 257, 258} {
		for a := range by {
			want := 1
			for n := range 300 {
				if got := told(mod.Power(a, n, by)); got != (answer{is: want}) {
					t.Fatalf("Power(%d, %d, %d): got %v, want %d", a, n, by, got, want)
				}
				want = want * a % by
			}
		}
	}
}

func TestPowerOfManyGreatOnes(t *testing.T) {
	for _, by := range []int{1543, 65_536, 65_537, 524_288, 720_720, 999_983, 999_999, 1_000_000} {
		for a := by - 1; a >= 0; a -= 1 + by/37 {
			for n := 1_000_000; n >= 0; n -= 9_973 {
				if got, want := told(mod.Power(a, n, by)), (answer{is: bigPower(a, n, by)}); got != want {
					t.Fatalf("Power(%d, %d, %d): got %v, want %v", a, n, by, got, want)
				}
			}
		}
	}
}

func TestPowerTellsFaults(t *testing.T) {
	want := answer{err: api.ErrRange}
	for _, c := range []struct{ a, n, by int }{
		{0, 0, 1},
		{0, 0, 0},
		{0, 0, -1},
		{0, 1, -2},
		{0, 0, 1_000_001},
		{0, 0, math.MinInt},
		{1, 2, math.MaxInt},
		{-1, 1, 2},
		{2, 1, 2},
		{3, 0, 2},
		{257, 1, 257},
		{1543, 1, 1543},
		{1_000_000, 1, 1_000_000},
		{-1, 0, 1_000_000},
		{math.MinInt, 1, 257},
		{math.MaxInt, 1, 257},
		{1, -1, 257},
		{1, 1_000_001, 257},
		{0, math.MinInt, 2},
		{0, math.MaxInt, 2},
		{-1, -1, -1},
		{math.MinInt, math.MinInt, math.MinInt},
		{math.MaxInt, math.MaxInt, math.MaxInt},
	} {
		if got := told(mod.Power(c.a, c.n, c.by)); got != want {
			t.Errorf("Power(%d, %d, %d): got %v, want %v", c.a, c.n, c.by, got, want)
		}
	}
}

// P2 of the whole: what was asked ahead, a fault or not, changes no answer.

func TestAskedAgainAnswersTheSame(t *testing.T) {
	for range 3 {
		for _, no := range outside {
			_, _ = mod.Add(no, 1)
			_, _ = mod.Times(1, no)
			_, _ = mod.Power(no, no, no)
			_, _ = mod.Inverse(no)
		}
		got := []answer{told(mod.Add(200, 100)), told(mod.Times(200, 100)), told(mod.Power(200, 100, 1543)), told(mod.Inverse(200))}
		for i, want := range []int{43, 211, bigPower(200, 100, 1543), 9} {
			if got[i] != (answer{is: want}) {
				t.Errorf("call %d: got %v, want %d", i, got[i], want)
			}
		}
	}
}
