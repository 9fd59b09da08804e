package proof_test

import (
	"math"
	"math/big"
	"slices"
	"testing"

	"tuplestead/api"
	"tuplestead/plain"
	"tuplestead/proof"
	"tuplestead/share"
)

const (
	prime = 257
	group = 1543
	base  = 64
	most  = 7
)

// outside are no numbers of chapter 7.
var outside = []int{math.MinInt, math.MinInt + 1, -1_000_000, -1543, -257, -256, -1, 257, 258, 513, 514, 1542, 1_000_000, 1 << 32, math.MaxInt - 1, math.MaxInt}

// noCommit are numbers that no commit may be.
var noCommit = []int{math.MinInt, math.MinInt + 1, -1_000_000, -1543, -1542, -1, 0, 1543, 1544, 3086, 1_000_000, 1 << 32, math.MaxInt - 1, math.MaxInt}

// answer is what Check gave.
type answer struct {
	is  bool
	err api.Errno
}

func told(is bool, err error) answer { return answer{is, plain.Told(err)} }

func is(b bool) answer { return answer{is: b} }

func wrong(e api.Errno) answer { return answer{err: e} }

func at(place, n int) api.Share { return api.Share{At: place, Is: n} }

// steps gives numbers that go all over the place, the same ones each time.
type steps uint64

func (s *steps) below(n int) int {
	*s = *s*6364136223846793005 + 1442695040888963407
	return int(uint64(*s) >> 33 % uint64(n))
}

// list of as many numbers of chapter 7.
func (s *steps) list(many int) []int {
	l := make([]int, many)
	for i := range l {
		l[i] = s.below(prime)
	}
	return l
}

// commits are as many numbers as may be commits, made of no factors.
func (s *steps) commits(many int) []int {
	l := make([]int, many)
	for i := range l {
		l[i] = 1 + s.below(group-1)
	}
	return l
}

// raised multiplies again and again.
func raised(a, n int) int {
	is := 1
	for range n {
		is = is * a % group
	}
	return is
}

// longCommits takes each factor for itself.
func longCommits(p []int) (l []int) {
	for _, factor := range p {
		l = append(l, raised(base, factor))
	}
	return l
}

// valueAt is what a polynomial is at a place, by whole numbers of any size.
func valueAt(p []int, place int) int {
	sum := new(big.Int)
	for k, factor := range p {
		power := new(big.Int).Exp(big.NewInt(int64(place)), big.NewInt(int64(k)), nil)
		sum.Add(sum, power.Mul(power, big.NewInt(int64(factor))))
	}
	return int(sum.Mod(sum, big.NewInt(prime)).Int64())
}

// longProduct does what the chapter says, word by word.
func longProduct(commits []int, place int) int {
	product := 1
	for k, commit := range commits {
		high := new(big.Int).Exp(big.NewInt(int64(place)), big.NewInt(int64(k)), nil)
		high.Mod(high, big.NewInt(prime))
		product = product * raised(commit, int(high.Int64())) % group
	}
	return product
}

func longCheck(commits []int, s api.Share) bool {
	return longProduct(commits, s.At) == raised(base, s.Is)
}

// wantCommits fails where Commit does not give just these.
func wantCommits(t *testing.T, p, want []int) {
	t.Helper()
	if l, err := proof.Commit(p); err != nil || !slices.Equal(l, want) {
		t.Fatalf("Commit(%v): got %v %v, want %v", p, l, err, want)
	}
}

// wantNoCommits fails where Commit does not tell that error, and nothing beside it.
func wantNoCommits(t *testing.T, p []int, want api.Errno) {
	t.Helper()
	if l, err := proof.Commit(p); l != nil || plain.Told(err) != want {
		t.Errorf("Commit(%v): got %v %v, want %v", p[:min(len(p), most+1)], l, err, want)
	}
}

// wantCheck fails where Check does not give just that.
func wantCheck(t *testing.T, commits []int, s api.Share, want answer) {
	t.Helper()
	if got := told(proof.Check(commits, s)); got != want {
		t.Fatalf("Check(%v, %v): got %v, want %v", commits[:min(len(commits), most+1)], s, got, want)
	}
}

// P1: Commit.

func TestCommit(t *testing.T) {
	for _, c := range []struct{ p, want []int }{
		{[]int{0}, []int{1}},
		{[]int{1}, []int{64}},
		{[]int{2}, []int{1010}},
		{[]int{84}, []int{587}},
		{[]int{0, 0, 0}, []int{1, 1, 1}},
		{[]int{242, 73}, []int{897, 203}},
		{[]int{59, 226, 70}, []int{1088, 445, 919}},
		{[]int{144, 124, 224, 144, 61}, []int{1457, 1300, 665, 1457, 264}},
		// One before the last turn: Base, once more, would be 1.
		{[]int{256, 0, 1, 2, 255, 256, 1}, longCommits([]int{256, 0, 1, 2, 255, 256, 1})},
	} {
		wantCommits(t, c.p, c.want)
	}
}

// No two factors have one commit, and each is one that Check takes.
func TestCommitOfEveryFactor(t *testing.T) {
	was := map[int]int{}
	for factor := range prime {
		l, err := proof.Commit([]int{factor})
		if err != nil || len(l) != 1 || l[0] != raised(base, factor) {
			t.Fatalf("Commit of %d: got %v %v, want %d", factor, l, err, raised(base, factor))
		}
		if other, there := was[l[0]]; there {
			t.Fatalf("%d and %d have the commit %d", other, factor, l[0])
		}
		was[l[0]] = factor
		wantCheck(t, l, at(5, factor), is(true))
	}
}

func TestCommitOfAnyFactors(t *testing.T) {
	var s steps
	for many := 1; many <= most; many++ {
		for range 200 {
			p := s.list(many)
			wantCommits(t, p, longCommits(p))
		}
	}
}

func TestCommitTellsThatThereIsNone(t *testing.T) {
	wantNoCommits(t, nil, api.ErrNone)
	wantNoCommits(t, []int{}, api.ErrNone)
	wantNoCommits(t, []int{1, -1}[:0], api.ErrNone)
}

func TestCommitTellsTooMany(t *testing.T) {
	wantCommits(t, make([]int, most), slices.Repeat([]int{1}, most))
	for _, many := range []int{most + 1, most + 2, 20, 1 << 20} {
		wantNoCommits(t, make([]int, many), api.ErrFull)
		wantNoCommits(t, slices.Repeat([]int{-1}, many), api.ErrFull)
	}
}

func TestCommitTellsFaultsOfFactors(t *testing.T) {
	for _, no := range outside {
		for many := 1; many <= most; many++ {
			for place := range many {
				p := slices.Repeat([]int{3}, many)
				p[place] = no
				wantNoCommits(t, p, api.ErrRange)
			}
			wantNoCommits(t, slices.Repeat([]int{no}, many), api.ErrRange)
		}
	}
}

// P1: Check.

func TestCheck(t *testing.T) {
	for _, c := range []struct {
		commits []int
		s       api.Share
		want    bool
	}{
		{[]int{1}, at(0, 0), true},
		{[]int{1}, at(256, 0), true},
		{[]int{1}, at(0, 1), false},
		{[]int{64}, at(9, 1), true},
		{[]int{64}, at(9, 0), false},
		{[]int{892}, at(120, 178), true},
		{[]int{587}, at(241, 194), false},
		{[]int{897, 203}, at(97, 127), true},
		{[]int{121, 1379}, at(162, 39), false},
		{[]int{963, 614, 543}, at(24, 67), true},
		{[]int{1457, 1300, 665, 1457, 264}, at(23, 114), true},
		// At 0 the first one alone counts, whatever the others are: 0, no times, is 1.
		{[]int{1010, 5, 7, 1542}, at(0, 2), true},
		{[]int{1010, 5, 7, 1542}, at(0, 3), false},
		// At 1 all count once.
		{[]int{64, 64, 64}, at(1, 3), true},
		{[]int{64, 64, 64}, at(1, 2), false},
		// 1542 is -1: it counts where the power is odd. 256 is -1 round Prime: 256 * 256 is 1 there.
		{[]int{1542}, at(1, 0), false},
		{[]int{1542, 1542}, at(1, 0), true},
		{[]int{1, 1542}, at(2, 0), true},
		{[]int{1, 1542}, at(3, 0), false},
		{[]int{1, 1, 1542}, at(256, 0), false},
		{[]int{1, 1, 1542}, at(16, 0), true},
		{[]int{1, 1, 1542}, at(17, 0), true},
		{[]int{1, 1, 1542}, at(18, 0), false},
	} {
		wantCheck(t, c.commits, c.s, is(c.want))
	}
}

// A true share is told, a false one caught: of each place just one number is right.
func TestTrueIsToldAndFalseIsCaught(t *testing.T) {
	var s steps
	for many := 1; many <= most; many++ {
		p := s.list(many)
		commits, err := proof.Commit(p)
		if err != nil {
			t.Fatal(err)
		}
		for place := range prime {
			right := valueAt(p, place)
			for n := range prime {
				wantCheck(t, commits, at(place, n), is(n == right))
			}
		}
	}
}

func TestEveryShareThatIsDealtIsTold(t *testing.T) {
	var s steps
	for behind := range most {
		for range 50 {
			secret, rest := s.below(prime), s.list(behind)
			dealt, err := share.Deal(secret, rest, most)
			if err != nil {
				t.Fatal(err)
			}
			commits, err := proof.Commit(append([]int{secret}, rest...))
			if err != nil {
				t.Fatal(err)
			}
			for _, one := range dealt {
				wantCheck(t, commits, one, is(true))
				one.Is = (one.Is + 1 + s.below(prime-1)) % prime
				wantCheck(t, commits, one, is(false))
			}
		}
	}
}

// Commits need not be made of factors: all from 1 to Group - 1 are taken.
func TestCheckOfEveryCommit(t *testing.T) {
	for commit := 1; commit < group; commit++ {
		for _, n := range []int{0, 1, 2, 128, 255, 256} {
			wantCheck(t, []int{commit}, at(77, n), is(commit == raised(base, n)))
			wantCheck(t, []int{1, commit}, at(3, n), is(longCheck([]int{1, commit}, at(3, n))))
		}
	}
}

// With commits of any order it matters that how high one is raised goes round Prime.
func TestCheckOfAnyCommits(t *testing.T) {
	var s steps
	for many := 1; many <= most; many++ {
		for range 300 {
			commits, place, n := s.commits(many), s.below(prime), s.below(prime)
			wantCheck(t, commits, at(place, n), is(longCheck(commits, at(place, n))))
			// The first counts once: by it alone, whatever the others are, n is made right.
			commits[0] = 1
			others := longProduct(commits, place)
			commits[0] = raised(base, n) * raised(others, group-2) % group
			wantCheck(t, commits, at(place, n), is(true))
			wantCheck(t, commits, at(place, (n+1)%prime), is(false))
		}
	}
}

func TestCheckTellsThatThereIsNone(t *testing.T) {
	for _, s := range []api.Share{at(1, 1), at(-1, 1), at(1, -1), at(math.MaxInt, math.MinInt)} {
		wantCheck(t, nil, s, wrong(api.ErrNone))
		wantCheck(t, []int{}, s, wrong(api.ErrNone))
		wantCheck(t, []int{1, 0}[:0], s, wrong(api.ErrNone))
	}
}

func TestCheckTellsTooMany(t *testing.T) {
	wantCheck(t, slices.Repeat([]int{1}, most), at(1, 0), is(true))
	for _, many := range []int{most + 1, most + 2, 20, 1 << 20} {
		for _, s := range []api.Share{at(1, 0), at(-1, 0), at(1, 257)} {
			wantCheck(t, slices.Repeat([]int{1}, many), s, wrong(api.ErrFull))
			wantCheck(t, make([]int, many), s, wrong(api.ErrFull))
		}
	}
}

// A commit is told wherever it stands, though at 0 the others would not count.
func TestCheckTellsFaultsOfCommits(t *testing.T) {
	for _, no := range noCommit {
		for many := 1; many <= most; many++ {
			for place := range many {
				commits := slices.Repeat([]int{64}, many)
				commits[place] = no
				for _, s := range []api.Share{at(0, 1), at(1, 1), at(-1, 1), at(1, 257)} {
					wantCheck(t, commits, s, wrong(api.ErrRange))
				}
			}
		}
	}
	wantCheck(t, []int{1542}, at(1, 1), is(false))
	wantCheck(t, []int{1}, at(1, 0), is(true))
}

func TestCheckTellsFaultsOfTheShare(t *testing.T) {
	for _, no := range outside {
		for many := 1; many <= most; many++ {
			commits := slices.Repeat([]int{1}, many)
			for _, s := range []api.Share{at(no, 0), at(1, no), at(0, no), at(no, no), at(no, 256)} {
				wantCheck(t, commits, s, wrong(api.ErrRange))
			}
		}
	}
	wantCheck(t, []int{1, 1}, at(256, 256), is(false))
	wantCheck(t, []int{1, 1}, at(256, 0), is(true))
}

// P2 and P4 of the whole: lists are left as they were, and what lies behind their length is not looked at.

func TestListsAreLeftAsTheyWere(t *testing.T) {
	p := []int{242, 73, -1, math.MaxInt, 5, 6, 7, 8}
	commits := []int{897, 203, 0, -1, 5, 6, 7, 8}
	wasP, wasCommits := slices.Clone(p), slices.Clone(commits)
	wantCommits(t, p[:2], []int{897, 203})
	wantCheck(t, commits[:2], at(97, 127), is(true))
	for n := range p {
		_, _ = proof.Commit(p[:n])
		_, _ = proof.Check(commits[:n], at(97, 127))
	}
	if !slices.Equal(p, wasP) || !slices.Equal(commits, wasCommits) {
		t.Errorf("a list was written into: %v %v", p, commits)
	}
}

// What was answered is the caller's: writing into it, and behind it, changes no other.
func TestCommitsAreFresh(t *testing.T) {
	p := []int{242, 73}
	first, err := proof.Commit(p)
	if err != nil {
		t.Fatal(err)
	}
	second, err := proof.Commit(p)
	if err != nil {
		t.Fatal(err)
	}
	for i := range first[:cap(first)] {
		first[:cap(first)][i] = -1
	}
	if !slices.Equal(p, []int{242, 73}) || !slices.Equal(second, []int{897, 203}) {
		t.Errorf("got %v and %v", p, second)
	}
	wantCommits(t, p, []int{897, 203})
}

// What was asked ahead, a fault or not, changes no answer.
func TestAskedAgainAnswersTheSame(t *testing.T) {
	for range 3 {
		wantNoCommits(t, []int{-1}, api.ErrRange)
		wantCheck(t, []int{0}, at(1, 1), wrong(api.ErrRange))
		wantCommits(t, []int{242, 73}, []int{897, 203})
		wantCheck(t, []int{897, 203}, at(97, 127), is(true))
		wantCheck(t, []int{897, 203}, at(97, 128), is(false))
	}
}
