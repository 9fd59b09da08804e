package vote_test

import (
	"math"
	"slices"
	"strconv"
	"strings"
	"testing"
	"unsafe"

	"tuplestead/api"
	"tuplestead/plain"
	"tuplestead/vote"
)

// noCopies are numbers of which there may not be as many copies.
var noCopies = []int{math.MinInt, math.MinInt + 1, -1 << 32, -1<<32 + 1, -1_000_000, -256, -8, -7, -3, -2, -1, 0, 8, 9, 10, 30, 256, 257, 1_000_000, 1 << 32, 1<<32 + 1, math.MaxInt - 1, math.MaxInt}

// said is what each of several says, by letters: a dot is the empty text.
func said(letters string) (l []string) {
	for _, c := range letters {
		if c == '.' {
			l = append(l, "")
			continue
		}
		l = append(l, string(c))
	}
	return l
}

func wantFaults(t *testing.T, n, want int, wrong api.Errno) {
	t.Helper()
	if got, err := vote.Faults(n); got != want || plain.Told(err) != wrong {
		t.Errorf("Faults(%d): got %d, %v, want %d, %v", n, got, err, want, wrong)
	}
}

func wantWin(t *testing.T, l []string, need int, want string) {
	t.Helper()
	if got, err := vote.Win(l, need); got != want || err != nil {
		t.Errorf("Win(%q, %d): got %q, %v, want %q", l, need, got, err, want)
	}
}

func wantNoWin(t *testing.T, l []string, need int, wrong api.Errno) {
	t.Helper()
	if got, err := vote.Win(l, need); got != "" || plain.Told(err) != wrong {
		t.Errorf("Win(%q, %d): got %q, %v, want %v", l, need, got, err, wrong)
	}
}

func wantMost(t *testing.T, l []string, want int, wrong api.Errno) {
	t.Helper()
	if got, err := vote.Most(l); got != want || plain.Told(err) != wrong {
		t.Errorf("Most(%q): got %d, %v, want %d, %v", l, got, err, want, wrong)
	}
}

// V1: a third of n less one, rounded down.
func TestFaults(t *testing.T) {
	for i, want := range []int{0, 0, 0, 1, 1, 1, 2} {
		wantFaults(t, i+1, want, api.OK)
	}
}

func TestFaultsTellsNumbers(t *testing.T) {
	for _, n := range noCopies {
		wantFaults(t, n, 0, api.ErrRange)
	}
}

// V1: that which at least need say.
func TestWin(t *testing.T) {
	for _, c := range []struct {
		letters string
		need    int
		want    string
	}{
		{"a", 1, "a"},
		{"ab", 1, "a"},
		{"ba", 1, "b"},
		{"aa", 1, "a"},
		{"aa", 2, "a"},
		{"aba", 2, "a"},
		{"bab", 2, "b"},
		{"baa", 2, "a"},
		{"aab", 2, "a"},
		{"aaa", 2, "a"},
		{"abaca", 3, "a"},
		{"bbacaca", 3, "a"},
		{"abababa", 4, "a"},
		{"aaaaaaa", 1, "a"},
		{"aaaaaaa", 6, "a"},
		{"aaaaaaa", 7, "a"},
		{"baaaaaa", 6, "a"},
		{"aaaaaab", 6, "a"},
		{"abcdefg", 1, "a"},
		{"abcdeff", 2, "f"},
	} {
		wantWin(t, said(c.letters), c.need, c.want)
	}
}

// V1: of several it is neither that which is said first, nor that which is said most.
func TestTheNeedthStandsTheFirst(t *testing.T) {
	for _, c := range []struct {
		letters string
		need    int
		want    string
	}{
		{"abba", 2, "b"},
		{"abab", 2, "a"},
		{"baab", 2, "a"},
		{"abbaaaa", 2, "b"},
		{"bbaaaaa", 2, "b"},
		{"aabbbbb", 2, "a"},
		{"abcbca", 2, "b"},
		{"abccba", 2, "c"},
		{"abbbaa", 3, "b"},
		{"aabbba", 3, "b"},
		{"aabbab", 3, "a"},
		{"baaabbb", 3, "a"},
		{"cabbca.", 2, "b"},
		{"a..a", 2, ""},
		{".aa.", 2, "a"},
	} {
		wantWin(t, said(c.letters), c.need, c.want)
	}
}

func TestNoneWins(t *testing.T) {
	for _, c := range []struct {
		letters string
		need    int
	}{
		{"", 1},
		{"", 7},
		{"a", 2},
		{"a", 7},
		{"ab", 2},
		{"abc", 2},
		{"aab", 3},
		{"abab", 3},
		{"abcdefg", 2},
		{"aaabbb", 4},
		{"aaaaaa", 7},
		{"aaaaaab", 7},
		{"......", 7},
		{"..a", 3},
	} {
		wantNoWin(t, said(c.letters), c.need, api.ErrNone)
	}
	for need := 1; need <= api.MaxCopies; need++ {
		wantNoWin(t, nil, need, api.ErrNone)
		wantNoWin(t, []string{}, need, api.ErrNone)
	}
}

// The empty text is something that is said, too.
func TestTheEmptyTextIsSaid(t *testing.T) {
	wantWin(t, said("."), 1, "")
	wantWin(t, said("a.."), 2, "")
	wantWin(t, said("......."), 7, "")
	wantMost(t, said("."), 1, api.OK)
	wantMost(t, said(".a."), 2, api.OK)
	wantMost(t, said("......."), 7, api.OK)
	wantNoWin(t, said("........"), 1, api.ErrFull)
	wantMost(t, said("........"), 0, api.ErrFull)
}

func TestMost(t *testing.T) {
	wantMost(t, nil, 0, api.OK)
	wantMost(t, []string{}, 0, api.OK)
	for letters, want := range map[string]int{
		"a":       1,
		"ab":      1,
		"aa":      2,
		"aba":     2,
		"abba":    2,
		"aaab":    3,
		"baaa":    3,
		"abcbb":   3,
		"abcdefg": 1,
		"gfedcba": 1,
		"aabbcca": 3,
		"aaabbbb": 4,
		"bbbbaaa": 4,
		"aaaaaab": 6,
		"aaaaaaa": 7,
	} {
		wantMost(t, said(letters), want, api.OK)
	}
}

func TestWinTellsNumbers(t *testing.T) {
	for _, need := range noCopies {
		wantNoWin(t, nil, need, api.ErrRange)
		wantNoWin(t, said("a"), need, api.ErrRange)
		wantNoWin(t, said("aaaaaaa"), need, api.ErrRange)
	}
}

func TestTooManySayIt(t *testing.T) {
	for _, many := range []int{8, 9, 15, 100, 256, 257, 65_536, 1_000_000} {
		all := slices.Repeat([]string{"a"}, many)
		wantMost(t, all, 0, api.ErrFull)
		for need := 1; need <= api.MaxCopies; need++ {
			wantNoWin(t, all, need, api.ErrFull)
		}
	}
	wantNoWin(t, said("abcdefgh"), 1, api.ErrFull)
	wantNoWin(t, said("abcdefgh"), 2, api.ErrFull)
	wantMost(t, said("abcdefgh"), 0, api.ErrFull)
}

// P3: the number is told ahead of there being too many.
func TestWinTellsTheFirstFault(t *testing.T) {
	for _, need := range noCopies {
		wantNoWin(t, said("aaaaaaaa"), need, api.ErrRange)
		wantNoWin(t, said("abcdefgh"), need, api.ErrRange)
	}
}

// winAsWritten goes over each text by itself: where does its need-th stand?
func winAsWritten(l []string, need int) (string, bool) {
	first, who := len(l), ""
	for _, s := range l {
		left := need
		for place, other := range l {
			if other == s {
				left--
			}
			if left == 0 {
				if place < first {
					first, who = place, s
				}
				break
			}
		}
	}
	return who, first < len(l)
}

// mostAsWritten holds each against each.
func mostAsWritten(l []string) (most int) {
	for _, s := range l {
		n := 0
		for _, other := range l {
			if other == s {
				n++
			}
		}
		most = max(most, n)
	}
	return most
}

// lists calls f with every list of at most so many of these texts.
func lists(texts []string, many int, f func(l []string)) {
	var longer func(l []string)
	longer = func(l []string) {
		f(l)
		if len(l) == many {
			return
		}
		for _, s := range texts {
			longer(append(slices.Clone(l), s))
		}
	}
	longer(nil)
}

// Every list of four texts, one of them empty, with every number about those that may be.
func TestEveryList(t *testing.T) {
	lists([]string{"", "ok", "ok ", "no"}, api.MaxCopies+1, func(l []string) {
		if len(l) > api.MaxCopies {
			wantMost(t, l, 0, api.ErrFull)
			wantNoWin(t, l, 1, api.ErrFull)
			return
		}
		wantMost(t, l, mostAsWritten(l), api.OK)
		wantNoWin(t, l, 0, api.ErrRange)
		wantNoWin(t, l, api.MaxCopies+1, api.ErrRange)
		for need := 1; need <= api.MaxCopies; need++ {
			if want, is := winAsWritten(l, need); is {
				wantWin(t, l, need, want)
			} else {
				wantNoWin(t, l, need, api.ErrNone)
			}
		}
	})
}

// Texts are bytes, of any length: those that differ in one alone are not the same.
func TestTextsAreBytes(t *testing.T) {
	long := strings.Repeat("x", 100_000)
	for _, pair := range [][2]string{
		{"a", "A"},
		{"a", "a\x00"},
		{"\x00", ""},
		{"\xff", "\xfe"},
		{"\xff", "\ufffd"},
		{"\u00e9", "e\u0301"},
		{"1", "01"},
		{" 1", "1 "},
		{long, long + "x"},
		{long + "y", long + "z"},
		{"y" + long, "z" + long},
	} {
		one, other := pair[0], pair[1]
		l := []string{one, other, other, one, one}
		wantWin(t, l, 1, one)
		wantWin(t, l, 2, other)
		wantWin(t, l, 3, one)
		wantNoWin(t, l, 4, api.ErrNone)
		wantMost(t, l, 3, api.OK)
	}
	for b := range 256 {
		s := string([]byte{byte(b)})
		wantWin(t, []string{"", s, s}, 2, s)
		wantMost(t, []string{"", s, s}, 2, api.OK)
	}
}

// The fourth thing that is to be true of the whole: as many as may lie cannot make it. One more
// than may lie is needed; whatever liars say, wherever they stand, those that do not lie win.
func TestLiarsCannotMakeIt(t *testing.T) {
	for n := 1; n <= api.MaxCopies; n++ {
		lie, err := vote.Faults(n)
		if err != nil {
			t.Fatal(err)
		}
		for who := range 1 << n {
			liars := 0
			l := slices.Repeat([]string{"true"}, n)
			for i := range n {
				if who>>i&1 == 1 {
					liars++
					l[i] = "lie"
				}
			}
			if liars <= lie {
				wantWin(t, l, lie+1, "true")
				wantWin(t, l, n-lie, "true")
			}
		}
	}
}

// P2, P4: nothing is written into the list, and what lies behind its length is not read.
func TestListsAreLeftAsTheyWere(t *testing.T) {
	all := said("abcabcaaaaaaaaa")
	before := slices.Clone(all)
	for long := range len(all) {
		l := all[:long]
		most := 0
		if long <= api.MaxCopies {
			most = mostAsWritten(l)
			wantMost(t, l, most, api.OK)
			for need := most + 1; need <= api.MaxCopies; need++ {
				wantNoWin(t, l, need, api.ErrNone)
			}
			for need := 1; need <= most; need++ {
				want, _ := winAsWritten(l, need)
				wantWin(t, l, need, want)
			}
		} else {
			wantMost(t, l, 0, api.ErrFull)
			wantNoWin(t, l, 1, api.ErrFull)
		}
		if !slices.Equal(all, before) {
			t.Fatalf("the list is %q, was %q", all, before)
		}
	}
}

// P2: what comes out is in memory of its own.
func TestTextsAreFresh(t *testing.T) {
	for long := range 20 {
		s := "a" + strconv.Itoa(long) + strings.Repeat("b", long)
		l := []string{"x", s, strings.Clone(s), s}
		for need := 2; need <= 3; need++ {
			got, err := vote.Win(l, need)
			if got != s || err != nil {
				t.Fatalf("Win(%q, %d): got %q, %v", l, need, got, err)
			}
			for _, in := range l {
				if unsafe.StringData(got) == unsafe.StringData(in) {
					t.Errorf("Win(%q, %d) hands out the memory of an argument", l, need)
				}
			}
			again, _ := vote.Win(l, need)
			if unsafe.StringData(got) == unsafe.StringData(again) {
				t.Errorf("Win(%q, %d) hands out the same memory twice", l, need)
			}
		}
	}
}

// P2: what is answered hangs on the arguments alone, not on the calls before.
func TestAskedAgainAnswersTheSame(t *testing.T) {
	for range 100 {
		wantFaults(t, 7, 2, api.OK)
		wantWin(t, said("abba"), 2, "b")
		wantNoWin(t, said("ab"), 2, api.ErrNone)
		wantNoWin(t, said("aaaaaaaa"), 2, api.ErrFull)
		wantNoWin(t, said("ab"), 0, api.ErrRange)
		wantMost(t, said("ab"), 1, api.OK)
		wantMost(t, said("aaaaaaaa"), 0, api.ErrFull)
		wantFaults(t, 8, 0, api.ErrRange)
	}
}
