package vault_test

import (
	"math"
	"slices"
	"strconv"
	"strings"
	"testing"
	"unsafe"

	"tuplestead/api"
	"tuplestead/plain"
	"tuplestead/vault"
)

const (
	prime = 257
	most  = 7
	room  = 20
	heard = 30
)

// outside are no numbers of chapter 7.
var outside = []int{math.MinInt, math.MinInt + 1, -1 << 32, -1_000_000, -257, -256, -1, 257, 258, 513, 514, 1_000_000, 1 << 32, 1<<32 + 1, math.MaxInt - 1, math.MaxInt}

// noCount are numbers of which there may not be as many shares.
var noCount = []int{math.MinInt, math.MinInt + 1, -1 << 32, -1<<32 + 1, -257, -7, -1, 0, 8, 9, 256, 257, 1 << 32, 1<<32 + 1, math.MaxInt - 1, math.MaxInt}

// points is shares in a row, in memory of their own: at, is, at, is ..
func points(n ...int) (l []api.Share) {
	for i := 0; i+1 < len(n); i += 2 {
		l = append(l, api.Share{At: n[i], Is: n[i+1]})
	}
	return l
}

// at is what a secret, and its rest, are at a place: power by power.
func at(secret int, rest []int, place int) int {
	sum, high := secret, 1
	for _, factor := range rest {
		high = high * place % prime
		sum += factor * high
	}
	return sum % prime
}

// shares of a secret, at 1 to many.
func shares(secret int, rest []int, many int) (l []api.Share) {
	for place := 1; place <= many; place++ {
		l = append(l, api.Share{At: place, Is: at(secret, rest, place)})
	}
	return l
}

// lie is another share of the same place.
func lie(s api.Share) api.Share { return api.Share{At: s.At, Is: (s.Is + 1) % prime} }

// steps gives numbers that go all over the place, the same ones each time.
type steps uint64

func (s *steps) below(n int) int {
	*s = *s*6364136223846793005 + 1442695040888963407
	return int(uint64(*s) >> 33 % uint64(n))
}

// list of as many numbers of chapter 7.
func (s *steps) list(many int) []int {
	l := make([]int, many)
	for i := range l {
		l[i] = s.below(prime)
	}
	return l
}

// mixed is the same shares, in another order.
func (s *steps) mixed(l []api.Share) []api.Share {
	l = slices.Clone(l)
	for i := range l {
		j := i + s.below(len(l)-i)
		l[i], l[j] = l[j], l[i]
	}
	return l
}

// made is a vault of so many, of whom so many are needed.
func made(t *testing.T, many, need int) *vault.Vault {
	t.Helper()
	v, err := vault.New(many, need)
	if err != nil || v == nil {
		t.Fatalf("New(%d, %d): got %v", many, need, err)
	}
	return v
}

// pairs are all that many and need may be.
func pairs(do func(many, need int)) {
	for many := 1; many <= most; many++ {
		for need := 1; need <= many; need++ {
			do(many, need)
		}
	}
}

func puts(t *testing.T, v *vault.Vault, name string, secret int, rest []int) {
	t.Helper()
	if err := v.Put(name, secret, rest); err != nil {
		t.Fatalf("Put(%q, %d, %v): got %v", name, secret, rest, err)
	}
}

func putTells(t *testing.T, v *vault.Vault, name string, secret int, rest []int, want api.Errno) {
	t.Helper()
	if err := v.Put(name, secret, rest); plain.Told(err) != want {
		t.Errorf("Put(%.40q, %d, %v): got %v, want %v", name, secret, rest[:min(len(rest), most+1)], err, want)
	}
}

// gets asks that some shares tell this secret.
func gets(t *testing.T, v *vault.Vault, name string, l []api.Share, want int) {
	t.Helper()
	if got, err := v.Get(name, l); got != want || err != nil {
		t.Errorf("Get(%q, %v): got %d %v, want %d", name, l, got, err, want)
	}
}

func getTells(t *testing.T, v *vault.Vault, name string, l []api.Share, want api.Errno) {
	t.Helper()
	if got, err := v.Get(name, l); got != 0 || plain.Told(err) != want {
		t.Errorf("Get(%.40q, %v): got %d %v, want 0 %v", name, l[:min(len(l), heard+1)], got, err, want)
	}
}

func partTells(t *testing.T, v *vault.Vault, name string, place int, want api.Errno) {
	t.Helper()
	if got, err := v.Part(name, place); got != (api.Share{}) || plain.Told(err) != want {
		t.Errorf("Part(%.40q, %d): got %v %v, want {0 0} %v", name, place, got, err, want)
	}
}

func trueTells(t *testing.T, v *vault.Vault, name string, s api.Share, want api.Errno) {
	t.Helper()
	if got, err := v.True(name, s); got || plain.Told(err) != want {
		t.Errorf("True(%.40q, %v): got %v %v, want false %v", name, s, got, err, want)
	}
}

// has asks that a vault has just what is dealt of this, by each of its ways.
func has(t *testing.T, v *vault.Vault, many int, name string, secret int, rest []int) {
	t.Helper()
	l := shares(secret, rest, many)
	for _, s := range l {
		if got, err := v.Part(name, s.At); got != s || err != nil {
			t.Fatalf("Part(%q, %d): got %v %v, want %v", name, s.At, got, err, s)
		}
		if got, err := v.True(name, s); !got || err != nil {
			t.Fatalf("True(%q, %v): got %v %v, want true", name, s, got, err)
		}
		if got, err := v.True(name, lie(s)); got || err != nil {
			t.Fatalf("True(%q, %v): got %v %v, want false", name, lie(s), got, err)
		}
	}
	gets(t, v, name, l, secret)
}

// hasNone asks that a name is not there, whatever else is wrong.
func hasNone(t *testing.T, v *vault.Vault, name string) {
	t.Helper()
	for _, n := range append([]int{1, 2, most}, outside...) {
		partTells(t, v, name, n, api.ErrNone)
		trueTells(t, v, name, api.Share{At: n, Is: n}, api.ErrNone)
		getTells(t, v, name, points(n, n), api.ErrNone)
		getTells(t, v, name, slices.Repeat(points(n, n), heard+1), api.ErrNone)
	}
	getTells(t, v, name, nil, api.ErrNone)
}

// named are as many names.
func named(many int) (l []string) {
	for i := range many {
		l = append(l, "name "+strconv.Itoa(i))
	}
	return l
}

// full is a vault in which there is no room; the i-th name has the secret i.
func full(t *testing.T, many, need int) *vault.Vault {
	t.Helper()
	v := made(t, many, need)
	for i, name := range named(room) {
		puts(t, v, name, i, make([]int, need-1))
	}
	return v
}

// V1: New.

func TestNewHasNothing(t *testing.T) {
	pairs(func(many, need int) {
		v := made(t, many, need)
		for _, name := range []string{"", "a", "abcdefghijkl", "abcdefghijklm", strings.Repeat("x", 1<<16)} {
			hasNone(t, v, name)
		}
	})
}

func TestNewTellsNumbers(t *testing.T) {
	tells := func(many, need int) {
		if v, err := vault.New(many, need); v != nil || plain.Told(err) != api.ErrRange {
			t.Errorf("New(%d, %d): got %v %v, want nil ErrRange", many, need, v, err)
		}
	}
	for _, no := range noCount {
		for n := 1; n <= most; n++ {
			tells(no, n)
			tells(n, no)
		}
		tells(no, no)
	}
	for many := 1; many <= most; many++ {
		for need := many + 1; need <= most+1; need++ {
			tells(many, need)
		}
	}
}

// V1: Put and Part.

func TestPart(t *testing.T) {
	for _, c := range []struct {
		secret int
		rest   []int
		many   int
		want   []api.Share
	}{
		{0, nil, 1, points(1, 0)},
		{256, []int{}, 3, points(1, 256, 2, 256, 3, 256)},
		{42, []int{5}, 2, points(1, 47, 2, 52)},
		{42, []int{5}, 3, points(1, 47, 2, 52, 3, 57)},
		{250, []int{7}, 2, points(1, 0, 2, 7)},
		{1, []int{2, 3}, 3, points(1, 6, 2, 17, 3, 34)},
		{3, []int{0, 0}, 4, points(1, 3, 2, 3, 3, 3, 4, 3)},
		{0, []int{0, 0, 0, 0, 0, 1}, 7, points(1, 1, 2, 64, 3, 215, 4, 241, 5, 205, 6, 139, 7, 200)},
	} {
		v := made(t, c.many, len(c.rest)+1)
		puts(t, v, "a", c.secret, c.rest)
		for _, s := range c.want {
			if got, err := v.Part("a", s.At); got != s || err != nil {
				t.Errorf("Part at %d of %d, %v: got %v %v, want %v", s.At, c.secret, c.rest, got, err, s)
			}
		}
		gets(t, v, "a", c.want, c.secret)
	}
}

func TestPutOfAnyNumbers(t *testing.T) {
	var s steps
	pairs(func(many, need int) {
		v := made(t, many, need)
		for _, name := range named(room) {
			secret, rest := s.below(prime), s.list(need-1)
			puts(t, v, name, secret, rest)
			has(t, v, many, name, secret, rest)
		}
	})
}

func TestPutOfEverySecret(t *testing.T) {
	rest := []int{200, 0, 256}
	for secret := range prime {
		v := made(t, most, 4)
		puts(t, v, "a", secret, rest)
		has(t, v, most, "a", secret, rest)
	}
}

// Names are any bytes, or none, and each is apart from the others.
func TestNamesAreAnyBytes(t *testing.T) {
	names := []string{"", "a", "A", "aa", "ab", " a", "a ", "\x00", "\x00\x00", "\n", "\xff", "\xff\xfe", "ä", "a\u0308", "abcdefghijk", "abcdefghijkl", "abcdefghijkL", strings.Repeat("\x00", 12), strings.Repeat("\xff", 12), "|/,:*"}
	v := made(t, 3, 2)
	for i, name := range names {
		hasNone(t, v, name)
		puts(t, v, name, i, []int{i * 2})
	}
	for i, name := range names {
		has(t, v, 3, name, i, []int{i * 2})
	}
	for _, name := range []string{"b", "aaa", "abcdefghij", "abcdefghijklm", "a\x00", "\x00\x00\x00"} {
		hasNone(t, v, name)
	}
}

func TestPutTellsLongNames(t *testing.T) {
	pairs(func(many, need int) {
		for _, v := range []*vault.Vault{made(t, many, need), full(t, many, need)} {
			for _, long := range []int{13, 14, 24, 256, 268, 1 << 16} {
				name := strings.Repeat("a", long)
				// Ahead of all else that is wrong.
				for behind := range most + 2 {
					putTells(t, v, name, 1, make([]int, behind), api.ErrFull)
					putTells(t, v, name, -1, make([]int, behind), api.ErrFull)
					putTells(t, v, name, 1, slices.Repeat([]int{prime}, behind), api.ErrFull)
				}
				hasNone(t, v, name)
			}
			hasNone(t, v, strings.Repeat("a", 12))
		}
	})
}

// What is there stays as it is, whatever is put behind it by the same name.
func TestPutTellsThatItIsThere(t *testing.T) {
	var s steps
	pairs(func(many, need int) {
		rest := s.list(need - 1)
		one := made(t, many, need)
		puts(t, one, "name 0", 77, rest)
		for _, v := range []*vault.Vault{one, full(t, many, need)} {
			for behind := range most + 2 {
				for _, secret := range []int{0, 77, 78, -1, prime} {
					putTells(t, v, "name 0", secret, make([]int, behind), api.ErrClash)
					putTells(t, v, "name 0", secret, slices.Repeat([]int{-1}, behind), api.ErrClash)
				}
			}
		}
		has(t, one, many, "name 0", 77, rest)
	})
}

func TestPutTellsLengthsOfRest(t *testing.T) {
	pairs(func(many, need int) {
		for _, v := range []*vault.Vault{made(t, many, need), full(t, many, need)} {
			for _, behind := range []int{0, 1, 2, 3, 4, 5, 6, 7, 8, 257, 1 << 16} {
				if behind == need-1 {
					continue
				}
				for _, secret := range []int{0, 256, -1, prime} {
					putTells(t, v, "a", secret, make([]int, behind), api.ErrShape)
					putTells(t, v, "a", secret, slices.Repeat([]int{-1}, behind), api.ErrShape)
				}
			}
			hasNone(t, v, "a")
		}
	})
}

func TestPutTellsNumbers(t *testing.T) {
	pairs(func(many, need int) {
		// By a full vault, too, as there being no room is named last.
		for _, v := range []*vault.Vault{made(t, many, need), full(t, many, need)} {
			for _, no := range outside {
				putTells(t, v, "a", no, make([]int, need-1), api.ErrRange)
				for place := range need - 1 {
					rest := slices.Repeat([]int{3}, need-1)
					rest[place] = no
					putTells(t, v, "a", 1, rest, api.ErrRange)
					putTells(t, v, "a", no, rest, api.ErrRange)
				}
			}
			hasNone(t, v, "a")
		}
	})
}

func TestPutTellsThatThereIsNoRoom(t *testing.T) {
	pairs(func(many, need int) {
		v := full(t, many, need)
		for _, name := range []string{"", "a", "name 20", "abcdefghijkl"} {
			for range 2 {
				putTells(t, v, name, 1, make([]int, need-1), api.ErrFull)
			}
			hasNone(t, v, name)
		}
		for i, name := range named(room) {
			has(t, v, many, name, i, make([]int, need-1))
		}
	})
}

// What was refused takes no room, and its name is free.
func TestWhatWasRefusedIsNotThere(t *testing.T) {
	v := made(t, 3, 2)
	for i, name := range named(room) {
		putTells(t, v, name, -1, []int{1}, api.ErrRange)
		putTells(t, v, name, 1, []int{prime}, api.ErrRange)
		putTells(t, v, name, 1, nil, api.ErrShape)
		putTells(t, v, name+" and more", 1, []int{1}, api.ErrFull)
		hasNone(t, v, name)
		puts(t, v, name, i, []int{9})
		putTells(t, v, name, 200, []int{1}, api.ErrClash)
	}
	for i, name := range named(room) {
		has(t, v, 3, name, i, []int{9})
	}
	putTells(t, v, "one more", 1, []int{1}, api.ErrFull)
}

func TestPartTellsPlaces(t *testing.T) {
	pairs(func(many, need int) {
		v := made(t, many, need)
		puts(t, v, "a", 5, make([]int, need-1))
		for _, place := range append([]int{many + 1, -many, many + prime}, noCount...) {
			partTells(t, v, "a", place, api.ErrRange)
			partTells(t, v, "b", place, api.ErrNone)
		}
		for place := 1; place <= many; place++ {
			partTells(t, v, "b", place, api.ErrNone)
		}
	})
}

// V1: True.

// Of each place one number is true: also at 0, where the secret is, and at those that nobody has.
func TestTrueOfAllShares(t *testing.T) {
	for _, c := range []struct {
		many   int
		secret int
		rest   []int
	}{
		{1, 42, nil},
		{2, 0, []int{0}},
		{3, 42, []int{5}},
		{7, 256, []int{255, 1, 0, 17, 200, 256}},
	} {
		v := made(t, c.many, len(c.rest)+1)
		puts(t, v, "a", c.secret, c.rest)
		for place := range prime {
			meant := at(c.secret, c.rest, place)
			for n := range prime {
				s := api.Share{At: place, Is: n}
				if got, err := v.True("a", s); got != (n == meant) || err != nil {
					t.Fatalf("True(%v) of %d, %v: got %v %v, want %v", s, c.secret, c.rest, got, err, n == meant)
				}
			}
		}
	}
}

func TestTrueTellsNumbers(t *testing.T) {
	v := made(t, 3, 2)
	puts(t, v, "a", 42, []int{5})
	for _, no := range outside {
		for _, s := range []api.Share{{At: no, Is: 47}, {At: 1, Is: no}, {At: no, Is: no}} {
			trueTells(t, v, "a", s, api.ErrRange)
			trueTells(t, v, "b", s, api.ErrNone)
		}
	}
	trueTells(t, v, "b", api.Share{At: 1, Is: 47}, api.ErrNone)
}

// V1: Get.

func TestGet(t *testing.T) {
	for _, c := range []struct {
		need int
		rest []int
		l    []api.Share
		want int
	}{
		// 42 + 5 at: 47, 52, 57.
		{2, []int{5}, points(1, 47, 2, 52), 42},
		{2, []int{5}, points(3, 57, 1, 47), 42},
		{2, []int{5}, points(3, 57, 2, 52, 1, 47), 42},
		{2, []int{5}, points(1, 47, 1, 47, 1, 47, 3, 57), 42},
		// Lies are not heard, wherever they stand.
		{2, []int{5}, points(1, 48, 2, 52, 3, 57), 42},
		{2, []int{5}, points(2, 52, 1, 48, 3, 57), 42},
		{2, []int{5}, points(2, 52, 3, 57, 1, 48), 42},
		// Neither does one keep the true share of its place out.
		{2, []int{5}, points(1, 48, 1, 47, 2, 53, 2, 52), 42},
		{2, []int{5}, points(1, 48, 1, 49, 1, 47, 1, 50, 3, 57), 42},
		{2, []int{5}, points(1, 47, 1, 48, 3, 58, 3, 57, 3, 58), 42},
		// 42 + 5 at + at at: 48, 56, 66.
		{3, []int{5, 1}, points(2, 56, 3, 66, 1, 48), 42},
		{3, []int{5, 1}, points(2, 56, 2, 56, 3, 66, 3, 66, 1, 48), 42},
		{3, []int{5, 1}, points(1, 47, 2, 52, 3, 57, 3, 66, 2, 56, 1, 48), 42},
		// One is enough.
		{1, nil, points(2, 42), 42},
		{1, nil, points(2, 41, 3, 43, 1, 42), 42},
		{1, nil, points(2, 42, 2, 42), 42},
	} {
		v := made(t, 3, c.need)
		puts(t, v, "a", 42, c.rest)
		for range 2 {
			gets(t, v, "a", c.l, c.want)
		}
	}
}

func TestGetTellsThatThereAreFewer(t *testing.T) {
	v := made(t, 3, 2)
	puts(t, v, "a", 42, []int{5})
	puts(t, v, "b", 43, []int{5})
	for _, l := range [][]api.Share{
		nil,
		{},
		points(1, 47),
		points(1, 47, 1, 47, 1, 47),
		slices.Repeat(points(2, 52), heard),
		points(1, 47, 2, 53),
		points(1, 48, 2, 52),
		points(1, 48, 2, 53, 3, 58), // those of b
		points(1, 48, 2, 53, 3, 58, 3, 57),
		points(1, 0, 2, 0, 3, 0),
		points(1, 256, 2, 256, 3, 256),
	} {
		getTells(t, v, "a", l, api.ErrNone)
	}
	gets(t, v, "b", points(1, 48, 2, 53, 3, 58), 43)
}

// The fifth thing that is to be true of the whole: so many honest are enough, whoever lies;
// and one fewer is not, whoever is there.
func TestSoManyHonestAreEnough(t *testing.T) {
	var s steps
	pairs(func(many, need int) {
		secret, rest := s.below(prime), s.list(need-1)
		v := made(t, many, need)
		puts(t, v, "a", secret, rest)
		for who := range 1 << many {
			var honest, liars []api.Share
			for i, one := range shares(secret, rest, many) {
				if who>>i&1 == 1 {
					honest = append(honest, one)
				} else {
					liars = append(liars, lie(one), api.Share{At: one.At, Is: (one.Is + 1 + s.below(prime-1)) % prime})
				}
			}
			for _, l := range [][]api.Share{honest, slices.Concat(liars, honest), slices.Concat(honest, liars), s.mixed(slices.Concat(honest, liars, honest))} {
				if len(honest) >= need {
					gets(t, v, "a", l, secret)
				} else {
					getTells(t, v, "a", l, api.ErrNone)
				}
			}
		}
	})
}

func TestGetTellsThatThereAreTooMany(t *testing.T) {
	pairs(func(many, need int) {
		v := made(t, many, need)
		rest := slices.Repeat([]int{8}, need-1)
		puts(t, v, "a", 9, rest)
		l := shares(9, rest, many)
		lies := slices.Repeat([]api.Share{lie(l[0])}, heard-many)
		gets(t, v, "a", slices.Concat(lies, l), 9)
		gets(t, v, "a", slices.Concat(l, lies), 9)
		getTells(t, v, "a", slices.Concat(l, lies, l[:1]), api.ErrFull)
		// Ahead of what is wrong with any of them, and of there being too few that are true.
		for _, long := range []int{heard + 1, heard + 2, 2 * heard, 256 + heard, 1 << 16} {
			for _, one := range append(points(0, 9, 1, prime, many+1, 9), l[0], lie(l[0])) {
				getTells(t, v, "a", slices.Repeat([]api.Share{one}, long), api.ErrFull)
				getTells(t, v, "b", slices.Repeat([]api.Share{one}, long), api.ErrNone)
			}
		}
	})
}

// Also where those that are true would be enough, or too few.
func TestGetTellsNumbers(t *testing.T) {
	pairs(func(many, need int) {
		v := made(t, many, need)
		rest := slices.Repeat([]int{8}, need-1)
		puts(t, v, "a", 9, rest)
		l := shares(9, rest, many)
		var bad []api.Share
		for _, no := range outside {
			bad = append(bad, points(no, 9, 1, no, no, no)...)
		}
		// At 0 stands the secret, and behind the last there are true numbers, too: but nobody has them.
		for _, no := range []int{0, many + 1, many + 2, 8, 256} {
			bad = append(bad, points(no, at(9, rest, no), no, prime, no, -1)...)
		}
		for _, one := range bad {
			for place := range many + 1 {
				getTells(t, v, "a", slices.Insert(slices.Clone(l), place, one), api.ErrRange)
			}
			getTells(t, v, "a", []api.Share{one}, api.ErrRange)
			getTells(t, v, "a", slices.Concat(slices.Repeat(l[:1], heard-1), []api.Share{one}), api.ErrRange)
			getTells(t, v, "b", []api.Share{one}, api.ErrNone)
		}
		gets(t, v, "a", l, 9)
	})
}

func TestVaultsAreApart(t *testing.T) {
	a, b := made(t, 3, 2), made(t, 3, 2)
	puts(t, a, "a", 42, []int{5})
	hasNone(t, b, "a")
	puts(t, b, "a", 7, []int{6})
	puts(t, b, "b", 8, []int{6})
	hasNone(t, a, "b")
	has(t, a, 3, "a", 42, []int{5})
	has(t, b, 3, "a", 7, []int{6})
	hasNone(t, made(t, 3, 2), "a")
}

// V1: all that is answered is held against a list of what was put, and a count of what is true.

// dealt is what was put by a name.
type dealt struct {
	name   string
	secret int
	rest   []int
}

// model is a vault that has its secrets as they are.
type model struct {
	many, need int
	all        []dealt
}

func (m *model) find(name string) (dealt, bool) {
	for _, d := range m.all {
		if d.name == name {
			return d, true
		}
	}
	return dealt{}, false
}

func isNumber(n int) bool { return n >= 0 && n < prime }

func (m *model) put(d dealt) api.Errno {
	_, there := m.find(d.name)
	switch {
	case len(d.name) > 12:
		return api.ErrFull
	case there:
		return api.ErrClash
	case len(d.rest) != m.need-1:
		return api.ErrShape
	case !isNumber(d.secret) || slices.ContainsFunc(d.rest, func(n int) bool { return !isNumber(n) }):
		return api.ErrRange
	case len(m.all) == room:
		return api.ErrFull
	}
	m.all = append(m.all, d)
	return api.OK
}

func (m *model) get(name string, l []api.Share) (int, api.Errno) {
	d, there := m.find(name)
	if !there {
		return 0, api.ErrNone
	}
	if len(l) > heard {
		return 0, api.ErrFull
	}
	honest := map[int]int{}
	for _, s := range l {
		if s.At < 1 || s.At > m.many || !isNumber(s.Is) {
			return 0, api.ErrRange
		}
		if s.Is == at(d.secret, d.rest, s.At) {
			honest[s.At]++
		}
	}
	if len(honest) < m.need {
		return 0, api.ErrNone
	}
	return d.secret, api.OK
}

// drawnPut is in most cases what may be put.
func (s *steps) drawnPut(names []string, need int) dealt {
	d := dealt{names[s.below(len(names))], s.below(prime), s.list(need - 1)}
	switch s.below(12) {
	case 0:
		d.secret = outside[s.below(len(outside))]
	case 1:
		d.rest = s.list(s.below(most + 2))
	case 2:
		if len(d.rest) > 0 {
			d.rest[s.below(len(d.rest))] = outside[s.below(len(outside))]
		}
	case 3:
		d.name = "abcdefghijklm"
	}
	return d
}

// drawnShares are of those that were dealt, true or not, and now and then what may not be.
func (s *steps) drawnShares(d dealt, many int) (l []api.Share) {
	of := shares(d.secret, d.rest, many)
	for range s.below(12) {
		one := of[s.below(many)]
		if s.below(3) == 0 {
			one.Is = s.below(prime)
		}
		l = append(l, one)
	}
	switch s.below(12) {
	case 0:
		l = append(l, api.Share{At: s.below(most + 2), Is: s.below(prime + 1)})
	case 1:
		l = append(l, slices.Repeat(of[:1], heard-s.below(12))...)
	}
	return s.mixed(l)
}

func TestManyCallsAgainstAModel(t *testing.T) {
	var s steps
	count := map[api.Errno]int{}
	names := append(named(room+4), "", "abcdefghijkl")
	pairs(func(many, need int) {
		v, m := made(t, many, need), &model{many: many, need: need}
		for i := range 400 {
			d := s.drawnPut(names, need)
			want := m.put(d)
			putTells(t, v, d.name, d.secret, d.rest, want)
			count[want]++
			known, _ := m.find(names[s.below(len(names))])
			l := s.drawnShares(known, many)
			secret, told := m.get(known.name, l)
			if got, err := v.Get(known.name, l); got != secret || plain.Told(err) != told {
				t.Errorf("Get(%q, %v): got %d %v, want %d %v", known.name, l, got, err, secret, told)
			}
			count[told]++
			if t.Failed() {
				t.Fatalf("at call %d of %d, %d", i, many, need)
			}
		}
		for _, d := range m.all {
			has(t, v, many, d.name, d.secret, d.rest)
		}
	})
	for _, e := range []api.Errno{api.OK, api.ErrRange, api.ErrShape, api.ErrFull, api.ErrNone, api.ErrClash} {
		if count[e] == 0 {
			t.Errorf("%v was never told", e)
		}
	}
}

// P2 and P4: nothing that is handed in is written into, nor kept, nor read behind its length.

func TestNothingHandedInIsWrittenInto(t *testing.T) {
	rest := []int{5, 1, -1, math.MaxInt, 5, 6, 7, 8}
	l := points(1, 49, 3, 66, 3, 66, 1, 48, 2, 56, 2, 56, -1, 999, 0, 257)
	wasRest, wasL := slices.Clone(rest), slices.Clone(l)
	v := made(t, 3, 3)
	puts(t, v, "a", 42, rest[:2])
	gets(t, v, "a", l[:5], 42)
	gets(t, v, "a", l[:6], 42)
	getTells(t, v, "a", l[:4], api.ErrNone)
	getTells(t, v, "a", l[:0], api.ErrNone)
	for n := range len(l) + 1 {
		_, _ = v.Get("a", l[:n])
		_ = v.Put("b", 42, rest[:n])
		_ = v.Put("a", 42, rest[:n])
	}
	if !slices.Equal(rest, wasRest) || !slices.Equal(l, wasL) {
		t.Errorf("a list was written into: %v %v", rest, l)
	}
}

// Lists and texts may be memory whose owner writes into it later.
func TestNothingHandedInIsKept(t *testing.T) {
	bytes := []byte("hello")
	name := unsafe.String(&bytes[0], len(bytes))
	rest, l := []int{5, 1}, shares(42, []int{5, 1}, 3)
	v := made(t, 3, 3)
	puts(t, v, name, 42, rest)
	gets(t, v, name, l, 42)
	copy(bytes, "howdy")
	rest[0], rest[1], l[0], l[1], l[2] = 9, 9, api.Share{}, api.Share{}, api.Share{}
	has(t, v, 3, "hello", 42, []int{5, 1})
	hasNone(t, v, "howdy")
	puts(t, v, name, 7, rest)
	has(t, v, 3, "hello", 42, []int{5, 1})
	has(t, v, 3, "howdy", 7, []int{9, 9})
	putTells(t, v, "hello", 42, []int{5, 1}, api.ErrClash)
}

// What is asked, a fault or not, changes nothing.
func TestAskedAgainAnswersTheSame(t *testing.T) {
	v := made(t, 3, 2)
	puts(t, v, "a", 42, []int{5})
	for range 3 {
		gets(t, v, "a", points(1, 47, 2, 52), 42)
		getTells(t, v, "a", points(1, 48, 2, 53), api.ErrNone)
		getTells(t, v, "a", points(0, 42), api.ErrRange)
		getTells(t, v, "a", slices.Repeat(points(1, 47), heard+1), api.ErrFull)
		partTells(t, v, "a", 4, api.ErrRange)
		trueTells(t, v, "a", api.Share{At: 1, Is: 300}, api.ErrRange)
		hasNone(t, v, "b")
		has(t, v, 3, "a", 42, []int{5})
	}
	for i, name := range named(room - 1) {
		puts(t, v, name, i, []int{1})
	}
	has(t, v, 3, "a", 42, []int{5})
}
