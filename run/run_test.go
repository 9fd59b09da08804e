package run_test

import (
	"fmt"
	"math/rand"
	"regexp"
	"slices"
	"strconv"
	"strings"
	"testing"
	"unsafe"

	"tuplestead/run"
)

// most is how many bytes a text may have; room is how many tuples there may be.
const (
	most = 3000
	room = 20
)

// step is a line, and what it is answered.
type step struct{ line, want string }

// play runs all lines as one text, and holds the answers against what each of them is to be.
func play(t *testing.T, steps ...step) {
	t.Helper()
	var text string
	for _, s := range steps {
		text += s.line + "\n"
	}
	got := strings.SplitAfter(run.Run(text), "\n")
	if len(got) != len(steps)+1 || got[len(steps)] != "" {
		t.Fatalf("Run(%.200q): got %d lines, want %d: %.200q", text, len(got)-1, len(steps), got)
	}
	for i, s := range steps {
		if got[i] != s.want+"\n" {
			t.Errorf("line %d, %q: got %q, want %q", i, s.line, got[i], s.want)
		}
	}
}

// each runs every line as a text of its own.
func each(t *testing.T, want string, lines ...string) {
	t.Helper()
	for _, line := range lines {
		if got := run.Run(line); got != want+"\n" {
			t.Errorf("Run(%q): got %q, want %q", line, got, want+"\n")
		}
	}
}

// filled is as many puts of 1, 2, 3 .. as there is room for.
func filled() []step {
	var l []step
	for i := range room {
		l = append(l, step{"put " + strconv.Itoa(i+1), "ok"})
	}
	return l
}

// Z1: a text of more bytes than may be.

func TestTooLong(t *testing.T) {
	puts := strings.Repeat("put 1\n", most/6)
	for _, c := range []struct {
		text string
		want string
	}{
		{strings.Repeat("\n", most), strings.Repeat("bad\n", most)},
		{strings.Repeat("\n", most+1), "too long\n"},
		{strings.Repeat("x", most), "bad\n"},
		{strings.Repeat("x", most+1), "too long\n"},
		{puts, strings.Repeat("ok\n", room) + strings.Repeat("ErrFull\n", most/6-room)},
		{puts + "\n", "too long\n"},
		{puts[:most-1], strings.Repeat("ok\n", room) + strings.Repeat("ErrFull\n", most/6-room)},
		{strings.Repeat("\xff", most), "bad\n"},
		{strings.Repeat("\xc3\xa4", most/2), "bad\n"},
		{strings.Repeat("\xc3\xa4", most/2) + "x", "too long\n"},
		{strings.Repeat("put 1\n", 1<<16), "too long\n"},
		{strings.Repeat("x", 1<<20), "too long\n"},
	} {
		if got := run.Run(c.text); got != c.want {
			t.Errorf("Run of %d bytes, %.20q: got %.60q, want %.60q", len(c.text), c.text, got, c.want)
		}
	}
}

// Z1: how a text is cut into lines.

func TestLines(t *testing.T) {
	for _, c := range []struct{ text, want string }{
		{"", ""},
		{"\n", "bad\n"},
		{"\n\n", "bad\nbad\n"},
		{"put 1", "ok\n"},
		{"put 1\n", "ok\n"},
		{"put 1\n\n", "ok\nbad\n"},
		{"\nput 1", "bad\nok\n"},
		{"put 1\nread 1", "ok\n1\n"},
		{"put 1\n\nread 1\n", "ok\nbad\n1\n"},
		{"put 1\r\nread 1\n", "bad\nErrNone\n"},
		{"put 1\rread 1\n", "bad\n"},
		{"put 1\vread 1\fread 1\x00read 1\u2028read 1\x85\n", "bad\n"},
		{"put 1;put 2", "bad\n"},
	} {
		if got := run.Run(c.text); got != c.want {
			t.Errorf("Run(%q): got %q, want %q", c.text, got, c.want)
		}
	}
}

// Z1: what has not its words is bad, as is any other line.

func TestNotItsWords(t *testing.T) {
	one := []string{"put", "read", "take", "count", "print"}
	for _, name := range one {
		each(t, "bad", name, name+" ", name+"  1", name+" 1 ", " "+name+" 1", name+"\t1", name+" 1 2", name+" 1  ",
			name+",1", name+"1", name+" 1\t", name+" \"1\"", name+" 1 1 1", name+":1", name+" ,", name+"\u00a01")
		each(t, "bad", strings.ToUpper(name)+" 1", strings.ToUpper(name[:1])+name[1:]+" 1", name[1:]+" 1", name[:len(name)-1]+" 1", name+"s 1", name+"\x00 1")
	}
	each(t, "bad", "once", "once ", "once 1", "once 1 ", "once  1", "once 1  2", " once 1 2", "once 1 2 ", "once 1 2 3", "once 1,2", "ONCE 1 2", "one 1 2", "once  1 2", "once 1\t2", "once\t1 2")
	each(t, "bad", "deal", "deal 1", "deal 1 2", "deal 1 2 ", "deal 1  2", "deal  1 2 3", "deal 1 2  3", "deal 1 2 3 ", " deal 1 2 3", "deal 1 2 3 4", "deal 1,2,3", "Deal 1 2 3", "dea 1 2 3", "deal 1\t2 3")
	each(t, "bad", " ", "  ", "\t", "fly", "fly 1", "1", "*", ":put 1", "ok", "bad", "all", "all 1", "change 1 2", "move 1", "join 1 2", "new", "# put 1", "-", "\x00", "\xff", " put", "too long")
}

// Z1: a word that cannot be read is bad, whatever its error would be.

func TestWordsThatCannotBeRead(t *testing.T) {
	unread := []string{
		"x", "01", "-0", "00", "-", "+1", "1.", "0x1", "1_0", "1e1", "12345678", "-12345678", // ErrSyntax
		"**", "*a", "a", "ab", ",", "1,", ",1", "1,,2", "1,x", "\xff", "1,2,", "1\x00",
		"1000001", "-1000001", "9999999", ":a,1000001", // ErrRange
		":abcdefghijklm", "1,2,3,4,5,6", "*,*,*,*,*,*", ":,:,:,:,:,:", // ErrFull
		":A", ":a1", "::", ":a:", ":-", ":*", ":\xff", ":\u00e4", ":a,:B", // ErrShape
		"", // ErrNone
	}
	for _, word := range unread {
		for _, name := range []string{"put", "read", "take", "count", "print"} {
			each(t, "bad", name+" "+word)
		}
		// Neither the other word's being read, nor what would be wrong with it, changes it.
		each(t, "bad", "once 1 "+word, "once "+word+" 1", "once "+word+" *", "once * "+word, "once "+word+" "+word)
	}
	each(t, "ErrShape", "put *", "put 1,*", "put *,1", "put *,*,*,*,*", "once 1 *", "once * *", "once * 1,*")
}

// A line that is bad does nothing.
func TestBadLinesDoNothing(t *testing.T) {
	play(t,
		step{"put 1", "ok"}, step{"put 2 ", "bad"}, step{" put 2", "bad"}, step{"put 2 3", "bad"}, step{"PUT 2", "bad"},
		step{"put *", "ErrShape"}, step{"once 2 2 2", "bad"}, step{"once 2 x", "bad"}, step{"once x 2", "bad"}, step{"once 2 2,*", "ErrShape"},
		step{"take 1 ", "bad"}, step{"take 1 1", "bad"}, step{" take 1", "bad"},
		step{"count *", "1"}, step{"count 2", "0"}, step{"take *", "1"}, step{"count *", "0"})
}

// Z1: the numbers of a deal.

func TestNumbersThatCannotBeRead(t *testing.T) {
	for _, word := range []string{
		"", "x", "00", "01", "007", "0000", "00001", "-1", "-0", "+1", "+0", "1.0", "1e2", "0x1", "1_0", "*", ":1", ":a", "1,2", "-",
		"10000", "12345", "99999", "00000", "9223372036854775807", "9223372036854775808", "18446744073709551616",
		"-9223372036854775809", strings.Repeat("9", 400), strings.Repeat("0", 400), "1\x00", "\xff", "\u0661", "a1", "1a",
	} {
		each(t, "bad", "deal "+word+" 1 2", "deal 1 "+word+" 2", "deal 1 2 "+word)
		// What would be wrong with the others is not told.
		each(t, "bad", "deal "+word+" 999 0", "deal 999 "+word+" 0", "deal 999 999 "+word)
	}
}

func TestDeal(t *testing.T) {
	play(t,
		step{"deal 42 5 3", "47 52 57"},
		step{"deal 254 210 2", "207 160"},
		step{"deal 0 0 2", "0 0"}, step{"deal 256 256 2", "255 254"},
		step{"deal 0 1 7", "1 2 3 4 5 6 7"}, step{"deal 1 0 7", "1 1 1 1 1 1 1"},
		step{"deal 256 1 2", "0 1"},
		step{"deal 42 5 1", "ErrShape"}, step{"deal 0 0 1", "ErrShape"},
		step{"deal 42 5 0", "ErrRange"}, step{"deal 42 5 8", "ErrRange"}, step{"deal 42 5 9999", "ErrRange"},
		step{"deal 257 5 3", "ErrRange"}, step{"deal 9999 5 3", "ErrRange"}, step{"deal 1000 5 1", "ErrRange"},
		step{"deal 42 257 3", "ErrRange"}, step{"deal 42 9999 1", "ErrRange"},
		step{"count *", "0"})
}

// Z1: each deed.

func TestPutReadTakeCount(t *testing.T) {
	play(t,
		step{"count *", "0"}, step{"read *", "ErrNone"}, step{"take *", "ErrNone"},
		step{"put 1", "ok"}, step{"put :a", "ok"}, step{"put 1", "ok"}, step{"put 1,:a", "ok"}, step{"put :", "ok"},
		step{"put -1000000,1000000,0,:,:abcdefghijkl", "ok"},
		step{"count *", "4"}, step{"count 1", "2"}, step{"count :a", "1"}, step{"count :", "1"}, step{"count :b", "0"},
		step{"count *,*", "1"}, step{"count *,:a", "1"}, step{"count :a,*", "0"}, step{"count *,*,*", "0"}, step{"count *,*,*,*,*", "1"},
		step{"read *", "1"}, step{"read *", "1"}, step{"read :a", ":a"}, step{"read *,*", "1,:a"}, step{"read 2", "ErrNone"},
		step{"read *,*,*,*,*", "-1000000,1000000,0,:,:abcdefghijkl"}, step{"read *,*,*,:,*", "-1000000,1000000,0,:,:abcdefghijkl"},
		step{"take 1", "1"}, step{"count 1", "1"}, step{"take *", ":a"}, step{"take *", "1"}, step{"take *", ":"}, step{"take *", "ErrNone"},
		step{"count *,*", "1"}, step{"take *,:a", "1,:a"}, step{"take *,:a", "ErrNone"}, step{"count *,*,*,*,*", "1"})
}

func TestOldestFirst(t *testing.T) {
	play(t,
		step{"put 3,:a", "ok"}, step{"put 1,:a", "ok"}, step{"put 2,:b", "ok"}, step{"put 3,:a", "ok"},
		step{"read *,:a", "3,:a"}, step{"take *,*", "3,:a"}, step{"read *,:a", "1,:a"}, step{"put 0,:a", "ok"},
		step{"take *,:b", "2,:b"}, step{"take *,*", "1,:a"}, step{"take *,*", "3,:a"}, step{"take *,*", "0,:a"}, step{"take *,*", "ErrNone"})
}

func TestOnce(t *testing.T) {
	play(t,
		step{"once 1 1", "yes"}, step{"once 1 1", "no"}, step{"count 1", "1"},
		step{"once * 2", "no"}, step{"once 2 2", "yes"}, step{"count *", "2"},
		step{"once 7 1", "yes"}, step{"count 1", "2"}, // it is put though the like of it is there: that is not what was asked
		step{"once *,* *", "ErrShape"}, step{"once *,* :a", "yes"}, step{"once *,* :a", "yes"}, step{"count :a", "2"},
		step{"once :a *", "ErrShape"}, // told also where one fits
		step{"take *", "1"}, step{"take *", "2"}, step{"take *", "1"}, step{"take *", ":a"}, step{"take *", ":a"}, step{"take *", "ErrNone"})
}

func TestFull(t *testing.T) {
	play(t, append(filled(),
		step{"put 21", "ErrFull"}, step{"put 1", "ErrFull"}, step{"put *", "ErrShape"}, step{"put x", "bad"},
		step{"once 1 21", "no"}, step{"once 21 21", "ErrFull"}, step{"once 21 *", "ErrShape"}, step{"once 21 x", "bad"},
		step{"count *", "20"}, step{"read 20", "20"}, step{"count 21", "0"}, step{"take 7", "7"},
		step{"once 21 21", "yes"}, step{"put 22", "ErrFull"}, step{"take *", "1"}, step{"put 22", "ok"}, step{"put 23", "ErrFull"}, step{"count *", "20"})...)
}

func TestPrint(t *testing.T) {
	play(t,
		step{"print :hello", "2227"}, step{"print *,42", "4390"}, step{"print *", "259"}, step{"print 0", "265"}, step{"print :", "275"},
		step{"print 2,*,:", "9270"}, step{"print :zzzzzzzzzzzz", "4995"}, step{"print -1000000,1000000,*,:,:abcdefghijkl", "3695"},
		step{"count *", "0"})
}

// Each text has a space of its own.
func TestEachTextBeginsAnew(t *testing.T) {
	for range 3 {
		play(t, append(filled(), step{"put 1", "ErrFull"})...)
		each(t, "ErrNone", "read *", "take 1")
		each(t, "0", "count *")
	}
}

// asked is a run once more, with texts alone: a space is a list of what was put, as it was written.
type asked struct{ there []string }

var (
	aField  = `(0|-?[1-9][0-9]{0,5}|-?1000000|:[a-z]{0,12}|\*)`
	aTuple  = `(` + aField + `(?:,` + aField + `){0,4})`
	aNumber = `(0|[1-9][0-9]{0,3})`
	ofTuple = regexp.MustCompile(`\A(put|read|take|count|print) ` + aTuple + `\z`)
	ofOnce  = regexp.MustCompile(`\Aonce ` + aTuple + ` ` + aTuple + `\z`)
	ofDeal  = regexp.MustCompile(`\Adeal ` + aNumber + ` ` + aNumber + ` ` + aNumber + `\z`)
)

// fitting tells where those are that fit, the oldest first.
func (a *asked) fitting(like string) []int {
	form := regexp.MustCompile(`\A` + strings.ReplaceAll(like, "*", `[^,]*`) + `\z`)
	var at []int
	for i, t := range a.there {
		if form.MatchString(t) {
			at = append(at, i)
		}
	}
	return at
}

func (a *asked) put(t string) string {
	if strings.Contains(t, "*") {
		return "ErrShape"
	}
	if len(a.there) == room {
		return "ErrFull"
	}
	a.there = append(a.there, t)
	return "ok"
}

func (a *asked) one(deed, t string) string {
	switch deed {
	case "put":
		return a.put(t)
	case "count":
		return strconv.Itoa(len(a.fitting(t)))
	case "print":
		n := 7
		for _, c := range []byte(t) {
			n = (31*n + int(c)) % 10007
		}
		return strconv.Itoa(n)
	}
	at := a.fitting(t)
	if len(at) == 0 {
		return "ErrNone"
	}
	found := a.there[at[0]]
	if deed == "take" {
		a.there = slices.Delete(a.there, at[0], at[0]+1)
	}
	return found
}

func (a *asked) once(like, t string) string {
	if strings.Contains(t, "*") {
		return "ErrShape"
	}
	if len(a.fitting(like)) > 0 {
		return "no"
	}
	if said := a.put(t); said != "ok" {
		return said
	}
	return "yes"
}

func dealt(secret, factor, many int) string {
	if secret > 256 || factor > 256 || many < 1 || many > 7 {
		return "ErrRange"
	}
	if many == 1 {
		return "ErrShape"
	}
	var l []string
	for at := 1; at <= many; at++ {
		l = append(l, strconv.Itoa((secret+factor*at)%257))
	}
	return strings.Join(l, " ")
}

func (a *asked) answer(line string) string {
	if w := ofTuple.FindStringSubmatch(line); w != nil {
		return a.one(w[1], w[2])
	}
	if w := ofOnce.FindStringSubmatch(line); w != nil {
		// The first group of a tuple is all of it, and two more stand inside.
		return a.once(w[1], w[4])
	}
	if w := ofDeal.FindStringSubmatch(line); w != nil {
		var n [3]int
		for i := range n {
			n[i], _ = strconv.Atoi(w[i+1])
		}
		return dealt(n[0], n[1], n[2])
	}
	return "bad"
}

func asWritten(text string) string {
	if len(text) > 3000 {
		return "too long\n"
	}
	l := strings.Split(text, "\n")
	if l[len(l)-1] == "" {
		l = l[:len(l)-1]
	}
	var a asked
	var out string
	for _, line := range l {
		out += a.answer(line) + "\n"
	}
	return out
}

// pick is one of some.
func pick(r *rand.Rand, l ...string) string { return l[r.Intn(len(l))] }

func anyTuple(r *rand.Rand) string {
	var l []string
	for range []int{1, 1, 1, 2, 2, 2, 3, 5, 6}[r.Intn(9)] {
		l = append(l, pick(r, "1", "1", "2", ":a", ":a", ":", "*", "*"))
	}
	if r.Intn(25) == 0 {
		l = append(l, pick(r, "", "01", "-0", "x", ":A", "1000001", "1000000", "-1000000", ":abcdefghijkl", ":abcdefghijklm", "**", "-7"))
	}
	return strings.Join(l, ",")
}

func anyNumber(r *rand.Rand) string {
	if r.Intn(12) == 0 {
		return pick(r, "", "00", "01", "-1", "x", "257", "9999", "10000", "0")
	}
	return strconv.Itoa(r.Intn(1 + []int{8, 256, 260}[r.Intn(3)]))
}

func anyLine(r *rand.Rand) string {
	switch r.Intn(12) {
	case 0:
		return "deal " + anyNumber(r) + " " + anyNumber(r) + " " + anyNumber(r)
	case 1, 2:
		return "once " + anyTuple(r) + " " + anyTuple(r)
	}
	return pick(r, "put", "put", "put", "put", "put", "read", "take", "count", "print") + " " + anyTuple(r)
}

// broken has one byte of it changed, gone, or doubled.
func broken(r *rand.Rand, line string) string {
	at := r.Intn(len(line))
	return line[:at] + pick(r, "", " ", "\t", ",", "*", ":", "0", "1", "a", "\n", "\r", "\x00", "\xff", line[at:at+1]+line[at:at+1]) + line[at+1:]
}

func anyText(r *rand.Rand) string {
	var text string
	for range r.Intn(90) {
		line := anyLine(r)
		if r.Intn(10) == 0 {
			line = broken(r, line)
		}
		text += line + "\n"
	}
	if r.Intn(2) == 0 {
		return strings.TrimSuffix(text, "\n")
	}
	return text
}

func TestManyTextsAgainstPlainLists(t *testing.T) {
	r := rand.New(rand.NewSource(20))
	seen := map[string]int{}
	for range 3000 {
		text := anyText(r)
		got, want := run.Run(text), asWritten(text)
		if got != want {
			t.Fatalf("Run(%q):\ngot  %q\nwant %q", text, got, want)
		}
		for said := range strings.Lines(got) {
			seen[said]++
		}
	}
	// What was tried must have come to all that a line can be answered.
	for _, said := range []string{"ok", "yes", "no", "bad", "ErrNone", "ErrShape", "ErrFull", "ErrRange", "0", "3", "1,:a"} {
		if seen[said+"\n"] < 20 {
			t.Errorf("answered %q but %d times", said, seen[said+"\n"])
		}
	}
}

// All short lines of words that are near to right, in a space that has something in it.
func TestAllShortLines(t *testing.T) {
	names := []string{"put", "read", "take", "once", "count", "print", "deal", "", "x", "Put"}
	words := []string{"", "0", "1", "7", "01", "-1", "256", "257", "10000", ":a", "*", "1,*", "x", "1,2,3,4,5,6", "\t"}
	begin := "put 1\nput :a\nput 1,2\nput 1\n"
	var try func(line string, more int)
	try = func(line string, more int) {
		text := begin + line + "\ntake *\ncount *\ncount 1\n"
		if got, want := run.Run(text), asWritten(text); got != want {
			t.Errorf("%q: got %q, want %q", line, got, want)
		}
		if more == 0 {
			return
		}
		for _, w := range words {
			try(line+" "+w, more-1)
		}
	}
	for _, name := range names {
		try(name, 3)
	}
}

// Z2: the answers to the first lines are the beginning of the answers to all.

func TestFirstLinesAreAnsweredTheSame(t *testing.T) {
	r := rand.New(rand.NewSource(2))
	for range 60 {
		text := anyText(r)
		if len(text) > most {
			text = text[:most]
		}
		all := run.Run(text)
		for at := range len(text) {
			if text[at] != '\n' {
				continue
			}
			// With the end of its last line or without it, it is the same lines.
			first := run.Run(text[:at+1])
			if want := strings.Count(text[:at+1], "\n"); !strings.HasPrefix(all, first) || strings.Count(first, "\n") != want {
				t.Fatalf("of %q the first %d bytes: got %q, want %d lines of %q", text, at+1, first, want, all)
			}
			if at > 0 && text[at-1] != '\n' && run.Run(text[:at]) != first {
				t.Fatalf("of %q the first %d bytes: got %q, want %q", text, at, run.Run(text[:at]), first)
			}
		}
	}
}

// Of a text that becomes too long nothing of the answers is left; up to there they only grow.
func TestFirstLinesUpToTooLong(t *testing.T) {
	line := "once :abcdefghijkl,:abcdefghijkl :abcdefghijkl,:abcdefghijkl\n"
	var text, before string
	for len(text) <= most {
		text += line
		got := run.Run(text)
		switch {
		case len(text) > most && got != "too long\n":
			t.Errorf("of %d bytes: got %.40q", len(text), got)
		case len(text) <= most && (!strings.HasPrefix(got, before) || strings.Count(got, "\n") != len(text)/len(line)):
			t.Errorf("of %d bytes: got %q, want what begins with %q", len(text), got, before)
		}
		before = got
	}
	if want := "yes\n" + strings.Repeat("no\n", most/len(line)-1); run.Run(text[:most/len(line)*len(line)]) != want {
		t.Errorf("got %q, want %q", run.Run(text[:most/len(line)*len(line)]), want)
	}
}

// P1: every call ends and none panics.

func TestAllBytes(t *testing.T) {
	r := rand.New(rand.NewSource(1))
	for range 3000 {
		b := make([]byte, r.Intn(60))
		r.Read(b)
		text := string(b)
		if got, want := run.Run(text), asWritten(text); got != want {
			t.Fatalf("Run(%q): got %q, want %q", text, got, want)
		}
	}
	for c := range 256 {
		one := string([]byte{byte(c)})
		for _, text := range []string{one, "put" + one + "1", "put 1" + one, one + "put 1", "put 1\n" + one + "read 1", "deal 1 2" + one + "3", "put :" + one, "once 1" + one + "2"} {
			if got, want := run.Run(text), asWritten(text); got != want {
				t.Errorf("Run(%q): got %q, want %q", text, got, want)
			}
		}
	}
}

// P2: what is answered hangs on the text alone, and shares no memory with it.

func TestAnswersAgainTheSame(t *testing.T) {
	r := rand.New(rand.NewSource(3))
	for range 50 {
		text := anyText(r)
		first := run.Run(text)
		for range 5 {
			if got := run.Run(text); got != first {
				t.Fatalf("Run(%q): got %q, then %q", text, first, got)
			}
		}
	}
}

func TestAnswersShareNoMemory(t *testing.T) {
	b := []byte("put :hello,:world\nread *,*\n")
	got := run.Run(unsafe.String(&b[0], len(b)))
	want := "ok\n:hello,:world\n"
	for i := range b {
		b[i] = 'X'
	}
	if got != want {
		t.Errorf("got %q, want %q", got, want)
	}
	done := make(chan string)
	for range 4 {
		go func() { done <- run.Run("put :hello,:world\nput 1\ntake *\ncount *,*\n") }()
	}
	for range 4 {
		if got, want := <-done, "ok\nok\n1\n1\n"; got != want {
			t.Errorf("side by side: got %q, want %q", got, want)
		}
	}
}

func ExampleRun() {
	fmt.Print(run.Run("put :hello,42\nonce *,42 :other,42\nread *,42\ntake :hello,*\ncount *,*\nread 1\nprint *,42\ndeal 42 5 3\nfly\n"))
	// Output:
	// ok
	// no
	// :hello,42
	// :hello,42
	// 0
	// ErrNone
	// 4390
	// 47 52 57
	// bad
}
