package text

import (
	"math/rand"
	"strings"
	"sync"
	"testing"

	"cortege/api"
	"cortege/three"
)

// change is a text and what two made of it, with what these come to.
type change struct {
	what       string
	base, a, b string
	merged     string
	ok         bool
	conflicts  int
}

// changes are those that the chapter's edges name.
var changes = []change{
	{"the chapter's example", "a\nb\n", "a\nB\n", "A\nb\n", "", false, 1},

	{"three empty texts", "", "", "", "", true, 0},
	{"base and a are empty", "", "", "x\n", "x\n", true, 0},
	{"a and b are empty", "x\n", "", "", "", true, 0},
	{"a alone is empty", "x\n", "", "x\n", "", true, 0},
	{"a alone is empty, and b another one", "x\n", "", "y\n", "", false, 1},
	{"a is empty, and b has a line more behind it", "x\n", "", "x\ny\n", "", false, 1},
	{"base alone is empty, and a and b are the same", "", "x\n", "x\n", "x\n", true, 0},
	{"base alone is empty, and a and b are not the same", "", "x\n", "y\n", "", false, 1},
	{"base alone is empty, and a and b begin with the same", "", "x\ny\n", "x\nz\n", "", false, 1},

	{"three like texts", "a\nb\n", "a\nb\n", "a\nb\n", "a\nb\n", true, 0},
	{"three like texts without an end", "a\nb", "a\nb", "a\nb", "a\nb", true, 0},
	{"a line changed by the one alone", "a\nb\nc\n", "a\nB\nc\n", "a\nb\nc\n", "a\nB\nc\n", true, 0},
	{"all changed by the one alone", "a\nb\nc\n", "x\ny", "a\nb\nc\n", "x\ny", true, 0},
	{"a line changed by both, alike", "a\nb\nc\n", "a\nB\nc\n", "a\nB\nc\n", "a\nB\nc\n", true, 0},
	{"a line changed by both, unlike", "a\nb\nc\n", "a\nB\nc\n", "a\nD\nc\n", "", false, 1},
	{"a line changed by both, alike, and another one by the one", "a\nb\nc\n", "A\nb\nC\n", "A\nb\nc\n", "A\nb\nC\n", true, 0},
	{"a line changed by both, unlike, and another one by the one", "a\nb\nc\n", "A\nb\nC\n", "A\nb\nD\n", "", false, 1},
	{"a line changed by both, alike, and one by each", "a\nx\nb\ny\nc\n", "A\nx\nB\ny\nc\n", "a\nx\nB\ny\nC\n", "A\nx\nB\ny\nC\n", true, 0},

	{"two lines changed, one that stands between", "a\nx\nb\n", "A\nx\nb\n", "a\nx\nB\n", "A\nx\nB\n", true, 0},
	{"two lines changed that lie together", "x\na\nb\ny\n", "x\nA\nb\ny\n", "x\na\nB\ny\n", "", false, 1},
	{"two lines left out that lie together", "x\na\nb\ny\n", "x\nb\ny\n", "x\na\ny\n", "", false, 1},
	{"a line put in and one changed that lie together", "x\na\ny\n", "x\nn\na\ny\n", "x\nA\ny\n", "", false, 1},
	{"lines put in at both sides of one that stands", "a\n", "x\na\n", "a\ny\n", "x\na\ny\n", true, 0},
	{"lines left out, one that stands between", "a\nx\nb\n", "x\nb\n", "a\nx\n", "x\n", true, 0},
	{"lines left out by the one, put in by the other", "a\nb\nc\nd\n", "a\nd\n", "n\na\nb\nc\nd\n", "n\na\nd\n", true, 0},
	{"all is left out by both, one part each", "a\nb\n", "b\n", "a\n", "", false, 1},
	{"lines of byte 10 alone", "\n\n\n", "\n\n\nx\n", "y\n\n\n\n", "y\n\n\n\nx\n", true, 0},

	{"two Conflicts", "a\nx\nb\n", "1\nx\n2\n", "3\nx\n4\n", "", false, 2},
	{"two Conflicts, and a change of the one between", "a\nx\nb\ny\nc\n", "1\nx\n2\ny\n3\n", "4\nx\nb\ny\n5\n", "", false, 2},
	{"two Conflicts, and a change of both between", "a\nx\nb\ny\nc\n", "1\nx\n2\ny\n3\n", "4\nx\n2\ny\n5\n", "", false, 2},
	{"three Conflicts", "a\nx\nb\ny\nc", "1\nx\n2\ny\n3", "4\nx\n5\ny\n6", "", false, 3},
	{"a Conflict of several lines is one", "a\nb\nc\nx\n", "1\n2\n3\nx\n", "4\n5\n6\nx\n", "", false, 1},

	{"a last line gets an end by the one alone", "a\nb", "a\nb\n", "a\nb", "a\nb\n", true, 0},
	{"a last line gets an end by both", "a\nb", "a\nb\n", "a\nb\n", "a\nb\n", true, 0},
	{"a last line gets an end by the one, is changed by the other", "a\nb", "a\nb\n", "a\nB", "", false, 1},
	{"a last line gets an end by the one, the first is changed by the other", "a\nx\nb", "a\nx\nb\n", "A\nx\nb", "A\nx\nb\n", true, 0},
	{"a last line loses its end by the one, the first is changed by the other", "a\nx\nb\n", "a\nx\nb", "A\nx\nb\n", "A\nx\nb", true, 0},
	{"a last line without an end stands", "a\nx\nb", "A\nx\nb", "a\ny\nx\nb", "", false, 1},
	{"a last line without an end stands behind two changes", "a\nx\nc\nb", "A\nx\nc\nb", "a\nx\nb", "A\nx\nb", true, 0},
	{"lines are put behind a last one without an end", "a\nx\nb", "a\nx\nb\nc", "A\nx\nb", "A\nx\nb\nc", true, 0},
	{"lines are put behind a last one without an end by both", "x\nb", "x\nb\nc", "x\nb\nd", "", false, 1},
	{"texts of one line without an end", "a", "b", "c", "", false, 1},
	{"an end alone is put behind it by the one, a line by the other", "a", "a\n", "a\nb", "", false, 1},

	{"bytes that end no line", "a\r\nx\vy\nb\r", "A\r\nx\vy\nb\r", "a\r\nx\vy\nB\r", "A\r\nx\vy\nB\r", true, 0},
	{"bytes that are no runes", "\xff\nx\n\xc3\n\xa9\n", "\xfe\nx\n\xc3\n\xa9\n", "\xff\nx\n\xc3\n\xa8\n", "\xfe\nx\n\xc3\n\xa8\n", true, 0},
	{"bytes 1 and 48 are no byte 0", "\x01\nx\n0\n", "\x02\nx\n0\n", "\x01\nx\n00\n", "\x02\nx\n00\n", true, 0},
	{"great and small letters are unlike", "a\nx\n", "A\nx\n", "a\nX\n", "", false, 1},
}

// wantMerge holds Merge against what is to be.
func wantMerge(t *testing.T, what, base, a, b, merged string, ok bool) {
	t.Helper()
	if got, is := Merge(base, a, b); got != merged || is != ok {
		t.Errorf("Merge of %s: %q, %v, not %q, %v", what, got, is, merged, ok)
	}
}

// wantConflicts holds Conflicts against what is to be.
func wantConflicts(t *testing.T, what, base, a, b string, conflicts int) {
	t.Helper()
	if got := Conflicts(base, a, b); got != conflicts {
		t.Errorf("Conflicts of %s: %d, not %d", what, got, conflicts)
	}
}

// wantTold holds what both calls tell against what is to be, and likewise with a and b in each other's place, and where one changed nothing or both the same.
func wantTold(t *testing.T, c change) {
	t.Helper()
	wantMerge(t, c.what, c.base, c.a, c.b, c.merged, c.ok)
	wantMerge(t, c.what+", turned", c.base, c.b, c.a, c.merged, c.ok)
	wantConflicts(t, c.what, c.base, c.a, c.b, c.conflicts)
	wantConflicts(t, c.what+", turned", c.base, c.b, c.a, c.conflicts)
	for _, s := range []string{c.a, c.b} {
		wantMerge(t, c.what+", by the one alone", c.base, s, c.base, s, true)
		wantMerge(t, c.what+", by the other alone", c.base, c.base, s, s, true)
		wantMerge(t, c.what+", the same by both", c.base, s, s, s, true)
		wantConflicts(t, c.what+", by the one alone", c.base, s, c.base, 0)
		wantConflicts(t, c.what+", by the other alone", c.base, c.base, s, 0)
		wantConflicts(t, c.what+", the same by both", c.base, s, s, 0)
	}
}

func TestChanges(t *testing.T) {
	for _, c := range changes {
		wantTold(t, c)
		wantWords(t, c.base, c.a, c.b)
	}
}

func TestBinaryTexts(t *testing.T) {
	for _, c := range []change{
		{"base is Binary", "a\nx\nb\n\x00", "A\nx\nb\n", "a\nx\nB\n", "", false, 1},
		{"a byte 0 that would stand in all", "a\nx\x00\nb\n", "A\nx\x00\nb\n", "a\nx\x00\nB\n", "", false, 1},
		{"a byte 0 that both leave out", "\x00\na\nx\nb\n", "\nA\nx\nb\n", "\na\nx\nB\n", "", false, 1},
		{"one is Binary", "a\nx\nb\n", "A\x00\nx\nb\n", "a\nx\nB\n", "", false, 1},
		{"a byte 0 alone is put at the end", "a\nx\nb\n", "a\nx\nb\n\x00", "A\nx\nb\n", "", false, 1},
		{"a byte 0 first of all", "a\nx\nb\n", "\x00a\nx\nb\n", "a\nx\nB\n", "", false, 1},
		{"both are Binary", "a\nx\nb\n", "A\x00\nx\nb\n", "a\nx\nB\x00\n", "", false, 1},
		{"all are Binary", "a\x00", "b\x00", "c\x00", "", false, 1},
		{"a byte 0 alone", "", "\x00", "a", "", false, 1},
		{"of several unlike lines one is Binary", "a\nx\nb\n", "1\nx\n2\x00\n", "3\nx\n4\n", "", false, 1},
		{"of several unlike lines base alone is Binary", "a\nx\nb\x00\n", "1\nx\n2\n", "3\nx\n4\n", "", false, 1},
		{"of several unlike lines all are Binary", "a\nx\nb\x00\n", "1\nx\n2\x00\n", "3\nx\n4\x00\n", "", false, 1},
		{"both changed what is Binary to the same", "\x00", "a\n", "a\n", "a\n", true, 0},
		{"both made the same Binary one", "a\n", "\x00", "\x00", "\x00", true, 0},
		{"nobody changed what is Binary", "\x00", "\x00", "\x00", "\x00", true, 0},
		{"what is Binary is left out by the one alone", "a\x00", "", "a\x00", "", true, 0},
	} {
		wantTold(t, c)
		wantWords(t, c.base, c.a, c.b)
	}
}

// numbered answers a text of n lines, of which no two are alike, and which all end.
func numbered(n int) string {
	var s strings.Builder
	for i := range n {
		s.WriteString(string([]byte{byte('a' + i/26), byte('a' + i%26), '\n'}))
	}
	return s.String()
}

func TestTextsOfManyLines(t *testing.T) {
	most, more := numbered(api.MaxLines), numbered(api.MaxLines+1)
	less := numbered(api.MaxLines - 1)
	cut := strings.TrimSuffix(most, "\n")
	first := func(s string) string { return "A" + s[1:] }
	for _, c := range []change{
		{"as many lines as may be, in all", most, first(most), most[:len(most)-3] + "X\n", "A" + most[1:len(most)-3] + "X\n", true, 0},
		{"as many lines as may be, the last without an end", cut, first(cut), cut[:len(cut)-1] + "X", first(cut)[:len(cut)-1] + "X", true, 0},
		{"as many lines as may be, a last one without an end in a", less, less + "x", first(less), first(less) + "x", true, 0},
		{"as many lines as may be in base alone", most, most[3:], most[:len(most)-3], most[3 : len(most)-3], true, 0},
		{"as many lines as may be in a and b, one more behind the merge", less, "x\n" + less, less + "y\n", "x\n" + less + "y\n", true, 0},
		{"one line more in a", most, most + "x\n", first(most), "", false, 1},
		{"one line more in a, without an end", most, most + "x", first(most), "", false, 1},
		{"one line more in a and b", most, most + "x\n", "y\n" + most, "", false, 1},
		{"one line more in base alone", more, more[3:], more[:len(more)-3], "", false, 1},
		{"one line more in all", more, first(more), more + "x", "", false, 1},
		{"one line more, and several that are unlike", most, "1" + most[1:] + "x\n", "2" + most[1:] + "y\n", "", false, 1},
		{"one line more in base alone, and several that are unlike", more, "1\n" + more[3:len(more)-6] + "2\n", "3\n" + more[3:len(more)-6] + "4\n", "", false, 1},
		{"as many lines as may be, and two that are unlike", less, "1" + less[1:] + "x\n", "2" + less[1:] + "y\n", "", false, 2},
		{"too many lines, changed by both to the same", more, "x\n", "x\n", "x\n", true, 0},
		{"too many lines are made by both", "x\n", more, more, more, true, 0},
		{"too many lines that nobody changed", more, more, more, more, true, 0},
		{"too many lines, one left out by the one alone", more, more[3:], more, more[3:], true, 0},
		{"bytes 10, one more than may be", "x", strings.Repeat("\n", 61), "y", "", false, 1},
	} {
		wantTold(t, c)
		wantWords(t, c.base, c.a, c.b)
	}
}

func TestMergesOfManyBytes(t *testing.T) {
	base := "a\nx\nb\n"
	wide := func(n int) string { return strings.Repeat("w", n) }
	rest := "y\n" + wide(299)
	for _, c := range []change{
		{"just MaxData bytes", base, wide(200) + "\nx\nb\n", "a\nx\n" + wide(196) + "\n", wide(200) + "\nx\n" + wide(196) + "\n", true, 0},
		{"one byte less", base, wide(200) + "\nx\nb\n", "a\nx\n" + wide(195) + "\n", wide(200) + "\nx\n" + wide(195) + "\n", true, 0},
		{"one byte more", base, wide(200) + "\nx\nb\n", "a\nx\n" + wide(197) + "\n", "", false, 1},
		{"just MaxData bytes, without an end", base, wide(200) + "\nx\nb\n", "a\nx\n" + wide(197), wide(200) + "\nx\n" + wide(197), true, 0},
		{"one byte more, without an end", base, wide(200) + "\nx\nb\n", "a\nx\n" + wide(198), "", false, 1},
		{"just MaxData bytes, in fewer runes", base, strings.Repeat("é", 100) + "\nx\nb\n", "a\nx\n" + wide(196) + "\n", strings.Repeat("é", 100) + "\nx\n" + wide(196) + "\n", true, 0},
		{"more bytes, in fewer runes than MaxData", base, strings.Repeat("é", 150) + "\nx\nb\n", "a\nx\n" + wide(196) + "\n", "", false, 1},
		{"far more bytes", base, wide(100000) + "\nx\nb\n", "a\nx\n" + wide(100000) + "\n", "", false, 1},
		{"what stands in all has more bytes", wide(401) + "\nx\na\n", wide(401) + "\nx\nA\n", "n\n" + wide(401) + "\nx\na\n", "", false, 1},
		{"a has more bytes, what is merged has not", "a\nx\n" + rest, wide(200) + "\nx\n" + rest, "a\nx\n", wide(200) + "\nx\n", true, 0},
		{"all three have more bytes, what is merged has not", wide(300) + "\nx\n" + wide(300), "\nx\n" + wide(300), wide(300) + "\nx\n", "\nx\n", true, 0},
		{"more bytes, and a Conflict", base, wide(500) + "\nx\nb\n", wide(501) + "\nx\nb\n", "", false, 1},
		{"more bytes, and two Conflicts", base, wide(500) + "\nx\n1\n", wide(501) + "\nx\n2\n", "", false, 2},
		{"the one alone made more bytes", "a\n", wide(401), "a\n", wide(401), true, 0},
		{"both made the same of more bytes", "a\n", wide(401), wide(401), wide(401), true, 0},
		{"more bytes that nobody changed", wide(401), wide(401), wide(401), wide(401), true, 0},
	} {
		wantTold(t, c)
		wantWords(t, c.base, c.a, c.b)
	}
}

// linesOf answers the lines of s, without the help of the calls that are tested.
func linesOf(s string) []string {
	lines := strings.SplitAfter(s, "\n")
	if last := len(lines) - 1; lines[last] == "" {
		lines = lines[:last]
	}
	return lines
}

// words answers what the chapter's words come to, one by one.
func words(base, a, b string) (string, bool, int) {
	if a == b || b == base {
		return a, true, 0
	}
	if a == base {
		return b, true, 0
	}
	for _, s := range []string{base, a, b} {
		if strings.Contains(s, "\x00") || len(linesOf(s)) > 60 {
			return "", false, 1
		}
	}
	conflicts, merged := 0, ""
	for _, p := range three.Parts(linesOf(base), linesOf(a), linesOf(b)) {
		x, y, z := strings.Join(p.Base, ""), strings.Join(p.A, ""), strings.Join(p.B, "")
		switch {
		case y == z || z == x:
			merged += y
		case y == x:
			merged += z
		default:
			conflicts++
		}
	}
	if conflicts > 0 {
		return "", false, conflicts
	}
	if len(merged) > 400 {
		return "", false, 1
	}
	return merged, true, 0
}

// wantWords holds both calls against the chapter's words.
func wantWords(t *testing.T, base, a, b string) {
	t.Helper()
	merged, ok, conflicts := words(base, a, b)
	got, is := Merge(base, a, b)
	turned, turnedIs := Merge(base, b, a)
	if got != merged || is != ok || turned != merged || turnedIs != ok {
		t.Errorf("Merge of %q, %q, %q: %q, %v, turned %q, %v, not %q, %v", base, a, b, got, is, turned, turnedIs, merged, ok)
	}
	if n, m := Conflicts(base, a, b), Conflicts(base, b, a); n != conflicts || m != conflicts {
		t.Errorf("Conflicts of %q, %q, %q: %d, turned %d, not %d", base, a, b, n, m, conflicts)
	}
}

// all answers all texts of at most n of the bytes of letters.
func all(letters string, n int) []string {
	found := []string{""}
	for from := 0; n > 0; n-- {
		to := len(found)
		for _, s := range found[from:to] {
			for _, c := range []byte(letters) {
				found = append(found, s+string(c))
			}
		}
		from = to
	}
	return found
}

func TestAllShortTexts(t *testing.T) {
	for _, short := range [][]string{all("a\n", 4), all("ab\n", 2), all("\x00\na", 2)} {
		for _, base := range short {
			for _, a := range short {
				for _, b := range short {
					wantWords(t, base, a, b)
				}
			}
		}
	}
}

// randomLine answers a line of one of a few kinds: short, empty, wide, with a byte 0, and now and then without an end.
func randomLine(source *rand.Rand) string {
	s := string('a' + byte(source.Intn(20)))
	switch source.Intn(30) {
	case 0:
		s = ""
	case 1, 2, 3, 4, 5:
		s = strings.Repeat(s, 60)
	case 6:
		s += "\x00"
	}
	if source.Intn(40) == 0 {
		return s
	}
	return s + "\n"
}

// changed answers s with a few changes of its lines.
func changed(source *rand.Rand, s string) string {
	lines := linesOf(s)
	for range source.Intn(4) {
		at := source.Intn(len(lines) + 1)
		next := randomLine(source)
		switch kind := source.Intn(3); {
		case kind == 0 || at == len(lines):
			lines = append(lines[:at:at], append([]string{next}, lines[at:]...)...)
		case kind == 1:
			lines = append(lines[:at:at], lines[at+1:]...)
		default:
			lines[at] = next
		}
	}
	return strings.Join(lines, "")
}

func TestRandomTexts(t *testing.T) {
	source := rand.New(rand.NewSource(6))
	found := map[int]int{}
	for range 4000 {
		base := ""
		size := 12
		if source.Intn(8) == 0 {
			size = 70
		}
		for range source.Intn(size) {
			base += randomLine(source)
		}
		if source.Intn(4) > 0 {
			base = strings.ReplaceAll(base, "\x00", "")
		}
		a, b := changed(source, base), changed(source, base)
		wantWords(t, base, a, b)
		found[Conflicts(base, a, b)]++
	}
	if found[0] < 100 || found[1] < 100 || found[2] < 10 {
		t.Errorf("the texts are no trial of all: %v", found)
	}
}

func TestTextsOfManyBytesEnd(t *testing.T) {
	one := strings.Repeat("a", 1<<20)
	lines := strings.Repeat("a\n", 1<<20)
	wide := strings.Repeat(one+"\n", 20)
	for _, c := range []change{
		{"one line of many bytes", one, one + "x", one + "y", "", false, 1},
		{"many lines", lines, lines + "x", lines + "y", "", false, 1},
		{"lines of many bytes", wide, wide + "x", "y\n" + wide, "", false, 1},
		{"lines of many bytes, and two Conflicts", wide, "1\n" + wide + "2\n", "3\n" + wide + "4\n", "", false, 2},
	} {
		got, ok := Merge(c.base, c.a, c.b)
		if n := Conflicts(c.base, c.a, c.b); got != "" || ok || n != c.conflicts {
			t.Errorf("%s: %d bytes, %v, %d", c.what, len(got), ok, n)
		}
	}
}

func TestFromSeveralGoroutines(t *testing.T) {
	var group sync.WaitGroup
	for range 8 {
		group.Add(1)
		go func() {
			defer group.Done()
			for _, c := range changes {
				merged, ok := Merge(c.base, c.a, c.b)
				if n := Conflicts(c.base, c.a, c.b); merged != c.merged || ok != c.ok || n != c.conflicts {
					t.Errorf("%s, in a goroutine: %q, %v, %d", c.what, merged, ok, n)
				}
			}
		}()
	}
	group.Wait()
}
