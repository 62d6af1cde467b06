package line

import (
	"math/rand"
	"slices"
	"strings"
	"testing"

	"cortege/api"
)

// texts are those that the chapter's edges name, each with its lines.
var texts = []struct {
	what  string
	s     string
	lines []string
}{
	{"the empty text", "", nil},
	{"the chapter's example", "a\nb", []string{"a\n", "b"}},
	{"one line that does not end", "abc", []string{"abc"}},
	{"one line that ends", "abc\n", []string{"abc\n"}},
	{"a last line that ends", "a\nbc\n", []string{"a\n", "bc\n"}},
	{"a byte 10 alone", "\n", []string{"\n"}},
	{"bytes 10 alone", "\n\n\n", []string{"\n", "\n", "\n"}},
	{"bytes 10 in a row within", "a\n\n\nb", []string{"a\n", "\n", "\n", "b"}},
	{"bytes 10 in a row at the beginning", "\n\na", []string{"\n", "\n", "a"}},
	{"bytes 10 in a row at the end", "a\n\n", []string{"a\n", "\n"}},
	{"lines that are alike", "a\na\na", []string{"a\n", "a\n", "a"}},
	{"blanks", " \n\t\n ", []string{" \n", "\t\n", " "}},
	{"bytes 13", "a\r\nb\rc\r", []string{"a\r\n", "b\rc\r"}},
	{"other bytes that end lines elsewhere", "a\vb\fc\x85d\u0085\u2028e\n", []string{"a\vb\fc\x85d\u0085\u2028e\n"}},
	{"a byte 0 alone", "\x00", []string{"\x00"}},
	{"bytes 0", "\x00\n\x00\x00", []string{"\x00\n", "\x00\x00"}},
	{"bytes 255", "\xff\n\xff\xfe\n\xff", []string{"\xff\n", "\xff\xfe\n", "\xff"}},
	{"a rune that is cut by a byte 10", "\xe2\x82\n\xac", []string{"\xe2\x82\n", "\xac"}},
	{"runes", "é\n世界\n", []string{"é\n", "世界\n"}},
}

// list goes through Lines on its own, without the help of the calls that are tested.
func list(s string) []string {
	var all []string
	for l := range Lines(s) {
		all = append(all, l)
	}
	return all
}

func TestSplit(t *testing.T) {
	for _, c := range texts {
		if got := Split(c.s); !slices.Equal(got, c.lines) {
			t.Errorf("Split of %s: %q, not %q", c.what, got, c.lines)
		}
	}
}

func TestSplitsAnswersShareNothing(t *testing.T) {
	s := "a\nb\nc"
	first, second := Split(s), Split(s)
	first[0] = "x"
	_ = append(first[:1], "y")
	if !slices.Equal(second, []string{"a\n", "b\n", "c"}) || !slices.Equal(Split(s), second) {
		t.Errorf("Split, behind a changed answer: %q, %q", second, Split(s))
	}
}

func TestJoin(t *testing.T) {
	cases := []struct {
		what  string
		lines []string
		s     string
	}{
		{"none", []string{}, ""},
		{"a nil list", nil, ""},
		{"an empty one", []string{""}, ""},
		{"empty ones", []string{"", "", ""}, ""},
		{"empty ones between others", []string{"", "a", "", "b\n", ""}, "ab\n"},
		{"one", []string{"a"}, "a"},
		{"lines that end", []string{"a\n", "b\n"}, "a\nb\n"},
		{"lines that do not end", []string{"b", "a", "b"}, "bab"},
		{"a line that does not end ahead of one that does", []string{"a", "\n"}, "a\n"},
		{"several lines in one", []string{"a\nb\n", "\n\n", "c\nd"}, "a\nb\n\n\nc\nd"},
		{"bytes that are no text", []string{"\x00", "\xff", "\x00\n"}, "\x00\xff\x00\n"},
		{"the parts of a rune", []string{"\xe2", "\x82", "\xac"}, "\u20ac"},
	}
	for _, c := range cases {
		if got := Join(c.lines...); got != c.s {
			t.Errorf("Join of %s: %q, not %q", c.what, got, c.s)
		}
	}
	if got := Join(); got != "" {
		t.Errorf("Join of nothing: %q", got)
	}
}

func TestJoinLeavesItsListAlone(t *testing.T) {
	room := []string{"a\n", "", "b", "spare"}
	if got := Join(room[:3]...); got != "a\nb" {
		t.Errorf("Join: %q", got)
	}
	if !slices.Equal(room, []string{"a\n", "", "b", "spare"}) {
		t.Errorf("the list that was handed in: %q", room)
	}
}

func TestLines(t *testing.T) {
	for _, c := range texts {
		if got := list(c.s); !slices.Equal(got, c.lines) {
			t.Errorf("Lines of %s: %q, not %q", c.what, got, c.lines)
		}
	}
}

func TestLinesIsLeftEarlyAndGoneThroughAgain(t *testing.T) {
	for _, c := range texts {
		lines := Lines(c.s)
		for n := range len(c.lines) + 1 {
			var told []string
			for l := range lines {
				told = append(told, l)
				if len(told) == n {
					break
				}
			}
			// A loop that is to be left behind none is not left at all.
			want := c.lines
			if n > 0 {
				want = c.lines[:n]
			}
			if !slices.Equal(told, want) {
				t.Errorf("Lines of %s, left behind %d: %q, not %q", c.what, n, told, want)
			}
		}
	}
}

func TestLinesInsideItself(t *testing.T) {
	lines, pairs := Lines("a\nb"), ""
	for x := range lines {
		for y := range lines {
			pairs += x + y
		}
	}
	if pairs != "a\na\na\nbba\nbb" {
		t.Errorf("Lines inside Lines: %q", pairs)
	}
}

func TestBinary(t *testing.T) {
	cases := []struct {
		what   string
		s      string
		binary bool
	}{
		{"the empty text", "", false},
		{"a text", "a\nb\n", false},
		{"a byte 0 alone", "\x00", true},
		{"a byte 0 at the beginning", "\x00a\nb\n", true},
		{"a byte 0 within", "a\n\x00b\n", true},
		{"a byte 0 at the end", "a\nb\n\x00", true},
		{"a byte 0 far behind", strings.Repeat("a\n", 100000) + "\x00", true},
		{"bytes 0", "\x00\x00", true},
		{"the digit 0", "0", false},
		{"bytes that are no text", "\xff\x01\xfe\x80", false},
		{"bytes 10 and 13", "\r\n", false},
		{"a rune with a low byte of 0", "\u0100\u4e00", false},
	}
	for _, c := range cases {
		if got := Binary(c.s); got != c.binary {
			t.Errorf("Binary of %s: %v", c.what, got)
		}
	}
	every := make([]byte, 0, 255)
	for b := 1; b < 256; b++ {
		every = append(every, byte(b))
	}
	if Binary(string(every)) {
		t.Error("Binary of all bytes but 0")
	}
}

func TestFew(t *testing.T) {
	cases := []struct {
		what string
		s    string
		few  bool
	}{
		{"the empty text", "", true},
		{"one line that does not end", "a", true},
		{"one line that ends", "a\n", true},
		{"MaxLines that all end", strings.Repeat("a\n", api.MaxLines), true},
		{"MaxLines, the last one without an end", strings.Repeat("a\n", api.MaxLines-1) + "a", true},
		{"one more than MaxLines that all end", strings.Repeat("a\n", api.MaxLines+1), false},
		{"one more than MaxLines, the last one without an end", strings.Repeat("a\n", api.MaxLines) + "a", false},
		{"MaxLines bytes 10", strings.Repeat("\n", api.MaxLines), true},
		{"one more than MaxLines bytes 10", strings.Repeat("\n", api.MaxLines+1), false},
		{"one line less than MaxLines", strings.Repeat("\n", api.MaxLines-1), true},
		{"a long line", strings.Repeat("a", 100000), true},
		{"other bytes than 10", strings.Repeat("\r\v\f\x00\xff", 100), true},
		{"a great many lines", strings.Repeat("a\n", 1000000), false},
	}
	for _, c := range cases {
		if got := Few(c.s); got != c.few {
			t.Errorf("Few of %s: %v", c.what, got)
		}
	}
}

// wantParted looks for what P3.2 says of s, and whether the calls agree on its lines.
func wantParted(t *testing.T, s string) {
	t.Helper()
	lines := Split(s)
	if got := Join(lines...); got != s {
		t.Errorf("Join of Split of %q: %q", s, got)
	}
	if got := list(s); !slices.Equal(got, lines) {
		t.Errorf("Lines of %q: %q, but Split: %q", s, got, lines)
	}
	for i, l := range lines {
		at := strings.IndexByte(l, 10)
		if l == "" || at >= 0 && at != len(l)-1 || at < 0 && i != len(lines)-1 {
			t.Errorf("Split of %q: line %d is %q", s, i, l)
		}
	}
	if Few(s) != (len(lines) <= api.MaxLines) {
		t.Errorf("Few of %d lines: %v", len(lines), Few(s))
	}
}

func TestJoinOfSplitIsTheText(t *testing.T) {
	for _, c := range texts {
		wantParted(t, c.s)
	}
	source := rand.New(rand.NewSource(3))
	for range 2000 {
		s := make([]byte, source.Intn(200))
		for i := range s {
			s[i] = "\n\n\na\r\x00\xff"[source.Intn(7)]
		}
		wantParted(t, string(s))
	}
}

func TestALongText(t *testing.T) {
	wantParted(t, strings.Repeat("\n", 300000))
	wantParted(t, strings.Repeat("ab\n", 300000)+"c")
	wantParted(t, strings.Repeat("a", 3000000))
}
