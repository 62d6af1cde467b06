package tree

import (
	"fmt"
	"math/rand"
	"slices"
	"sort"
	"strings"
	"sync"
	"testing"

	"cortege/api"
	"cortege/sample"
)

// of makes files of paths and data, one behind the other: of("a", "1", "b", "2").
func of(pathsAndData ...string) []api.File { return sample.Files(pathsAndData...) }

// at makes files of paths, each with data of its own.
func at(paths ...string) []api.File {
	t := make([]api.File, 0, len(paths))
	for i, p := range paths {
		t = append(t, api.File{Path: p, Data: fmt.Sprint(i)})
	}
	return t
}

// rising makes n files that are a tree, if there may be so many.
func rising(n int) []api.File { return sample.Rising(n) }

// wild are lists of all kinds, most of them no trees.
func wild() [][]api.File {
	return [][]api.File{
		nil,
		{},
		of("", ""),
		of("a", "1"),
		of("a", "1", "b", "2", "c", "3"),
		of("c", "1", "b", "2", "a", "3"),
		of("b", "1", "a", "2", "b", "3"),
		of("b", "1", "b", "1", "b", "1"),
		of("a", "1", "a/b", "2", "a-b", "3", "a", "4"),
		of("\xff", "1", "\x00", "2", "", "3", "/", "4", "\xff", "5", "", "6"),
		of("é", "\xff", "z", "\x00", "世", ""),
		rising(api.MaxFiles),
		rising(api.MaxFiles + 5),
	}
}

// askedPaths are those that Get, Put and Drop are asked of each of wild.
func askedPaths() []string {
	return []string{"", "!", "a", "a-b", "a/b", "b", "bb", "c", "f00000", "f00003", "f00011", "~", "\x00", "\xff", "/", "é"}
}

func TestPath(t *testing.T) {
	long := strings.Repeat("p", api.MaxPath)
	cases := []struct {
		what string
		p    string
		path bool
	}{
		{"the empty text", "", false},
		{"1 byte", "a", true},
		{"the least byte", "!", true},
		{"the greatest byte", "~", true},
		{"the least and the greatest byte", "!~", true},
		{"the byte below the least", " ", false},
		{"the byte above the greatest", "\x7f", false},
		{"the byte below the least within", "a b", false},
		{"the byte above the greatest within", "a\x7fb", false},
		{"the byte below the least at the end", "ab ", false},
		{"the byte above the greatest at the end", "ab\x7f", false},
		{"the byte below the least in a second part", "a/ ", false},
		{"the byte above the greatest in a first part", "\x7f/a", false},
		{"a byte 0", "a\x00", false},
		{"a byte 10", "a\n", false},
		{"a byte 9", "\ta", false},
		{"a byte 128", "\x80", false},
		{"a byte 255", "\xff", false},
		{"a rune of several bytes", "é", false},
		{"MaxPath bytes", long, true},
		{"one more than MaxPath bytes", long + "p", false},
		{"many more than MaxPath bytes", strings.Repeat("p/", 100000) + "p", false},
		{"MaxPath bytes in parts", strings.Repeat("p/", api.MaxPath/2-1) + "pp", true},
		{"one more than MaxPath bytes in parts", strings.Repeat("p/", api.MaxPath/2) + "p", false},
		{"MaxPath bytes, the last one a slash", strings.Repeat("p/", api.MaxPath/2), false},
		{"one byte less than MaxPath", long[1:], true},
		{"two parts", "a/b", true},
		{"three parts", "a/bc/d", true},
		{"a slash alone", "/", false},
		{"two slashes alone", "//", false},
		{"a slash first", "/a", false},
		{"a slash last", "a/", false},
		{"two slashes side by side", "a//b", false},
		{"three slashes side by side", "a///b", false},
		{"two slashes side by side first", "//a/b", false},
		{"two slashes side by side last", "a/b//", false},
		{"a dot", ".", true},
		{"two dots", "..", true},
		{"dots as parts", "../a/.", true},
		{"a backslash first", "\\a", true},
		{"the bytes beside a slash", "./0", true},
	}
	for _, c := range cases {
		if got := Path(c.p); got != c.path {
			t.Errorf("Path of %s: %v", c.what, got)
		}
	}
}

func TestPathOfEachByte(t *testing.T) {
	for b := range 256 {
		c := string([]byte{byte(b)})
		inside := b >= '!' && b <= '~'
		if got, want := Path(c), inside && c != "/"; got != want {
			t.Errorf("Path of the byte %d alone: %v", b, got)
		}
		if got := Path("a" + c + "b"); got != inside {
			t.Errorf("Path with the byte %d within: %v", b, got)
		}
		if got, want := Path("a"+c), inside && c != "/"; got != want {
			t.Errorf("Path with the byte %d last: %v", b, got)
		}
	}
}

// byWords tells what a path is, as the chapter's words go.
func byWords(p string) bool {
	for i := range len(p) {
		if p[i] < '!' || p[i] > '~' {
			return false
		}
	}
	return len(p) >= 1 && len(p) <= api.MaxPath && p[0] != '/' && p[len(p)-1] != '/' && !strings.Contains(p, "//")
}

// words calls f with each text of at most n of letters.
func words(letters string, n int, f func(string)) {
	f("")
	if n == 0 {
		return
	}
	var more func(string)
	more = func(s string) {
		for i := range len(letters) {
			w := s + letters[i:i+1]
			f(w)
			if len(w) < n {
				more(w)
			}
		}
	}
	more("")
}

func TestPathAgainstTheWords(t *testing.T) {
	words("a/ !~\x7f", 6, func(p string) {
		if Path(p) != byWords(p) {
			t.Fatalf("Path(%q): %v", p, Path(p))
		}
	})
	random := rand.New(rand.NewSource(7))
	for range 20000 {
		b := make([]byte, random.Intn(api.MaxPath+6))
		for i := range b {
			b[i] = "abcd/"[random.Intn(5)]
			if i > 0 && b[i] == '/' && b[i-1] == '/' && random.Intn(20) > 0 {
				b[i] = 'e'
			}
		}
		if p := string(b); Path(p) != byWords(p) {
			t.Fatalf("Path(%q): %v", p, Path(p))
		}
	}
}

func TestMay(t *testing.T) {
	much := strings.Repeat("x", api.MaxData)
	cases := []struct {
		what string
		t    []api.File
		may  bool
	}{
		{"a nil list", nil, true},
		{"an empty list", []api.File{}, true},
		{"one file", at("a"), true},
		{"one file without data", of("a", ""), true},
		{"data of any bytes", of("a", "\x00\xff\n", "b", "é"), true},
		{"files with the same data", of("a", "x", "b", "x"), true},
		{"MaxFiles files", rising(api.MaxFiles), true},
		{"one more than MaxFiles files", rising(api.MaxFiles + 1), false},
		{"many more than MaxFiles files", rising(2000), false},
		{"paths that fall", at("b", "a"), false},
		{"paths that fall at the end", at("a", "c", "b"), false},
		{"paths that fall at the beginning", at("b", "a", "c"), false},
		{"a last path that is the least", at("b", "c", "a"), false},
		{"a path twice", at("a", "a"), false},
		{"a path twice, with the same data", of("a", "1", "a", "1"), false},
		{"a path twice with one between", at("a", "b", "a"), false},
		{"a path twice at the end", at("a", "b", "b"), false},
		{"paths that rise by bytes, not by letters", at("B", "a"), true},
		{"paths that rise by letters, not by bytes", at("a", "B"), false},
		{"a path that is the beginning of the next one", at("a", "ab"), true},
		{"a path that is the beginning of the one ahead", at("ab", "a"), false},
		{"the path that is none alone", at(""), false},
		{"a path that is none first", at("", "a"), false},
		{"a path that is none last", at("a", "b/"), false},
		{"a path that is none within", at("a", "b c", "d"), false},
		{"a path of a byte beyond", at("a", "\xff"), false},
		{"a path of MaxPath bytes", at(strings.Repeat("p", api.MaxPath)), true},
		{"a path of one more than MaxPath bytes", at(strings.Repeat("p", api.MaxPath+1)), false},
		{"data of MaxData bytes", of("a", much), true},
		{"data of one more than MaxData bytes", of("a", much+"x"), false},
		{"data of MaxData bytes in each", of("a", much, "b", much, "c", much), true},
		{"data of one more than MaxData bytes in the last", of("a", much, "b", much, "c", much+"x"), false},
		{"data of one more than MaxData bytes in the first", of("a", much+"x", "b", "", "c", ""), false},
		{"a file under another one", at("a", "a/b"), false},
		{"a file under another one, ahead of it", at("a/b", "a"), false},
		{"a file far under another one", at("a", "a/b/c/d"), false},
		{"a file under one of two parts", at("a/b", "a/b/c"), false},
		{"a file under another one, with a third one between", at("a", "a-b", "a/b"), false},
		{"a file under one of two parts, with a third one between", at("a/b", "a/b!", "a/b/c"), false},
		{"a file under another one, with several between", at("a", "a!", "a#", "a+", "a-", "a.", "a/z"), false},
		{"a file under another one, at the two ends", append(append(at("a"), at("a!1", "a!2", "a!3", "a!4", "a!5", "a!6", "a!7", "a!8", "a!9", "a!:")...), at("a/b")...), false},
		{"files beside one", at("a-b", "a/b", "a0", "ab"), true},
		{"files of one folder", at("a/b", "a/c", "a/d/e"), true},
		{"a file beside one whose path is its beginning", at("a", "a-b"), true},
		{"a file beside one whose path is its beginning in a folder", at("a/b", "a/b-", "a/bc", "a/c/d"), true},
		{"a file under one whose name is its beginning", at("a", "ab/c"), true},
		{"a folder's file behind a greater path", at("b", "a/b"), false},
		{"a file with another one's path as its second part", at("a/b", "b"), true},
	}
	for _, c := range cases {
		if got := May(c.t); got != c.may {
			t.Errorf("May of %s: %v", c.what, got)
		}
	}
}

// mayByWords tells what a tree is, as the chapter's words go.
func mayByWords(t []api.File) bool {
	for i, f := range t {
		if !byWords(f.Path) || len(f.Data) > api.MaxData {
			return false
		}
		for j, g := range t {
			if i < j && f.Path >= g.Path {
				return false
			}
			if i != j && len(f.Path) > len(g.Path)+1 && f.Path[:len(g.Path)+1] == g.Path+"/" {
				return false
			}
		}
	}
	return len(t) <= api.MaxFiles
}

func TestMayAgainstTheWords(t *testing.T) {
	var paths []string
	words("a/-", 3, func(p string) { paths = append(paths, p) })
	for _, p := range paths {
		for _, q := range paths {
			if l := at(p, q); May(l) != mayByWords(l) {
				t.Fatalf("May(%q, %q): %v", p, q, May(l))
			}
		}
	}
	// Most of these are trees, or fail to be one by one thing alone.
	good := slices.DeleteFunc(paths, func(p string) bool { return !byWords(p) })
	slices.Sort(good)
	random, trees := rand.New(rand.NewSource(7)), 0
	for range 100000 {
		var l []api.File
		for _, p := range good {
			if random.Intn(5) == 0 {
				l = append(l, api.File{Path: p})
			}
		}
		if len(l) > 1 && random.Intn(10) == 0 {
			i, j := random.Intn(len(l)), random.Intn(len(l))
			l[i], l[j] = l[j], l[i]
		}
		if May(l) != mayByWords(l) {
			t.Fatalf("May(%v): %v", l, May(l))
		}
		if May(l) {
			trees++
		}
	}
	if trees < 1000 {
		t.Errorf("of the lists that were tried only %d are trees", trees)
	}
}

func TestGet(t *testing.T) {
	raw := of("b", "1", "a", "2", "b", "3", "a/b", "4", "", "5", "\xff", "6", "e", "")
	cases := []struct {
		what string
		t    []api.File
		p    string
		data string
		ok   bool
	}{
		{"no files", nil, "a", "", false},
		{"no files at the empty path", []api.File{}, "", "", false},
		{"one that stands there once", raw, "a", "2", true},
		{"one that stands there twice", raw, "b", "1", true},
		{"one in a folder", raw, "a/b", "4", true},
		{"one without data", raw, "e", "", true},
		{"a path that is none", raw, "", "5", true},
		{"a path of a byte beyond", raw, "\xff", "6", true},
		{"one that does not stand there", raw, "c", "", false},
		{"a beginning of one that stands there", raw, "a/", "", false},
		{"one with more than one that stands there", raw, "bb", "", false},
		{"the same letters, but great", raw, "A", "", false},
		{"the data of one", raw, "1", "", false},
		{"the last of many", rising(2000), "f01999", "1999", true},
	}
	for _, c := range cases {
		if data, ok := Get(c.t, c.p); data != c.data || ok != c.ok {
			t.Errorf("Get of %s: %q, %v", c.what, data, ok)
		}
	}
}

func TestPut(t *testing.T) {
	three := of("b", "1", "d", "2", "f", "3")
	raw := of("c", "1", "a", "2", "c", "3", "b", "4", "a", "5", "c", "6")
	cases := []struct {
		what string
		t    []api.File
		p, d string
		want []api.File
	}{
		{"none", nil, "x", "y", of("x", "y")},
		{"an empty list", []api.File{}, "x", "", of("x", "")},
		{"ahead of all", three, "a", "9", of("a", "9", "b", "1", "d", "2", "f", "3")},
		{"behind all", three, "g", "9", of("b", "1", "d", "2", "f", "3", "g", "9")},
		{"between", three, "c", "9", of("b", "1", "c", "9", "d", "2", "f", "3")},
		{"in place of the first", three, "b", "9", of("b", "9", "d", "2", "f", "3")},
		{"in place of one within", three, "d", "9", of("b", "1", "d", "9", "f", "3")},
		{"in place of the last", three, "f", "9", of("b", "1", "d", "2", "f", "9")},
		{"in place of the one file", of("a", "1"), "a", "9", of("a", "9")},
		{"with the data that it has", three, "d", "2", three},
		{"no data in place of some", three, "d", "", of("b", "1", "d", "", "f", "3")},
		{"in place of several", raw, "c", "9", of("a", "2", "a", "5", "b", "4", "c", "9")},
		{"in place of all", of("a", "1", "a", "2", "a", "3"), "a", "9", of("a", "9")},
		{"in place of two of other ones' paths", raw, "a", "9", of("a", "9", "b", "4", "c", "1", "c", "3", "c", "6")},
		{"into no tree, ahead of all", raw, "0", "9", of("0", "9", "a", "2", "a", "5", "b", "4", "c", "1", "c", "3", "c", "6")},
		{"into no tree, between", raw, "a-", "9", of("a", "2", "a", "5", "a-", "9", "b", "4", "c", "1", "c", "3", "c", "6")},
		{"into no tree, behind all", raw, "d", "9", of("a", "2", "a", "5", "b", "4", "c", "1", "c", "3", "c", "6", "d", "9")},
		{"a path that is none: empty", three, "", "9", of("", "9", "b", "1", "d", "2", "f", "3")},
		{"a path that is none: a slash last", three, "d/", "9", of("b", "1", "d", "2", "d/", "9", "f", "3")},
		{"a path that is none: a byte beyond", three, "\xff", "9", of("b", "1", "d", "2", "f", "3", "\xff", "9")},
		{"a path that is none in place of one", of("", "1", " ", "2", "a", "3"), " ", "9", of("", "1", " ", "9", "a", "3")},
		{"under another one", three, "d/e", "9", of("b", "1", "d", "2", "d/e", "9", "f", "3")},
		{"by bytes, not by parts", of("a", "1", "a/b", "2"), "a-b", "9", of("a", "1", "a-b", "9", "a/b", "2")},
		{"by bytes, not by letters", three, "E", "9", of("E", "9", "b", "1", "d", "2", "f", "3")},
		{"more data than MaxData", three, "c", strings.Repeat("x", api.MaxData+1), of("b", "1", "c", strings.Repeat("x", api.MaxData+1), "d", "2", "f", "3")},
	}
	for _, c := range cases {
		if got := Put(c.t, c.p, c.d); !slices.Equal(got, c.want) {
			t.Errorf("Put %s: %q, not %q", c.what, got, c.want)
		}
	}
	many := Put(rising(api.MaxFiles), "z", "9")
	if want := append(rising(api.MaxFiles), api.File{Path: "z", Data: "9"}); !slices.Equal(many, want) {
		t.Errorf("Put one more than MaxFiles: %q", many)
	}
}

// putByWords puts each path's files one behind the other, the paths rising.
func putByWords(t []api.File, p, d string) []api.File {
	paths := map[string][]api.File{p: {{Path: p, Data: d}}}
	for _, f := range t {
		if f.Path != p {
			paths[f.Path] = append(paths[f.Path], f)
		}
	}
	var names []string
	for name := range paths {
		names = append(names, name)
	}
	sort.Strings(names)
	var all []api.File
	for _, name := range names {
		all = append(all, paths[name]...)
	}
	return all
}

func TestPutAgainstTheWords(t *testing.T) {
	for _, l := range wild() {
		for _, p := range askedPaths() {
			if got, want := Put(l, p, "new"), putByWords(l, p, "new"); !slices.Equal(got, want) {
				t.Fatalf("Put of %q at %q: %q, not %q", l, p, got, want)
			}
		}
	}
	// Lists that are long, with few paths: a sort that mixes up those of one path is found out.
	random := rand.New(rand.NewSource(7))
	for range 300 {
		var l []api.File
		for i := range random.Intn(200) {
			l = append(l, api.File{Path: "abc/de"[random.Intn(6):], Data: fmt.Sprint(i)})
		}
		p := []string{"c/de", "e", "x"}[random.Intn(3)]
		if got, want := Put(l, p, "new"), putByWords(l, p, "new"); !slices.Equal(got, want) {
			t.Fatalf("Put of %q at %q: %q, not %q", l, p, got, want)
		}
	}
}

func TestDrop(t *testing.T) {
	raw := of("c", "1", "a", "2", "c", "3", "b", "4", "a", "5", "c", "6")
	cases := []struct {
		what string
		t    []api.File
		p    string
		want []api.File
	}{
		{"of none", nil, "a", nil},
		{"of an empty list", []api.File{}, "", nil},
		{"the one file", of("a", "1"), "a", nil},
		{"the first", of("a", "1", "b", "2", "c", "3"), "a", of("b", "2", "c", "3")},
		{"one within", of("a", "1", "b", "2", "c", "3"), "b", of("a", "1", "c", "3")},
		{"the last", of("a", "1", "b", "2", "c", "3"), "c", of("a", "1", "b", "2")},
		{"one that stands there once, of no tree", raw, "b", of("c", "1", "a", "2", "c", "3", "a", "5", "c", "6")},
		{"one that stands there twice", raw, "a", of("c", "1", "c", "3", "b", "4", "c", "6")},
		{"one that stands there several times", raw, "c", of("a", "2", "b", "4", "a", "5")},
		{"all, at one path", of("a", "1", "a", "2"), "a", nil},
		{"one that is not there", raw, "d", raw},
		{"a path that is none, and not there", raw, "", raw},
		{"a path that is none, and there", of("b", "1", "", "2", "a", "3"), "", of("b", "1", "a", "3")},
		{"what stands under it stays", of("a", "1", "a/b", "2"), "a", of("a/b", "2")},
		{"what it stands under stays", of("a", "1", "a/b", "2"), "a/b", of("a", "1")},
		{"the beginning of a path", of("ab", "1"), "a", of("ab", "1")},
	}
	for _, c := range cases {
		if got := Drop(c.t, c.p); !slices.Equal(got, c.want) {
			t.Errorf("Drop of %s: %q, not %q", c.what, got, c.want)
		}
	}
}

func TestSame(t *testing.T) {
	cases := []struct {
		what string
		a, b []api.File
		same bool
	}{
		{"a nil and an empty list", nil, []api.File{}, true},
		{"two nil lists", nil, nil, true},
		{"two empty lists", []api.File{}, []api.File{}, true},
		{"two that are alike", of("a", "1", "b", "2"), of("a", "1", "b", "2"), true},
		{"two that are alike and no trees", of("b", "1", "a/", "2", "b", "1"), of("b", "1", "a/", "2", "b", "1"), true},
		{"a path", of("a", "1", "b", "2"), of("a", "1", "c", "2"), false},
		{"the first path", of("a", "1", "b", "2"), of("0", "1", "b", "2"), false},
		{"data", of("a", "1", "b", "2"), of("a", "1", "b", "3"), false},
		{"the first data", of("a", "1", "b", "2"), of("a", "", "b", "2"), false},
		{"order", of("a", "1", "b", "2"), of("b", "2", "a", "1"), false},
		{"the order of one path", of("a", "1", "a", "2"), of("a", "2", "a", "1"), false},
		{"length", of("a", "1", "b", "2"), of("a", "1"), false},
		{"one and none", of("a", "1"), nil, false},
		{"the empty file and none", of("", ""), nil, false},
		{"one twice", of("a", "1", "a", "1"), of("a", "1"), false},
		{"where the path ends", of("ab", "c"), of("a", "bc"), false},
		{"path and data", of("a", "b"), of("b", "a"), false},
		{"great and small letters", of("a", "1"), of("A", "1"), false},
	}
	for _, c := range cases {
		if Same(c.a, c.b) != c.same || Same(c.b, c.a) != c.same {
			t.Errorf("Same of two that are unlike, if at all, in %s: %v, %v", c.what, Same(c.a, c.b), Same(c.b, c.a))
		}
	}
}

func TestPaths(t *testing.T) {
	cases := []struct {
		what string
		ts   [][]api.File
		want []string
	}{
		{"no lists", nil, nil},
		{"a nil list", [][]api.File{nil}, nil},
		{"empty lists", [][]api.File{nil, {}, nil}, nil},
		{"one file", [][]api.File{at("a")}, []string{"a"}},
		{"one list", [][]api.File{at("a", "b", "b/c")}, []string{"a", "b", "b/c"}},
		{"two that share nothing", [][]api.File{at("b", "d"), at("a", "c", "e")}, []string{"a", "b", "c", "d", "e"}},
		{"two that are alike", [][]api.File{at("a", "b"), at("a", "b")}, []string{"a", "b"}},
		{"several that share paths", [][]api.File{at("a", "b", "d"), at("b", "c", "d"), at("a", "d", "e")}, []string{"a", "b", "c", "d", "e"}},
		{"empty ones between others", [][]api.File{nil, at("b"), {}, at("a"), nil}, []string{"a", "b"}},
		{"a path three times in one", [][]api.File{at("b", "a", "b", "b")}, []string{"a", "b"}},
		{"lists that are no trees", [][]api.File{at("z", "a/", "z", ""), at("", "\xff", "a", "a/b", "a-b")}, []string{"", "a", "a-b", "a/", "a/b", "z", "\xff"}},
		{"by bytes, not by letters", [][]api.File{at("a", "B", "b", "A")}, []string{"A", "B", "a", "b"}},
	}
	for _, c := range cases {
		if got := Paths(c.ts...); !slices.Equal(got, c.want) {
			t.Errorf("Paths of %s: %q, not %q", c.what, got, c.want)
		}
	}
	if got := Paths(); len(got) != 0 {
		t.Errorf("Paths of nothing: %q", got)
	}
}

func TestAll(t *testing.T) {
	for _, l := range wild() {
		all := All(l)
		for n := range len(l) + 1 {
			var told []api.File
			for p, d := range all {
				told = append(told, api.File{Path: p, Data: d})
				if len(told) == n {
					break
				}
			}
			// A loop that is to be left behind none is not left at all.
			want := l
			if n > 0 {
				want = l[:n]
			}
			if !slices.Equal(told, want) {
				t.Errorf("All of %q, left behind %d: %q", l, n, told)
			}
		}
	}
}

func TestAllInsideItself(t *testing.T) {
	all, pairs := All(of("a", "1", "b", "2")), ""
	for p := range all {
		for q, d := range all {
			pairs += p + q + d + " "
		}
	}
	if pairs != "aa1 ab2 ba1 bb2 " {
		t.Errorf("All inside All: %q", pairs)
	}
}

func TestAllTellsTheFilesAsTheyWere(t *testing.T) {
	room := of("b", "1", "a", "2", "spare", "3")
	all := All(room[:2])
	told := ""
	for p, d := range all {
		told += p + d
		room[1] = api.File{Path: "x", Data: "9"}
	}
	for p, d := range all {
		told += p + d
	}
	if told != "b1a2b1a2" {
		t.Errorf("All, behind a change of its list: %q", told)
	}
	if !slices.Equal(room, of("b", "1", "x", "9", "spare", "3")) {
		t.Errorf("the list, behind All: %q", room)
	}
}

func TestListsThatAreHandedInStayAsTheyWere(t *testing.T) {
	for _, l := range wild() {
		room := append(slices.Clone(l), of("spare", "1", "a", "2", "spare", "3")...)
		kept := slices.Clone(room)
		handed := room[:len(l)]
		for _, p := range askedPaths() {
			Get(handed, p)
			sample.Spoil(Put(handed, p, "new"), api.File{Path: "spoilt"})
			sample.Spoil(Drop(handed, p), api.File{Path: "spoilt"})
		}
		May(handed)
		Same(handed, handed)
		ts := [][]api.File{handed, nil, handed, room[:0]}
		sample.Spoil(Paths(ts[:3]...), "spoilt")
		for range All(handed) {
		}
		if !slices.Equal(room, kept) {
			t.Errorf("the list %q, behind all calls: %q", kept, room)
		}
		if len(ts[0]) != len(handed) || ts[1] != nil || len(ts[2]) != len(handed) || ts[3] == nil {
			t.Errorf("the lists that were handed in, behind Paths: %q", ts)
		}
	}
}

func TestAnswersShareNothing(t *testing.T) {
	for _, l := range wild() {
		for _, p := range askedPaths() {
			handed := slices.Clone(l)
			put, again := Put(handed, p, "new"), Put(handed, p, "new")
			drop, twice := Drop(handed, p), Drop(handed, p)
			paths, more := Paths(handed), Paths(handed)
			wantPut, wantDrop, wantPaths := slices.Clone(put), slices.Clone(drop), slices.Clone(paths)
			sample.Spoil(handed, api.File{Path: "spoilt"})
			sample.Spoil(again, api.File{Path: "spoilt"})
			sample.Spoil(twice, api.File{Path: "spoilt"})
			sample.Spoil(more, "spoilt")
			if !slices.Equal(put, wantPut) || !slices.Equal(drop, wantDrop) || !slices.Equal(paths, wantPaths) {
				t.Errorf("of %q at %q, behind a change of the list and of other answers: %q, %q, %q", l, p, put, drop, paths)
			}
		}
	}
}

func TestSeveralGoroutines(t *testing.T) {
	l, all := rising(api.MaxFiles), All(rising(api.MaxFiles))
	var group sync.WaitGroup
	for range 8 {
		group.Go(func() {
			for range 50 {
				told := 0
				for range all {
					told++
				}
				_, ok := Get(l, "f00003")
				put := Put(Drop(l, "f00003"), "f00003", "3")
				if told != api.MaxFiles || !ok || !May(l) || !Same(put, l) || len(Paths(l, put)) != api.MaxFiles {
					t.Error("calls from several goroutines")
				}
			}
		})
	}
	group.Wait()
}

func TestListsThatAreFarTooLong(t *testing.T) {
	const n = 200000
	l := rising(n)
	slices.Reverse(l)
	if May(l) {
		t.Error("May of far too many files")
	}
	if put := Put(l, "z", ""); len(put) != n+1 || put[0].Path != "f00000" || put[n].Path != "z" {
		t.Errorf("Put of far too many files: %d", len(put))
	}
	if drop := Drop(l, "f00000"); len(drop) != n-1 {
		t.Errorf("Drop of far too many files: %d", len(drop))
	}
	if paths := Paths(l, l, l); len(paths) != n {
		t.Errorf("Paths of far too many files: %d", len(paths))
	}
	if Path(strings.Repeat("/", 1<<24)) {
		t.Error("Path of far too many bytes")
	}
}
