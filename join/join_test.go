package join

import (
	"fmt"
	"math/rand"
	"slices"
	"sort"
	"strings"
	"sync"
	"testing"

	"cortege/api"
	"cortege/sample"
	"cortege/text"
	"cortege/tree"
)

// of makes files of paths and data, one behind the other: of("a", "1", "b", "2").
func of(pathsAndData ...string) []api.File { return sample.Files(pathsAndData...) }

// run makes files of one data whose paths begin alike and go on by numbers, from one to ahead of the other.
func run(beginning string, from, to int, data string) []api.File {
	var t []api.File
	for i := from; i < to; i++ {
		t = append(t, api.File{Path: fmt.Sprintf("%s%05d", beginning, i), Data: data})
	}
	return t
}

// all makes one list of several, by rising paths.
func all(ts ...[]api.File) []api.File {
	joined := slices.Concat(ts...)
	sort.SliceStable(joined, func(i, j int) bool { return joined[i].Path < joined[j].Path })
	return joined
}

// merge is what two made of a tree, and what comes of it.
type merge struct {
	what       string
	base, a, b []api.File
	files      []api.File
	conflicts  []string
	virtual    []api.File
}

// check holds what both calls tell against what is to be, as it is handed in and with a and b in each other's place.
func check(t *testing.T, m merge) {
	t.Helper()
	for _, turned := range []bool{false, true} {
		a, b, what := m.a, m.b, m.what
		if turned {
			a, b, what = m.b, m.a, what+", turned"
		}
		files, conflicts := Of(m.base, a, b)
		if !slices.Equal(files, m.files) || !slices.Equal(conflicts, m.conflicts) {
			t.Errorf("Of %s: %q, %q, not %q, %q", what, files, conflicts, m.files, m.conflicts)
		}
		if virtual := Virtual(m.base, a, b); !slices.Equal(virtual, m.virtual) {
			t.Errorf("Virtual of %s: %q, not %q", what, virtual, m.virtual)
		}
	}
}

// none stands, in the place of data, for a file that is missing.
const none = "(none)"

// one makes the file at x of its data, or none.
func one(data string) []api.File {
	if data == none {
		return nil
	}
	return of("x", data)
}

// lines answers n lines that all end, of which no two are alike.
func lines(n int) string {
	var s strings.Builder
	for i := range n {
		s.WriteString(string([]byte{byte('a' + i/26), byte('a' + i%26), '\n'}))
	}
	return s.String()
}

// onePath is what two made of one file; clash tells that they do not go together, and then came is what base has.
type onePath struct {
	what       string
	base, a, b string
	came       string
	clash      bool
}

// onePaths are all ways in which a file may be there or not, and those that lines go by.
func onePaths() []onePath {
	few, most := lines(api.MaxLines), strings.Repeat("m", api.MaxData-2)
	half := strings.Repeat("h", api.MaxData/2-2)
	return []onePath{
		{"none has it", none, none, none, none, false},
		{"one alone puts it in", none, none, "1", "1", false},
		{"one alone puts in an empty one", none, none, "", "", false},
		{"both put in the same", none, "1", "1", "1", false},
		{"both put in an empty one", none, "", "", "", false},
		{"both put in other data", none, "1", "2", none, true},
		{"both put it in, the one with no data", none, "", "1", "1", false},
		{"both put in lines that begin alike", none, "x\ny\n", "x\nz\n", none, true},
		{"both put in lines, of which the one has more", none, "x\n", "x\ny\n", none, true},

		{"nobody changes it", "1", "1", "1", "1", false},
		{"nobody changes an empty one", "", "", "", "", false},
		{"one alone changes it", "1", "1", "2", "2", false},
		{"one alone empties it", "1", "1", "", "", false},
		{"one alone fills an empty one", "", "", "1", "1", false},
		{"one alone makes it Binary", "1", "1", "\x00", "\x00", false},
		{"one alone changes what is Binary", "\x00", "\x00", "1", "1", false},
		{"one alone makes it as long as may be", "1", "1", most + "mm", most + "mm", false},
		{"both make the same of it", "1", "2", "2", "2", false},
		{"both empty it", "1", "", "", "", false},
		{"both fill an empty one alike", "", "1", "1", "1", false},
		{"both make the same Binary one of it", "1", "\x00", "\x00", "\x00", false},
		{"both make other data of it", "1", "2", "3", "1", true},
		{"both change it, the one to no data", "1", "", "2", "1", true},
		{"both fill an empty one with other data", "", "1", "2", "", true},

		{"both leave it out", "1", none, none, none, false},
		{"both leave out an empty one", "", none, none, none, false},
		{"one alone leaves it out", "1", none, "1", none, false},
		{"one alone leaves out an empty one", "", none, "", none, false},
		{"one leaves it out, the other changes it", "1", none, "2", "1", true},
		{"one leaves it out, the other empties it", "1", none, "", "1", true},
		{"one leaves out an empty one, the other fills it", "", none, "1", "", true},
		{"one leaves it out, the other puts lines behind it", "a\n", none, "a\nb\n", "a\n", true},

		{"lines that merge", "a\nx\nb\n", "A\nx\nb\n", "a\nx\nB\n", "A\nx\nB\n", false},
		{"lines that merge to none", "a\nx\nb\n", "x\nb\n", "a\nx\n", "x\n", false},
		{"lines that lie together", "a\nb\n", "A\nb\n", "a\nB\n", "a\nb\n", true},
		{"of several lines one that does not merge", "a\nx\nb\ny\nc\n", "A\nx\n1\ny\nc\n", "a\nx\n2\ny\nC\n", "a\nx\nb\ny\nc\n", true},
		{"lines of bytes that are no runes", "\xff\nx\n\xc3\n", "\xfe\nx\n\xc3\n", "\xff\nx\n\xa9\n", "\xfe\nx\n\xa9\n", false},
		{"lines that merge but for a byte 0 of the one", "a\nx\nb\n", "\x00\nx\nb\n", "a\nx\nB\n", "a\nx\nb\n", true},
		{"lines that merge but for a byte 0 of base", "\x00\nx\nb\n", "A\nx\nb\n", "\x00\nx\nB\n", "\x00\nx\nb\n", true},
		{"as many lines as may be that merge", few, "A\n" + few[3:], few[:len(few)-3] + "B\n", "A\n" + few[3:len(few)-3] + "B\n", false},
		{"lines that would merge, but base has one more", few + "+\n", "A\n" + few[3:], few, few + "+\n", true},
		{"lines that would merge, but the one has one more", few, "A\n" + few, few[:len(few)-3], few, true},
		{"a merge of as many bytes as may be", "x\n", half + "\nx\n", "x\n" + half + "m", half + "\nx\n" + half + "m", false},
		{"a merge of one byte more", "x\n", half + "\nx\n", "x\n" + half + "mm", "x\n", true},
		{"a merge of far more bytes", "x\n", most[2:] + "\nx\n", "x\n" + most[2:] + "\n", "x\n", true},
	}
}

// wantOnePath tells what is to come of c.
func wantOnePath(c onePath) merge {
	m := merge{what: c.what, base: one(c.base), a: one(c.a), b: one(c.b), virtual: one(c.came)}
	if c.clash {
		m.conflicts = []string{"x"}
	} else {
		m.files = one(c.came)
	}
	return m
}

func TestOnePath(t *testing.T) {
	for _, c := range onePaths() {
		check(t, wantOnePath(c))
	}
}

func TestOnePathBesideOthers(t *testing.T) {
	for _, c := range onePaths() {
		m := wantOnePath(c)
		m.what += ", beside others"
		m.base = all(m.base, of("a", "1", "w", "2", "xx", "3", "z", "4"))
		m.a = all(m.a, of("a", "5", "w", "2", "xx", "3", "y", "6", "z", "4"))
		m.b = all(m.b, of("a", "1", "w", "7", "xx", "3"))
		m.virtual = all(m.virtual, of("a", "5", "w", "7", "xx", "3", "y", "6"))
		m.files = nil
		if !c.clash {
			m.files = m.virtual
		}
		check(t, m)
	}
}

func TestPathsOfAllKindsAtOnce(t *testing.T) {
	var m merge
	for i, c := range onePaths() {
		// Both kinds stand one behind the other, and no more of them than a tree may have.
		if i%4 != 0 {
			continue
		}
		at := func(data string) []api.File {
			if data == none {
				return nil
			}
			return of(fmt.Sprintf("p%05d", i), data)
		}
		m.base, m.a, m.b = all(m.base, at(c.base)), all(m.a, at(c.a)), all(m.b, at(c.b))
		m.virtual = all(m.virtual, at(c.came))
		if c.clash {
			m.conflicts = append(m.conflicts, fmt.Sprintf("p%05d", i))
		}
	}
	if len(m.conflicts) < 2 || len(m.virtual) < 4 || len(m.virtual) > api.MaxFiles {
		t.Fatalf("too little, or too much, of each kind: %q, %q", m.conflicts, m.virtual)
	}
	m.what = "paths of all kinds"
	check(t, m)
}

func TestTrees(t *testing.T) {
	long := strings.Repeat("l", api.MaxPath-2)
	for _, m := range []merge{
		{"three nil lists", nil, nil, nil, nil, nil, nil},
		{"three empty lists", []api.File{}, []api.File{}, []api.File{}, nil, nil, nil},
		{"the chapter's example", of("x", "1"), of("x", "2"), nil, nil, []string{"x"}, of("x", "1")},
		{"each changes a file", of("a", "1", "b", "2"), of("a", "3", "b", "2"), of("a", "1", "b", "4"), of("a", "3", "b", "4"), nil, of("a", "3", "b", "4")},
		{"each puts in a file", nil, of("b", "1"), of("a", "2"), of("a", "2", "b", "1"), nil, of("a", "2", "b", "1")},
		{"each leaves out a file", of("a", "1", "b", "2", "c", "3"), of("a", "1", "b", "2"), of("b", "2", "c", "3"), of("b", "2"), nil, of("b", "2")},
		{"each leaves out all but what the other does", of("a", "1", "b", "2"), of("a", "1"), of("b", "2"), nil, nil, nil},
		{"a file goes from one path to another", of("a", "1"), of("b", "1"), of("a", "1"), of("b", "1"), nil, of("b", "1")},
		{"a file goes to two paths", of("a", "1"), of("b", "1"), of("c", "1"), of("b", "1", "c", "1"), nil, of("b", "1", "c", "1")},
		{"great and small letters", nil, of("X", "1"), of("x", "2"), of("X", "1", "x", "2"), nil, of("X", "1", "x", "2")},
		{"a conflict, and no file comes of it", of("b", "1"), of("a", "1", "b", "2", "d", "1"), of("b", "3", "c", "4"), nil, []string{"b"}, of("a", "1", "b", "1", "c", "4", "d", "1")},
		{"conflicts that rise by bytes", of("Z", "1", "a-b", "1", "a/b", "1", "~", "1"), of("Z", "2", "a-b", "2", "a/b", "2", "~", "2"), of("Z", "3", "a-b", "3", "a/b", "3", "~", "3"), nil, []string{"Z", "a-b", "a/b", "~"}, of("Z", "1", "a-b", "1", "a/b", "1", "~", "1")},
		{"the path that tells of no tree", of("?", "1"), of("?", "2"), of("?", "3"), nil, []string{"?"}, of("?", "1")},
		{"the path that tells of too many", of("*", "1"), of("*", "2"), nil, nil, []string{"*"}, of("*", "1")},
		{"the paths that tell of something, with no conflict", of("*", "1", "?", "1"), of("*", "2", "?", "1"), of("*", "1", "?", "2"), of("*", "2", "?", "2"), nil, of("*", "2", "?", "2")},
		{"a path as long as may be", of(long+"/m", "1"), of(long+"/m", "2"), of(long+"/m", "1"), of(long+"/m", "2"), nil, of(long+"/m", "2")},
	} {
		check(t, m)
	}
}

func TestFilesUnderFiles(t *testing.T) {
	long := strings.Repeat("l", api.MaxPath-2)
	for _, m := range []merge{
		{"one is put in under another one", nil, of("a", "1"), of("a/b", "2"), nil, []string{"a/b"}, of("a", "1")},
		{"under one with the same data", nil, of("a", "1"), of("a/b", "1"), nil, []string{"a/b"}, of("a", "1")},
		{"under an empty one", nil, of("a", ""), of("a/b", ""), nil, []string{"a/b"}, of("a", "")},
		{"one deeper", nil, of("a", "1"), of("a/b/c/d", "2"), nil, []string{"a/b/c/d"}, of("a", "1")},
		{"one under one that is deep itself", nil, of("a/b/c", "1"), of("a/b/c/d", "2"), nil, []string{"a/b/c/d"}, of("a/b/c", "1")},
		{"one of as many bytes as may be", nil, of(long, "1"), of(long+"/m", "2"), nil, []string{long + "/m"}, of(long, "1")},
		{"more than one under the same", nil, of("a", "1"), of("a/b", "2", "a/c", "3", "a/c-d", "4", "a/d/e", "5"), nil, []string{"a/b", "a/c", "a/c-d", "a/d/e"}, of("a", "1")},
		{"one under each of two", nil, of("a", "1", "b/c", "2"), of("a/b", "3", "b", "4"), nil, []string{"a/b", "b/c"}, of("a", "1", "b", "4")},
		{"some that stand between by their bytes", nil, of("a", "1", "a!", "2", "a-b", "3", "a.", "4"), of("a/b", "5", "a0", "6"), nil, []string{"a/b"}, of("a", "1", "a!", "2", "a-b", "3", "a.", "4", "a0", "6")},
		{"paths that only begin alike", nil, of("a", "1", "b/c", "2"), of("a-", "3", "ab/c", "4", "b/cd", "5"), of("a", "1", "a-", "3", "ab/c", "4", "b/c", "2", "b/cd", "5"), nil, of("a", "1", "a-", "3", "ab/c", "4", "b/c", "2", "b/cd", "5")},
		{"paths in one folder", nil, of("a/b", "1"), of("a/bc", "2"), of("a/b", "1", "a/bc", "2"), nil, of("a/b", "1", "a/bc", "2")},

		{"one under another one, beside a change", of("c", "1"), of("a", "1", "c", "1"), of("a/b", "2", "c", "9"), nil, []string{"a/b"}, of("a", "1", "c", "9")},
		{"a file becomes a folder by one alone", of("a", "1"), of("a/b", "2"), of("a", "1"), of("a/b", "2"), nil, of("a/b", "2")},
		{"a file becomes a folder by both, of other files", of("a", "1"), of("a/b", "2"), of("a/c", "3"), of("a/b", "2", "a/c", "3"), nil, of("a/b", "2", "a/c", "3")},
		{"a folder becomes a file by one alone", of("a/b", "1", "a/c", "2"), of("a", "3"), of("a/b", "1", "a/c", "2"), of("a", "3"), nil, of("a", "3")},
		{"a folder becomes a file by one, the other puts one in", of("a/b", "1"), of("a", "2"), of("a/b", "1", "a/c", "3"), nil, []string{"a/c"}, of("a", "2")},
		{"a folder becomes a file by one, the other changes one", of("a/b", "1"), of("a", "2"), of("a/b", "3"), nil, []string{"a/b"}, of("a", "2")},
		{"a folder becomes a file by one, the other changes and puts in", of("a/b", "1"), of("a", "2"), of("a/b", "3", "a/c", "4"), nil, []string{"a/b", "a/c"}, of("a", "2")},
		{"a folder becomes a file by both, other ones", of("a/b", "1"), of("a", "2"), of("a", "3"), nil, []string{"a"}, nil},

		{"a file of base at a conflict is none that came of it", of("a", "1"), of("a", "2"), of("a/b", "3"), nil, []string{"a"}, of("a", "1")},
		{"a file of base at a conflict, and several under it", of("a", "1"), of("a", "2"), of("a/b", "3", "a/c/d", "4", "b", "5"), nil, []string{"a"}, of("a", "1", "b", "5")},
		{"both conflict at one, and one is under another one", of("a", "1", "z", "1"), of("a", "2", "c", "4", "z", "2"), of("a", "3", "c/d", "5", "z", "3"), nil, []string{"a", "c/d", "z"}, of("a", "1", "c", "4", "z", "1")},
		{"data of two at a conflict that base does not have, and none under it", nil, of("a", "1"), of("a", "2", "b", "3"), nil, []string{"a"}, of("b", "3")},
	} {
		check(t, m)
	}
}

func TestFilesUnderFilesThatAreUnderFiles(t *testing.T) {
	// What comes of it is at paths of a or b, and neither has two in one another, so that no three come of it.
	// But the three may have them, and so the one between may seem to be above, or under, another one.
	for _, m := range []merge{
		{"the one between is base's, and both leave it out", of("a/b", "1"), of("a", "2"), of("a/b/c", "3"), nil, []string{"a/b/c"}, of("a", "2")},
		{"the one between is changed by the one", of("a/b", "1"), of("a", "2"), of("a/b", "3"), nil, []string{"a/b"}, of("a", "2")},
		{"the one between is left as it was by the one", of("a/b", "1"), of("a", "2"), of("a/b", "1"), of("a", "2"), nil, of("a", "2")},
		{"the one above is base's, and both leave it out", of("a", "1"), of("a/b", "2"), of("a/b/c", "3"), nil, []string{"a/b/c"}, of("a/b", "2")},
		{"the one above is base's, and changed by the one", of("a", "1"), of("a", "2"), of("a/b/c", "3"), nil, []string{"a"}, of("a", "1")},
		{"the one beneath is base's, and both leave it out", of("a/b/c", "1"), of("a", "2"), of("a/b", "3"), nil, []string{"a/b"}, of("a", "2")},
		{"the one beneath is base's, and changed by the one", of("a/b/c", "1"), of("a", "2"), of("a/b/c", "3"), nil, []string{"a/b/c"}, of("a", "2")},
	} {
		check(t, m)
	}
}

func TestNoTrees(t *testing.T) {
	pairs := [][2][]api.File{
		{nil, nil},
		{of("a", "1"), of("a", "1")},
		{of("a", "2"), of("a", "3")},
		{of("a", "2"), of("a/b", "3")},
		{run("f", 0, api.MaxFiles, "2"), run("g", 0, api.MaxFiles, "2")},
	}
	for what, bad := range sample.NoTrees() {
		for _, p := range append(pairs, [2][]api.File{bad, nil}, [2][]api.File{nil, bad}, [2][]api.File{bad, bad}) {
			for i, ts := range [][3][]api.File{{bad, p[0], p[1]}, {p[0], bad, p[1]}, {p[0], p[1], bad}} {
				files, conflicts := Of(ts[0], ts[1], ts[2])
				if len(files) != 0 || !slices.Equal(conflicts, []string{"?"}) {
					t.Errorf("Of with %s as tree %d: %q, %q", what, i, files, conflicts)
				}
				if virtual := Virtual(ts[0], ts[1], ts[2]); len(virtual) != 0 {
					t.Errorf("Virtual with %s as tree %d: %q", what, i, virtual)
				}
			}
		}
	}
}

func TestTreesAtTheLimits(t *testing.T) {
	long, most := strings.Repeat("p", api.MaxPath), strings.Repeat("d", api.MaxData)
	for what, l := range map[string][]api.File{
		"MaxFiles files":            run("f", 0, api.MaxFiles, "1"),
		"a path of MaxPath bytes":   of(long, "1"),
		"data of MaxData bytes":     of("a", most),
		"the least byte":            of("!", "1"),
		"the greatest byte":         of("~", "1"),
		"paths as near as may be":   of("a", "1", "a-b", "2", "a.", "3", "a0", "4", "b/c", "5"),
		"data of any bytes, or few": of("a", "\x00\xff", "b", ""),
	} {
		check(t, merge{what: what + ", put in by one", base: nil, a: l, b: nil, files: l, virtual: l})
		check(t, merge{what: what + ", put in by both", base: nil, a: l, b: l, files: l, virtual: l})
		check(t, merge{what: what + ", left as they were", base: l, a: l, b: l, files: l, virtual: l})
		check(t, merge{what: what + ", left out by one", base: l, a: nil, b: l})
		check(t, merge{what: what + ", left out by both", base: l, a: nil, b: nil})
	}
}

func TestMaxFiles(t *testing.T) {
	const n = api.MaxFiles
	full := run("f", 0, n, "1")
	for _, m := range []merge{
		{"each puts in half", nil, full[:n/2], full[n/2:], full, nil, full},
		{"each puts in half, and one one more", nil, full[:n/2], run("f", n/2, n+1, "1"), nil, []string{"*"}, full},
		{"one puts in all, the other one more", nil, full, run("f", n, n+1, "1"), nil, []string{"*"}, full},
		{"one puts in all, the other one ahead of them", nil, full, of("e", "2"), nil, []string{"*"}, all(of("e", "2"), full[:n-1])},
		{"one puts in all, the other the same", nil, full, full[3:], full, nil, full},
		{"twice as many as may be", nil, run("a", 0, n, "1"), run("b", 0, n, "2"), nil, []string{"*"}, run("a", 0, n, "1")},
		{"twice as many as may be, none of them of base", full, run("a", 0, n, "1"), run("b", 0, n, "2"), nil, []string{"*"}, run("a", 0, n, "1")},
		{"one leaves out as many as the other puts in", full, full[2:], all(of("g", "2"), full[:n-1]), all(of("g", "2"), full[2:n-1]), nil, all(of("g", "2"), full[2:n-1])},
		{"one leaves out less than both put in", full, all(of("g", "2"), full[1:]), all(of("h", "3"), full[1:]), nil, []string{"*"}, all(of("g", "2"), full[1:])},
		{"a file at the path that tells of too many", nil, all(of("*", "1"), full[:n-1]), full, nil, []string{"*"}, all(of("*", "1"), full[:n-1])},
		{"as many as may be, one of them at that path", nil, of("*", "1"), full[1:], all(of("*", "1"), full[1:]), nil, all(of("*", "1"), full[1:])},
	} {
		check(t, m)
	}
}

func TestTooManyFilesAmongConflicts(t *testing.T) {
	const n = api.MaxFiles
	// Each clash is there with other data in each; all of the run are put in, half by each.
	clash := func(data string, paths ...string) []api.File {
		var t []api.File
		for _, p := range paths {
			t = append(t, api.File{Path: p, Data: data})
		}
		return t
	}
	for _, c := range []struct {
		what      string
		clashes   []string
		came      int
		conflicts []string
	}{
		{"just as many as may be, and a conflict", []string{"a"}, n, []string{"a"}},
		{"just as many as may be, and several", []string{"!", "a", "z"}, n, []string{"!", "a", "z"}},
		{"one too many, none else", nil, n + 1, []string{"*"}},
		{"one too many, a conflict behind", []string{"a"}, n + 1, []string{"*", "a"}},
		{"one too many, a conflict just behind", []string{"+"}, n + 1, []string{"*", "+"}},
		{"one too many, a conflict that begins alike", []string{"*!"}, n + 1, []string{"*", "*!"}},
		{"one too many, a conflict ahead", []string{"!"}, n + 1, []string{"!", "*"}},
		{"one too many, a conflict just ahead", []string{")~"}, n + 1, []string{")~", "*"}},
		{"one too many, between others", []string{"!", "(", "a", "z"}, n + 1, []string{"!", "(", "*", "a", "z"}},
		{"one too many, a conflict at that path", []string{"*"}, n + 1, []string{"*"}},
		{"one too many, that path between others", []string{"!", "*", "z"}, n + 1, []string{"!", "*", "z"}},
		{"just as many as may be, a conflict at that path", []string{"*"}, n, []string{"*"}},
		{"far too many, between others", []string{"!", "z"}, 2*n - 4, []string{"!", "*", "z"}},
	} {
		base, files := clash("1", c.clashes...), run("f", 0, c.came, "1")
		virtual := all(base, files)
		check(t, merge{
			what: c.what, base: base,
			a: all(clash("2", c.clashes...), files[:c.came/2]), b: all(clash("3", c.clashes...), files[c.came/2:]),
			conflicts: c.conflicts, virtual: virtual[:n],
		})
	}
}

func TestTooManyFilesUnderFiles(t *testing.T) {
	const n = api.MaxFiles
	full := run("f", 0, n, "1")
	under := func(i int) string { return full[i].Path + "/u" }
	for _, m := range []merge{
		{"one under one of just as many", nil, full[:n-1], of(under(4), "2"), nil, []string{under(4)}, full[:n-1]},
		{"one under one, one too many with it", nil, full, of(under(0), "2"), nil, []string{"*", under(0)}, full},
		{"several under several", nil, full[:n-1], of(under(0), "2", under(3), "3", full[n-1].Path, "1"), nil, []string{"*", under(0), under(3)}, full},
		{"some under some, one ahead of that path", nil, all(of("!", "1"), full[1:]), of("!/u", "2", under(3), "3"), nil, []string{"!/u", "*", under(3)}, all(of("!", "1"), full[1:])},
		{"one under that path", nil, all(of("*", "1"), full[1:]), of("*/u", "2"), nil, []string{"*", "*/u"}, all(of("*", "1"), full[1:])},
		{"one under the last one, one behind", nil, full, of(under(n-1), "2", "g", "3"), nil, []string{"*", under(n - 1)}, full},
		{"one under one that is left out behind the first ones", nil, all(full[1:], of("x", "1")), of("a", "2", "x/u", "2"), nil, []string{"*", "x/u"}, all(of("a", "2"), full[1:])},
		{"what base has at a conflict, one too many with it", of("a", "1"), all(of("a", "2"), full[1:]), of(full[0].Path, "1"), nil, []string{"a"}, all(of("a", "1"), full[:n-1])},
		{"what base has at a conflict, and one under it", of("a", "1"), all(of("a", "2"), full[1:]), of("a/u", "1"), nil, []string{"a"}, all(of("a", "1"), full[1:])},
		{"what base has at a conflict, and more under it", of("a", "1"), all(of("a", "2"), full[1:]), of("a/u", "1", "a/v", "1"), nil, []string{"*", "a"}, all(of("a", "1"), full[1:])},
	} {
		check(t, m)
	}
}

// byWords goes by the chapter's words: what came of base, a and b, by path, and where it does not go together.
func byWords(base, a, b []api.File) (came map[string]string, conflicts map[string]int) {
	came, conflicts = map[string]string{}, map[string]int{}
	for _, l := range [][]api.File{base, a, b} {
		for _, f := range l {
			was, inBase := lookUp(base, f.Path)
			one, inA := lookUp(a, f.Path)
			other, inB := lookUp(b, f.Path)
			merged, ok := text.Merge(was, one, other)
			switch {
			case inA && inB && one == other, inA && inB && ok:
				came[f.Path] = merged
			case !inA && !inB:
			case inA == inBase && one == was:
				if inB {
					came[f.Path] = other
				}
			case inB == inBase && other == was:
				if inA {
					came[f.Path] = one
				}
			default:
				conflicts[f.Path] = 1
			}
		}
	}
	return came, conflicts
}

// lookUp answers the data at a path, and whether there is a file.
func lookUp(l []api.File, path string) (string, bool) {
	i := slices.IndexFunc(l, func(f api.File) bool { return f.Path == path })
	if i < 0 {
		return "", false
	}
	return l[i].Data, true
}

// underOthers answers the paths that stand under another one.
func underOthers(came map[string]string) []string {
	var under []string
	for p := range came {
		for i := range len(p) {
			if _, ok := came[p[:i]]; ok && p[i] == '/' {
				under = append(under, p)
			}
		}
	}
	return under
}

// listed answers files as a list, by rising paths.
func listed(came map[string]string) []api.File {
	var l []api.File
	for p, d := range came {
		l = append(l, api.File{Path: p, Data: d})
	}
	return all(l)
}

// ofByWords is what Of is to tell of trees.
func ofByWords(base, a, b []api.File) ([]api.File, []string) {
	came, conflicts := byWords(base, a, b)
	for _, p := range underOthers(came) {
		conflicts[p] = 1
	}
	if len(came) > api.MaxFiles {
		conflicts["*"] = 1
	}
	var paths []string
	for p := range conflicts {
		paths = append(paths, p)
	}
	if sort.Strings(paths); len(paths) > 0 {
		return nil, paths
	}
	return listed(came), nil
}

// virtualByWords is what Virtual is to tell of trees.
func virtualByWords(base, a, b []api.File) []api.File {
	came, conflicts := byWords(base, a, b)
	for p := range conflicts {
		if data, ok := lookUp(base, p); ok {
			came[p] = data
		}
	}
	for _, p := range underOthers(came) {
		delete(came, p)
	}
	files := listed(came)
	return files[:min(len(files), api.MaxFiles)]
}

// checkByWords holds P9.1, P9.2 and P9.3 of three trees, and answers the conflicts.
func checkByWords(t *testing.T, base, a, b []api.File) []string {
	t.Helper()
	var m merge
	m.what = fmt.Sprintf("%q, %q, %q", base, a, b)
	m.base, m.a, m.b = base, a, b
	m.files, m.conflicts = ofByWords(base, a, b)
	m.virtual = virtualByWords(base, a, b)
	check(t, m)
	if files, conflicts := Of(base, a, a); !slices.Equal(files, a) || len(conflicts) != 0 {
		t.Errorf("Of %q, %q twice: %q, %q", base, a, files, conflicts)
	}
	if files, conflicts := Of(base, base, b); !slices.Equal(files, b) || len(conflicts) != 0 {
		t.Errorf("Of %q twice, %q: %q, %q", base, b, files, conflicts)
	}
	if !tree.May(m.files) || !tree.May(Virtual(base, a, b)) {
		t.Errorf("of %s came what may not be", m.what)
	}
	if t.Failed() {
		t.FailNow()
	}
	return m.conflicts
}

// allTrees tells all trees of few paths and little data.
func allTrees() [][]api.File {
	trees := [][]api.File{nil}
	for _, path := range []string{"a", "a-b", "a/b", "a/b/c"} {
		for _, t := range slices.Clone(trees) {
			for _, data := range []string{"", "1", "2"} {
				if more := append(slices.Clone(t), api.File{Path: path, Data: data}); tree.May(more) {
					trees = append(trees, more)
				}
			}
		}
	}
	return trees
}

func TestAllSmallTreesAgainstTheWords(t *testing.T) {
	trees, clean, unclean := allTrees(), 0, 0
	for _, base := range trees {
		for _, a := range trees {
			for _, b := range trees {
				if len(checkByWords(t, base, a, b)) == 0 {
					clean++
				} else {
					unclean++
				}
			}
		}
	}
	if clean < 10000 || unclean < 10000 {
		t.Errorf("of the trees that were tried %d merge, %d do not", clean, unclean)
	}
}

// randomData makes data of a few lines, seldom of what is Binary, or not Few, or long.
func randomData(random *rand.Rand) string {
	switch random.Intn(20) {
	case 0:
		return "\x00\nb\n"
	case 1:
		return lines(api.MaxLines + random.Intn(2))
	case 2:
		return strings.Repeat("d", api.MaxData-random.Intn(4))
	}
	var s strings.Builder
	for _, line := range []string{"a", "b", "c", "d"} {
		if random.Intn(6) == 0 {
			line += string(byte('0' + random.Intn(2)))
		}
		if random.Intn(10) > 0 {
			s.WriteString(line + "\n")
		}
	}
	return s.String()
}

// randomTree makes a tree of some of base's files, as they are or changed, and others.
func randomTree(random *rand.Rand, base []api.File) []api.File {
	var t []api.File
	for _, path := range []string{"!", "!/x", "*", "*/x", "?", "a", "a-b", "a/b", "a/b/c", "a/c", "b", "b/a", "b/b", "c", "d", "e", "f", "g", "h", "z"} {
		data, kept := lookUp(base, path)
		if !kept && random.Intn(2) == 0 || kept && random.Intn(9) == 0 {
			continue
		}
		if !kept || random.Intn(3) == 0 {
			data = randomData(random)
		}
		if more := append(slices.Clone(t), api.File{Path: path, Data: data}); tree.May(more) {
			t = more
		}
	}
	return t
}

func TestRandomTreesAgainstTheWords(t *testing.T) {
	random, clean, unclean, much := rand.New(rand.NewSource(9)), 0, 0, 0
	for i := range 8000 {
		var base []api.File
		if i%3 > 0 {
			base = randomTree(random, nil)
		}
		a := randomTree(random, base)
		b := randomTree(random, a)
		if i%2 > 0 {
			b = randomTree(random, base)
		}
		conflicts := checkByWords(t, base, a, b)
		switch {
		case len(conflicts) == 0:
			clean++
		case slices.Contains(conflicts, "*"):
			much++
		default:
			unclean++
		}
	}
	if clean < 100 || unclean < 100 || much < 100 {
		t.Errorf("of the trees that were tried %d merge, %d do not, and of %d too many files come", clean, unclean, much)
	}
}

// roomy answers a list like l, with room behind it, and the room as a whole.
func roomy(l []api.File) (handed []api.File, room []api.File) {
	room = append(slices.Clone(l), of("spare", "1", "a", "2", "spare", "3")...)
	return room[:len(l)], room
}

// kinds are three lists of each kind: some merge, some do not, some are no trees.
func kinds() [][3][]api.File {
	ts := [][3][]api.File{{nil, nil, nil}, {{}, {}, {}}}
	for _, c := range onePaths() {
		ts = append(ts, [3][]api.File{one(c.base), one(c.a), one(c.b)})
	}
	ls := [][]api.File{nil, of("a", "1"), of("a/b", "1"), of("a", "1", "b", "2"), of("b", "1", "a", "2"), run("f", 0, api.MaxFiles, "1"), run("f", 3, api.MaxFiles+3, "2"), run("f", 0, 2*api.MaxFiles, "1")}
	for _, base := range ls {
		for _, a := range ls {
			for _, b := range ls {
				ts = append(ts, [3][]api.File{base, a, b})
			}
		}
	}
	return ts
}

func TestWhatIsHandedInStaysAsItWas(t *testing.T) {
	for _, ts := range kinds() {
		base, baseRoom := roomy(ts[0])
		a, aRoom := roomy(ts[1])
		b, bRoom := roomy(ts[2])
		kept := slices.Concat(baseRoom, aRoom, bRoom)
		for _, l := range [][3][]api.File{{base, a, b}, {base, b, a}, {base, a, a}, {base, base, b}, {base, base, base}} {
			files, conflicts := Of(l[0], l[1], l[2])
			sample.Spoil(files, api.File{Path: "spoilt"})
			sample.Spoil(conflicts, "spoilt")
			sample.Spoil(Virtual(l[0], l[1], l[2]), api.File{Path: "spoilt"})
		}
		if got := slices.Concat(baseRoom, aRoom, bRoom); !slices.Equal(got, kept) {
			t.Fatalf("%q, behind all calls: %q", ts, got)
		}
	}
}

func TestAnswersShareNothing(t *testing.T) {
	spoilt := api.File{Path: "spoilt"}
	for _, ts := range kinds() {
		base, a, b := slices.Clone(ts[0]), slices.Clone(ts[1]), slices.Clone(ts[2])
		files, conflicts := Of(base, a, b)
		virtual := Virtual(base, a, b)
		wantFiles, wantConflicts, wantVirtual := slices.Clone(files), slices.Clone(conflicts), slices.Clone(virtual)
		moreFiles, moreConflicts := Of(base, a, b)
		sample.Spoil(moreFiles, spoilt)
		sample.Spoil(moreConflicts, "spoilt")
		sample.Spoil(Virtual(base, a, b), spoilt)
		for _, l := range [][]api.File{base, a, b} {
			sample.Spoil(l, spoilt)
		}
		if !slices.Equal(files, wantFiles) || !slices.Equal(conflicts, wantConflicts) || !slices.Equal(virtual, wantVirtual) {
			t.Fatalf("of %q, behind a change of all else: %q, %q, %q", ts, files, conflicts, virtual)
		}
		sample.Spoil(files, spoilt)
		if !slices.Equal(virtual, wantVirtual) {
			t.Fatalf("of %q, behind a change of what Of told: %q", ts, virtual)
		}
	}
}

func TestAnswersAgainAreTheSame(t *testing.T) {
	for _, ts := range kinds() {
		files, conflicts := Of(ts[0], ts[1], ts[2])
		virtual := Virtual(ts[0], ts[1], ts[2])
		for range 3 {
			again, told := Of(ts[0], ts[1], ts[2])
			if !slices.Equal(again, files) || !slices.Equal(told, conflicts) || !slices.Equal(Virtual(ts[0], ts[1], ts[2]), virtual) {
				t.Fatalf("of %q, again: %q, %q", ts, again, told)
			}
		}
	}
}

func TestSeveralGoroutines(t *testing.T) {
	base, a, b := run("f", 0, api.MaxFiles, "a\nx\nb\n"), run("f", 0, api.MaxFiles, "A\nx\nb\n"), run("f", 0, api.MaxFiles, "a\nx\nB\n")
	want := run("f", 0, api.MaxFiles, "A\nx\nB\n")
	var group sync.WaitGroup
	for range 8 {
		group.Go(func() {
			for range 50 {
				files, conflicts := Of(base, a, b)
				if !slices.Equal(files, want) || len(conflicts) != 0 || !slices.Equal(Virtual(base, a, b), want) {
					t.Error("calls from several goroutines")
				}
				if _, conflicts = Of(nil, a, b); len(conflicts) != api.MaxFiles || len(Virtual(nil, a, b)) != 0 {
					t.Error("calls from several goroutines that do not merge")
				}
			}
		})
	}
	group.Wait()
}

func TestListsThatAreFarTooLong(t *testing.T) {
	l := run("f", 0, 200000, "1")
	for _, ts := range [][3][]api.File{{l, nil, nil}, {nil, l, nil}, {nil, nil, l}, {l, l, l}} {
		files, conflicts := Of(ts[0], ts[1], ts[2])
		if len(files) != 0 || !slices.Equal(conflicts, []string{"?"}) || len(Virtual(ts[0], ts[1], ts[2])) != 0 {
			t.Errorf("far too many files: %d, %q", len(files), conflicts)
		}
	}
}
