package patch

import (
	"fmt"
	"math/rand"
	"slices"
	"sort"
	"strings"
	"sync"
	"testing"

	"cortege/api"
	"cortege/sample"
	"cortege/tree"
)

// of makes files of paths and data, one behind the other: of("a", "1", "b", "2").
func of(pathsAndData ...string) []api.File { return sample.Files(pathsAndData...) }

// in is a change that puts in a file that was missing.
func in(path, data string) Change {
	return Change{Path: path, Was: false, Is: true, Old: "", New: data}
}

// out is a change that leaves out a file.
func out(path, data string) Change {
	return Change{Path: path, Was: true, Is: false, Old: data, New: ""}
}

// over is a change of a file's data.
func over(path, old, data string) Change {
	return Change{Path: path, Was: true, Is: true, Old: old, New: data}
}

// rising makes n files that are a tree, if there may be so many.
func rising(n int, data string) []api.File {
	var t []api.File
	for i := range n {
		t = append(t, api.File{Path: fmt.Sprintf("f%05d", i), Data: data})
	}
	return t
}

// wild are lists of all kinds, most of them no trees.
func wild() [][]api.File {
	return [][]api.File{
		nil,
		{},
		of("", ""),
		of("a", ""),
		of("a", "1"),
		of("a", "2"),
		of("a", "1", "b", "2", "c", "3"),
		of("a", "1", "b", "", "d", "3"),
		of("c", "1", "b", "2", "a", "3"),
		of("b", "1", "a", "2", "b", "3"),
		of("b", "3", "a", "2", "b", "1"),
		of("b", "1", "b", "1", "b", "1"),
		of("a", "1", "a/b", "2", "a-b", "3", "a", "4"),
		of("\xff", "1", "\x00", "2", "", "3", "/", "4", "\xff", "5", "", "6"),
		of("é", "\xff", "z", "\x00", "世", ""),
		rising(api.MaxFiles, "x"),
		rising(api.MaxFiles+5, ""),
	}
}

func TestOf(t *testing.T) {
	long, most := strings.Repeat("p", api.MaxPath), strings.Repeat("d", api.MaxData)
	cases := []struct {
		what string
		a, b []api.File
		want []Change
	}{
		{"two nil lists", nil, nil, nil},
		{"two empty lists", []api.File{}, []api.File{}, nil},
		{"a nil and an empty list", nil, []api.File{}, nil},
		{"an empty list and one file", nil, of("a", "1"), []Change{in("a", "1")}},
		{"one file and an empty list", of("a", "1"), nil, []Change{out("a", "1")}},
		{"an empty list and several", []api.File{}, of("a", "1", "b", "", "c", "3"), []Change{in("a", "1"), in("b", ""), in("c", "3")}},
		{"several and an empty list", of("a", "1", "b", "", "c", "3"), []api.File{}, []Change{out("a", "1"), out("b", ""), out("c", "3")}},
		{"two that are alike", of("a", "1", "b/c", ""), of("a", "1", "b/c", ""), nil},
		{"a path that the first alone has", of("a", "1", "b", "2"), of("b", "2"), []Change{out("a", "1")}},
		{"a path that the second alone has", of("a", "1"), of("a", "1", "b", "2"), []Change{in("b", "2")}},
		{"other data", of("a", "1", "b", "2"), of("a", "1", "b", "3"), []Change{over("b", "2", "3")}},
		{"data that is a beginning of the other", of("a", "1"), of("a", "12"), []Change{over("a", "1", "12")}},
		{"data that becomes empty", of("a", "1"), of("a", ""), []Change{over("a", "1", "")}},
		{"data that was empty", of("a", ""), of("a", "1"), []Change{over("a", "", "1")}},
		{"an empty file and an empty one", of("a", ""), of("a", ""), nil},
		{"an empty file and none", of("a", ""), nil, []Change{out("a", "")}},
		{"none and an empty file", nil, of("a", ""), []Change{in("a", "")}},
		{"all kinds at once", of("a", "1", "b", "2", "c", ""), of("a", "1", "b", "3", "d", ""), []Change{over("b", "2", "3"), out("c", ""), in("d", "")}},
		{"two that share no path", of("b", "1", "d", "2"), of("a", "3", "c", "4", "e", "5"), []Change{in("a", "3"), out("b", "1"), in("c", "4"), out("d", "2"), in("e", "5")}},
		{"data that changed places", of("a", "1", "b", "2"), of("a", "2", "b", "1"), []Change{over("a", "1", "2"), over("b", "2", "1")}},
		{"a file that becomes a folder", of("a", "1"), of("a/b", "1"), []Change{out("a", "1"), in("a/b", "1")}},
		{"a folder that becomes a file", of("a/b", "1"), of("a", "1"), []Change{in("a", "1"), out("a/b", "1")}},
		{"paths by bytes, not by parts", nil, of("a", "1", "a-b", "2", "a/b", "3"), []Change{in("a", "1"), in("a-b", "2"), in("a/b", "3")}},
		{"great and small letters", of("A", "1"), of("a", "1"), []Change{out("A", "1"), in("a", "1")}},
		{"a longest path and most data", of(long, most), of(long, most[1:]), []Change{over(long, most, most[1:])}},
		{"data of any bytes", of("a", "\x00\xff\n"), of("a", "\x00\xfe\n"), []Change{over("a", "\x00\xff\n", "\x00\xfe\n")}},
		{"paths that fall", of("c", "1", "b", "2", "a", "3"), of("d", "4", "c", "1", "b", "9"), []Change{out("a", "3"), over("b", "2", "9"), in("d", "4")}},
		{"the same files in another order", of("b", "2", "a", "1"), of("a", "1", "b", "2"), nil},
		{"a path twice: the first one counts", of("x", "1", "x", "2"), nil, []Change{out("x", "1")}},
		{"a path twice in the second", nil, of("x", "1", "x", "2"), []Change{in("x", "1")}},
		{"a path twice, the first ones alike", of("x", "1", "x", "2"), of("x", "1", "x", "3"), nil},
		{"a path twice and once, the first ones alike", of("x", "1", "x", "2"), of("x", "1"), nil},
		{"a path twice, the second ones alike", of("x", "1", "x", "3"), of("x", "2", "x", "3"), []Change{over("x", "1", "2")}},
		{"a path twice, others between", of("x", "", "a", "1", "x", "2"), of("x", "2", "a", "1"), []Change{over("x", "", "2")}},
		{"paths that are none", of("", "1", "\xff", "2"), of("/", "3", "\xff", "4"), []Change{out("", "1"), in("/", "3"), over("\xff", "2", "4")}},
		{"more data than MaxData", nil, of("a", most+"d"), []Change{in("a", most+"d")}},
	}
	for _, c := range cases {
		if got := Of(c.a, c.b); !slices.Equal(got, c.want) {
			t.Errorf("Of %s: %v, not %v", c.what, got, c.want)
		}
	}
}

func TestOfMoreThanMaxFiles(t *testing.T) {
	a, b := rising(2*api.MaxFiles, "1"), rising(3*api.MaxFiles, "2")
	cs := Of(a, b)
	if len(cs) != 3*api.MaxFiles {
		t.Fatalf("Of more than MaxFiles: %d", len(cs))
	}
	for i, c := range cs {
		want := over(b[i].Path, "1", "2")
		if i >= len(a) {
			want = in(b[i].Path, "2")
		}
		if c != want {
			t.Errorf("Of more than MaxFiles, the %d-th: %v", i, c)
		}
	}
}

// firsts tells the place of each path's first file in t.
func firsts(t []api.File) map[string]int {
	places := map[string]int{}
	for i, f := range t {
		if _, there := places[f.Path]; !there {
			places[f.Path] = i
		}
	}
	return places
}

// ofByWords goes by the chapter's words, kind by kind.
func ofByWords(a, b []api.File) []Change {
	was, is := firsts(a), firsts(b)
	var cs []Change
	for path, i := range was {
		if j, there := is[path]; !there {
			cs = append(cs, out(path, a[i].Data))
		} else if a[i].Data != b[j].Data {
			cs = append(cs, over(path, a[i].Data, b[j].Data))
		}
	}
	for path, j := range is {
		if _, there := was[path]; !there {
			cs = append(cs, in(path, b[j].Data))
		}
	}
	sort.Slice(cs, func(i, j int) bool { return cs[i].Path < cs[j].Path })
	return cs
}

// randomFiles makes a list of at most n files, of few paths and little data.
func randomFiles(random *rand.Rand, n int) []api.File {
	var l []api.File
	for range random.Intn(n + 1) {
		path := []string{"", "a", "a-b", "a/b", "b", "c", "\xff"}[random.Intn(7)]
		l = append(l, api.File{Path: path, Data: []string{"", "1", "2"}[random.Intn(3)]})
	}
	return l
}

func TestOfAgainstTheWords(t *testing.T) {
	for _, a := range wild() {
		for _, b := range wild() {
			if got, want := Of(a, b), ofByWords(a, b); !slices.Equal(got, want) {
				t.Fatalf("Of %q and %q: %v, not %v", a, b, got, want)
			}
		}
	}
	random := rand.New(rand.NewSource(8))
	for range 20000 {
		a, b := randomFiles(random, 8), randomFiles(random, 8)
		if got, want := Of(a, b), ofByWords(a, b); !slices.Equal(got, want) {
			t.Fatalf("Of %q and %q: %v, not %v", a, b, got, want)
		}
	}
}

func TestApplyOfChangesThatFit(t *testing.T) {
	three := of("b", "1", "d", "", "f", "3")
	raw := of("c", "1", "a", "2", "c", "3", "b", "4", "a", "5")
	most := strings.Repeat("d", api.MaxData+1)
	cases := []struct {
		what string
		t    []api.File
		cs   []Change
		want []api.File
	}{
		{"none to none", nil, nil, nil},
		{"none to an empty list", []api.File{}, []Change{}, nil},
		{"none", three, nil, three},
		{"none to no tree", raw, nil, raw},
		{"one that puts in, to none", nil, []Change{in("a", "1")}, of("a", "1")},
		{"one that puts in ahead of all", three, []Change{in("a", "9")}, of("a", "9", "b", "1", "d", "", "f", "3")},
		{"one that puts in between", three, []Change{in("e", "9")}, of("b", "1", "d", "", "e", "9", "f", "3")},
		{"one that puts in behind all", three, []Change{in("g", "9")}, of("b", "1", "d", "", "f", "3", "g", "9")},
		{"one that puts in an empty file", three, []Change{in("e", "")}, of("b", "1", "d", "", "e", "", "f", "3")},
		{"one that leaves out", three, []Change{out("f", "3")}, of("b", "1", "d", "")},
		{"one that leaves out an empty file", three, []Change{out("d", "")}, of("b", "1", "f", "3")},
		{"one that leaves out the one file", of("a", "1"), []Change{out("a", "1")}, nil},
		{"one that changes data", three, []Change{over("b", "1", "9")}, of("b", "9", "d", "", "f", "3")},
		{"one that makes data empty", three, []Change{over("b", "1", "")}, of("b", "", "d", "", "f", "3")},
		{"one that fills an empty file", three, []Change{over("d", "", "9")}, of("b", "1", "d", "9", "f", "3")},
		{"one of the data that there is", three, []Change{over("b", "1", "1")}, three},
		{"one that is neither there ahead nor behind", three, []Change{{Path: "x"}}, three},
		{"the zero change", three, []Change{{}}, three},
		{"New where nothing is behind", three, []Change{{Path: "b", Was: true, Old: "1", New: "9"}}, of("d", "", "f", "3")},
		{"New where nothing was and nothing is", three, []Change{{Path: "x", New: "9"}}, three},
		{"of all kinds", three, []Change{over("b", "1", "9"), out("d", ""), in("e", "")}, of("b", "9", "e", "", "f", "3")},
		{"in falling order", three, []Change{in("g", "7"), in("e", "8"), in("a", "9")}, of("a", "9", "b", "1", "d", "", "e", "8", "f", "3", "g", "7")},
		{"several at one path", three, []Change{over("b", "1", "2"), over("b", "2", "3"), out("b", "3"), in("b", "4"), over("b", "4", "5")}, of("b", "5", "d", "", "f", "3")},
		{"one that puts in, one that leaves out again", three, []Change{in("x", "1"), out("x", "1")}, three},
		{"one that leaves out, one that puts in again", three, []Change{out("b", "1"), in("b", "1")}, three},
		{"one that is missing behind one that leaves out", three, []Change{out("b", "1"), {Path: "b"}}, of("d", "", "f", "3")},
		{"one that leaves out the same file twice, behind one that puts it in", three, []Change{out("b", "1"), in("b", "2"), out("b", "2")}, of("d", "", "f", "3")},
		{"paths that are none", three, []Change{in("", "1"), in("\xff", "2"), in("a/", "3")}, of("", "1", "a/", "3", "b", "1", "d", "", "f", "3", "\xff", "2")},
		{"one that leaves out a path that is none", of("", "1", "a", "2"), []Change{out("", "1")}, of("a", "2")},
		{"one under a file", three, []Change{in("b/c", "9")}, of("b", "1", "b/c", "9", "d", "", "f", "3")},
		{"more data than MaxData", three, []Change{over("b", "1", most)}, of("b", most, "d", "", "f", "3")},
		{"to no tree, one that puts in: the paths rise", raw, []Change{in("b-", "9")}, of("a", "2", "a", "5", "b", "4", "b-", "9", "c", "1", "c", "3")},
		{"to no tree, one that changes data: its path is there once", raw, []Change{over("c", "1", "9")}, of("a", "2", "a", "5", "b", "4", "c", "9")},
		{"to no tree, one that leaves out: all at its path, the others in order", raw, []Change{out("a", "2")}, of("c", "1", "c", "3", "b", "4")},
		{"to no tree, one that is neither there ahead nor behind: in order", raw, []Change{{Path: "x"}}, raw},
		{"to no tree, one at a path that was there twice, then none", raw, []Change{out("c", "1"), in("c", "3"), out("c", "3")}, of("a", "2", "a", "5", "b", "4")},
	}
	for _, c := range cases {
		if got, ok := Apply(c.t, c.cs...); !ok || !slices.Equal(got, c.want) {
			t.Errorf("Apply of %s: %q, %v, not %q", c.what, got, ok, c.want)
		}
	}
}

func TestApplyOfChangesThatDoNotFit(t *testing.T) {
	three := of("b", "1", "d", "", "f", "3")
	twice := of("x", "1", "a", "2", "x", "3")
	cases := []struct {
		what string
		t    []api.File
		cs   []Change
	}{
		{"Was of a file that is missing", three, []Change{over("x", "", "9")}},
		{"Was of a file that is missing from none", nil, []Change{over("b", "1", "9")}},
		{"Was of a file that is missing, to be left out", three, []Change{out("x", "")}},
		{"no Was of a file that is there", three, []Change{in("b", "9")}},
		{"no Was of a file that is there, with its data as Old", three, []Change{{Path: "b", Is: true, Old: "1", New: "9"}}},
		{"no Was of a file that is there and empty", three, []Change{in("d", "9")}},
		{"no Was of a file that is there and empty, nor Is", three, []Change{{Path: "d"}}},
		{"other Old", three, []Change{over("b", "2", "9")}},
		{"an empty Old", three, []Change{over("b", "", "9")}},
		{"Old of an empty file", three, []Change{over("d", "1", "9")}},
		{"Old that goes on", three, []Change{over("b", "11", "9")}},
		{"other Old of a file to be left out", three, []Change{out("b", "2")}},
		{"Old of a file that is missing and is to be put in", three, []Change{{Path: "x", Is: true, Old: "1", New: "9"}}},
		{"Old of a file that is missing and is to be missing", three, []Change{{Path: "x", Old: "1"}}},
		{"Old and New exchanged", three, []Change{over("b", "9", "1")}},
		{"a file of another path's data", three, []Change{over("b", "3", "9")}},
		{"a path with great letters", three, []Change{over("B", "1", "9")}},
		{"a path's beginning", of("bb", "1"), []Change{over("b", "1", "9")}},
		{"the first of several", three, []Change{over("b", "2", "9"), in("x", "1"), in("y", "1")}},
		{"one among several", three, []Change{in("x", "1"), over("b", "2", "9"), in("y", "1")}},
		{"the last of several", three, []Change{in("x", "1"), in("y", "1"), over("b", "2", "9")}},
		{"one that fitted ahead of the one before", three, []Change{over("b", "1", "9"), over("b", "1", "8")}},
		{"one that leaves out what is out", three, []Change{out("b", "1"), out("b", "1")}},
		{"one that puts in what is in", three, []Change{in("x", "1"), in("x", "1")}},
		{"one that would fit ahead of the one behind", three, []Change{over("x", "1", "2"), in("x", "1")}},
		{"the second file of a path that is there twice", twice, []Change{over("x", "3", "9")}},
		{"the second file of a path, when the first one is left out", twice, []Change{out("x", "1"), out("x", "3")}},
		{"the second file of a path, when the first one is changed", twice, []Change{over("x", "1", "9"), over("x", "3", "8")}},
		{"the empty path that is missing", three, []Change{out("", "")}},
	}
	for _, c := range cases {
		if got, ok := Apply(c.t, c.cs...); ok || len(got) != 0 {
			t.Errorf("Apply of changes that do not fit, %s: %q, %v", c.what, got, ok)
		}
	}
}

func TestApplyBeyondMaxFiles(t *testing.T) {
	l := rising(api.MaxFiles, "1")
	got, ok := Apply(l, in("z", "2"))
	if want := append(rising(api.MaxFiles, "1"), api.File{Path: "z", Data: "2"}); !ok || !slices.Equal(got, want) {
		t.Errorf("Apply that puts in one more than MaxFiles: %q, %v", got, ok)
	}
}

// putByWords answers t's files but those at a path, and the one file there, by rising paths, those of one path in order.
func putByWords(t []api.File, f api.File) []api.File {
	put := append(dropByWords(t, f.Path), f)
	sort.SliceStable(put, func(i, j int) bool { return put[i].Path < put[j].Path })
	return put
}

// dropByWords answers t's files but those at a path.
func dropByWords(t []api.File, path string) []api.File {
	var left []api.File
	for _, f := range t {
		if f.Path != path {
			left = append(left, f)
		}
	}
	return left
}

// applyByWords goes by the chapter's words, without tree.
func applyByWords(t []api.File, cs []Change) ([]api.File, bool) {
	for _, c := range cs {
		i, there := firsts(t)[c.Path]
		switch {
		case there != c.Was, there && t[i].Data != c.Old, !there && c.Old != "":
			return nil, false
		case c.Is:
			t = putByWords(t, api.File{Path: c.Path, Data: c.New})
		default:
			t = dropByWords(t, c.Path)
		}
	}
	return t, true
}

// randomChanges makes changes of which most fit to t, one behind the other.
func randomChanges(random *rand.Rand, t []api.File) []Change {
	var cs []Change
	for range random.Intn(6) {
		path := []string{"", "a", "a-b", "a/b", "b", "c", "\xff"}[random.Intn(7)]
		c := Change{Path: path, Is: random.Intn(2) == 0, New: []string{"", "1", "2"}[random.Intn(3)]}
		if i, there := firsts(t)[path]; there {
			c.Was, c.Old = true, t[i].Data
		}
		if random.Intn(12) == 0 {
			c.Was = !c.Was
		}
		if random.Intn(12) == 0 {
			c.Old += "1"
		}
		if next, ok := applyByWords(t, []Change{c}); ok {
			t = next
		}
		cs = append(cs, c)
	}
	return cs
}

func TestApplyAgainstTheWords(t *testing.T) {
	random, fit, unfit := rand.New(rand.NewSource(8)), 0, 0
	for range 50000 {
		l := randomFiles(random, 8)
		cs := randomChanges(random, l)
		got, ok := Apply(l, cs...)
		want, fits := applyByWords(l, cs)
		if ok != fits || !slices.Equal(got, want) {
			t.Fatalf("Apply of %v to %q: %q, %v, not %q, %v", cs, l, got, ok, want, fits)
		}
		if ok {
			fit++
		} else {
			unfit++
		}
	}
	if fit < 5000 || unfit < 5000 {
		t.Errorf("of the changes that were tried %d fit, %d do not", fit, unfit)
	}
}

func TestTurn(t *testing.T) {
	cases := []struct {
		what     string
		cs, want []Change
	}{
		{"none", nil, nil},
		{"an empty list", []Change{}, nil},
		{"one that puts in", []Change{in("a", "1")}, []Change{out("a", "1")}},
		{"one that leaves out", []Change{out("a", "1")}, []Change{in("a", "1")}},
		{"one that changes data", []Change{over("a", "1", "2")}, []Change{over("a", "2", "1")}},
		{"one of the data that there was", []Change{over("a", "1", "1")}, []Change{over("a", "1", "1")}},
		{"the zero change", []Change{{}}, []Change{{}}},
		{"one with all that it may say", []Change{{Path: "p", Was: false, Is: false, Old: "o", New: "n"}}, []Change{{Path: "p", Was: false, Is: false, Old: "n", New: "o"}}},
		{"one of what was with data that is not", []Change{{Path: "\xff", Was: true, Is: false, Old: "o", New: "n"}}, []Change{{Path: "\xff", Was: false, Is: true, Old: "n", New: "o"}}},
		{"two", []Change{in("a", "1"), in("b", "2")}, []Change{out("b", "2"), out("a", "1")}},
		{"several of all kinds", []Change{over("b", "2", "3"), out("c", ""), in("d", "4")}, []Change{out("d", "4"), in("c", ""), over("b", "3", "2")}},
		{"several in no order", []Change{in("c", "1"), in("a", "2"), in("b", "3")}, []Change{out("b", "3"), out("a", "2"), out("c", "1")}},
		{"several at one path", []Change{in("a", "1"), over("a", "1", "2"), over("a", "2", "3")}, []Change{over("a", "3", "2"), over("a", "2", "1"), out("a", "1")}},
	}
	for _, c := range cases {
		got := Turn(c.cs...)
		if !slices.Equal(got, c.want) {
			t.Errorf("Turn of %s: %v, not %v", c.what, got, c.want)
		}
		if again := Turn(got...); !slices.Equal(again, c.cs) {
			t.Errorf("Turn of %s, turned twice: %v", c.what, again)
		}
	}
	if got := Turn(); len(got) != 0 {
		t.Errorf("Turn of nothing: %v", got)
	}
}

// allTrees tells all trees of at most three files, of few paths and little data.
func allTrees() [][]api.File {
	trees := [][]api.File{nil}
	for _, path := range []string{"a", "a-b", "a/b", "b"} {
		for _, t := range slices.Clone(trees) {
			for _, data := range []string{"", "1", "2"} {
				if more := append(slices.Clone(t), api.File{Path: path, Data: data}); len(more) <= 3 && tree.May(more) {
					trees = append(trees, more)
				}
			}
		}
	}
	return trees
}

// thereAndBack holds P8.2 of two trees.
func thereAndBack(t *testing.T, a, b []api.File) {
	t.Helper()
	cs := Of(a, b)
	if got, ok := Apply(a, cs...); !ok || !slices.Equal(got, b) {
		t.Fatalf("Apply of Of %q and %q: %q, %v", a, b, got, ok)
	}
	if got, ok := Apply(b, Turn(cs...)...); !ok || !slices.Equal(got, a) {
		t.Fatalf("Apply of Turn of Of %q and %q: %q, %v", a, b, got, ok)
	}
}

func TestThereAndBackOfAllSmallTrees(t *testing.T) {
	trees := allTrees()
	if len(trees) < 50 {
		t.Fatalf("too few trees: %d", len(trees))
	}
	for _, a := range trees {
		for _, b := range trees {
			thereAndBack(t, a, b)
		}
	}
}

// randomTree makes a tree of up to MaxFiles files, some of them with most data.
func randomTree(random *rand.Rand) []api.File {
	var l []api.File
	for i := range 2 * api.MaxFiles {
		f := api.File{Path: fmt.Sprintf("d%02d/%s", i, strings.Repeat("p", api.MaxPath-4)), Data: fmt.Sprint(random.Intn(3))}
		if random.Intn(3) == 0 {
			f.Data = strings.Repeat("\xff", api.MaxData)
		}
		if random.Intn(2) == 0 && len(l) < api.MaxFiles {
			l = append(l, f)
		}
	}
	return l
}

func TestThereAndBackOfRandomTrees(t *testing.T) {
	random, full := rand.New(rand.NewSource(8)), 0
	for range 2000 {
		a, b := randomTree(random), randomTree(random)
		if !tree.May(a) || !tree.May(b) {
			t.Fatalf("no trees: %q, %q", a, b)
		}
		if len(a) == api.MaxFiles && len(b) == api.MaxFiles {
			full++
		}
		thereAndBack(t, a, b)
	}
	if full < 100 {
		t.Errorf("of the trees that were tried only %d have all files that they may", full)
	}
}

// roomy answers a list like l, with room behind it that says spare, and the room as a whole.
func roomy[T any](l []T, spare T) (handed []T, room []T) {
	room = append(slices.Clone(l), spare, spare, spare)
	return room[:len(l)], room
}

func TestWhatIsHandedInStaysAsItWas(t *testing.T) {
	spoilt := api.File{Path: "spoilt"}
	for _, a := range wild() {
		for _, b := range wild() {
			l, files := roomy(a, api.File{Path: "spare", Data: "1"})
			m, others := roomy(b, api.File{Path: "spare", Data: "2"})
			keptFiles, keptOthers := slices.Clone(files), slices.Clone(others)
			sample.Spoil(Of(l, m), Change{Path: "spoilt"})
			cs, changes := roomy(append(ofByWords(a, b), Change{Path: "x"}), Change{Path: "spare"})
			keptChanges := slices.Clone(changes)
			for n := range len(cs) + 1 {
				got, ok := Apply(l, cs[:n]...)
				if !ok {
					t.Fatalf("Apply of %v to %q", cs[:n], l)
				}
				sample.Spoil(got, spoilt)
			}
			sample.Spoil(Turn(cs...), Change{Path: "spoilt"})
			// These do not fit, the one at once, the other behind others that do.
			Apply(l, Change{Was: true, Is: true, Path: "x", New: "9"})
			Apply(l, append(slices.Clone(cs), out("x", ""))...)
			if !slices.Equal(files, keptFiles) || !slices.Equal(others, keptOthers) || !slices.Equal(changes, keptChanges) {
				t.Fatalf("%q and %q, behind all calls: %q, %q, %v", a, b, files, others, changes)
			}
		}
	}
}

func TestAnswersShareNothing(t *testing.T) {
	spoiltFile, spoiltChange := api.File{Path: "spoilt"}, Change{Path: "spoilt"}
	for _, a := range wild() {
		for _, b := range wild() {
			l, m := slices.Clone(a), slices.Clone(b)
			given := ofByWords(a, b)
			cs, again := Of(l, m), Of(l, m)
			turned, twice := Turn(given...), Turn(given...)
			applied, _ := Apply(l, given...)
			repeated, _ := Apply(l, given...)
			same, _ := Apply(l)
			wantCs, wantTurned, wantApplied := slices.Clone(cs), slices.Clone(turned), slices.Clone(applied)
			sample.Spoil(l, spoiltFile)
			sample.Spoil(m, spoiltFile)
			sample.Spoil(repeated, spoiltFile)
			sample.Spoil(given, spoiltChange)
			sample.Spoil(again, spoiltChange)
			sample.Spoil(twice, spoiltChange)
			if !slices.Equal(cs, wantCs) || !slices.Equal(turned, wantTurned) || !slices.Equal(applied, wantApplied) || !slices.Equal(same, a) {
				t.Fatalf("of %q and %q, behind a change of all else: %v, %v, %q, %q", a, b, cs, turned, applied, same)
			}
		}
	}
}

func TestSeveralGoroutines(t *testing.T) {
	a, b := rising(api.MaxFiles, "1"), rising(api.MaxFiles-3, "2")
	cs := Of(a, b)
	var group sync.WaitGroup
	for range 8 {
		group.Go(func() {
			for range 50 {
				there, ok := Apply(a, cs...)
				back, also := Apply(b, Turn(cs...)...)
				if !ok || !also || !slices.Equal(there, b) || !slices.Equal(back, a) || !slices.Equal(Of(a, b), cs) {
					t.Error("calls from several goroutines")
				}
			}
		})
	}
	group.Wait()
}

func TestFourHundredFiles(t *testing.T) {
	a, b := rising(400, "1"), rising(400, "2")
	slices.Reverse(a)
	cs := append(Of(a, nil), Of(nil, b)...)
	got, ok := Apply(a, cs...)
	if len(cs) != 800 || !ok || !slices.Equal(got, b) {
		t.Errorf("four hundred files: %d changes, then %d files, %v", len(cs), len(got), ok)
	}
	slices.Reverse(a)
	if got, ok = Apply(b, Turn(cs...)...); !ok || !slices.Equal(got, a) {
		t.Errorf("four hundred files, turned: %d, %v", len(got), ok)
	}
}

func TestTurnOfFarTooManyChanges(t *testing.T) {
	const n = 200000
	cs := make([]Change, n)
	for i := range cs {
		cs[i] = in(fmt.Sprint(i), "1")
	}
	if turned := Turn(cs...); len(turned) != n || turned[0] != out(fmt.Sprint(n-1), "1") || turned[n-1] != out("0", "1") {
		t.Error("Turn of far too many changes")
	}
}
