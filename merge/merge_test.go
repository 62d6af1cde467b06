package merge

import (
	"fmt"
	"math/rand"
	"slices"
	"strings"
	"testing"

	"cortege/api"
	"cortege/base"
	"cortege/dag"
	"cortege/join"
	"cortege/repo"
	"cortege/sample"
)

// most is as many commits as a Repo has room for.
const most = 2 * api.MaxCommits

// of makes files of paths and data, one behind the other: of("a", "1", "b", "2").
func of(pathsAndData ...string) []api.File { return sample.Files(pathsAndData...) }

// on makes a commit of files and parents.
func on(files []api.File, parents ...int) api.Commit { return sample.On(files, parents...) }

// kept answers a Repo with these commits, each under a note of its own.
func kept(cs ...api.Commit) *repo.Repo { return sample.Kept(repo.New(most), cs...) }

// files makes n files of one data, at paths that begin alike.
func files(beginning string, n int, data string) []api.File {
	return sample.Alike(beginning, n, data)
}

// same tells whether two commits are just alike.
func same(one, other api.Commit) bool {
	return slices.Equal(one.Parents, other.Parents) && slices.Equal(one.Tree, other.Tree) && one.Note == other.Note
}

// wantNothing looks whether nothing is told of two, either way round.
func wantNothing(t *testing.T, what string, r *repo.Repo, a, b int) {
	t.Helper()
	for _, ab := range [][2]int{{a, b}, {b, a}} {
		if m, conflicts, ok := Of(r, ab[0], ab[1]); ok || len(conflicts) > 0 || !same(m, api.Commit{}) {
			t.Errorf("%s: Of %v: %v, %q, %v, not nothing", what, ab, m, conflicts, ok)
		}
		if Clean(r, ab[0], ab[1]) {
			t.Errorf("%s: Clean of %v: true", what, ab)
		}
	}
}

// wantOneWay holds the merge of two, in this order, against the files or the conflicts that are wanted.
func wantOneWay(t *testing.T, what string, r *repo.Repo, a, b int, files []api.File, conflicts []string) {
	t.Helper()
	var m api.Commit
	if len(conflicts) == 0 {
		m = on(files, slices.Compact([]int{a, b})...)
	}
	got, paths, ok := Of(r, a, b)
	if !ok || !same(got, m) || !slices.Equal(paths, conflicts) {
		t.Errorf("%s: Of %d and %d: %v, %q, %v, not %v, %q", what, a, b, got, paths, ok, m, conflicts)
	}
	if clean := Clean(r, a, b); clean != (len(conflicts) == 0) {
		t.Errorf("%s: Clean of %d and %d: %v", what, a, b, clean)
	}
}

// wantEitherWay holds the merge of two, in both orders, against the files or the conflicts that are wanted.
func wantEitherWay(t *testing.T, what string, r *repo.Repo, a, b int, files []api.File, conflicts []string) {
	t.Helper()
	wantOneWay(t, what, r, a, b, files, conflicts)
	wantOneWay(t, what, r, b, a, files, conflicts)
}

// want holds the merge of two, in both orders, against the files or the conflicts that are wanted. Where it comes to a commit, that is put in, and merged with each of both.
func want(t *testing.T, what string, r *repo.Repo, a, b int, files []api.File, conflicts []string) {
	t.Helper()
	wantEitherWay(t, what, r, a, b, files, conflicts)
	if len(conflicts) > 0 || r.Len() == most {
		return
	}
	for _, ab := range [][2]int{{a, b}, {b, a}} {
		m, _, _ := Of(r, ab[0], ab[1])
		wantPutIn(t, what, r.Copy(1), m)
	}
}

// wantPutIn looks whether the commit may be put in, and whether its merges with each of its parents have its own files.
func wantPutIn(t *testing.T, what string, r *repo.Repo, m api.Commit) {
	t.Helper()
	n, e := r.Add(m)
	if n == 0 || e != api.OK {
		t.Errorf("%s: Add of %v: %d, %d", what, m, n, e)
		return
	}
	for _, p := range m.Parents {
		wantEitherWay(t, what+", put in", r, n, p, m.Tree, nil)
	}
	wantOneWay(t, what+", put in", r, n, n, m.Tree, nil)
}

func TestTheChaptersExample(t *testing.T) {
	r := kept(on(nil), on(of("a", "1"), 1), on(of("b", "2"), 1))
	m, conflicts, ok := Of(r, 2, 3)
	if !ok || len(conflicts) > 0 || !same(m, on(of("a", "1", "b", "2"), 2, 3)) || !Clean(r, 2, 3) {
		t.Errorf("Of of two files' additions: %v, %q, %v", m, conflicts, ok)
	}
}

// change is what two made of a tree, and the files that they come to, or the conflicts.
type change struct {
	what      string
	base      []api.File
	one       []api.File
	other     []api.File
	files     []api.File
	conflicts []string
}

// changes are those that come to files, and those that do not.
func changes() []change { return slices.Concat(together(), conflicting()) }

// together are changes that come to files.
func together() []change {
	const n = api.MaxFiles
	long := strings.Repeat("l", api.MaxData/2-2)
	good := func(what string, base, one, other, files []api.File) change {
		return change{what, base, one, other, files, nil}
	}
	return []change{
		good("nobody has files", nil, nil, nil, nil),
		good("nobody changes anything", of("a", "1", "b", "2"), of("a", "1", "b", "2"), of("a", "1", "b", "2"), of("a", "1", "b", "2")),
		good("one alone changes a file", of("f", "a\n", "g", "1"), of("f", "b\n", "g", "1"), of("f", "a\n", "g", "1"), of("f", "b\n", "g", "1")),
		good("each changes a file of its own", of("f", "a\n", "g", "1"), of("f", "b\n", "g", "1"), of("f", "a\n", "g", "2"), of("f", "b\n", "g", "2")),
		good("each changes lines of its own", of("f", "a\nx\nb\n", "g", "1"), of("f", "A\nx\nb\n", "g", "1"), of("f", "a\nx\nB\n", "g", "1"), of("f", "A\nx\nB\n", "g", "1")),
		good("each changes lines of its own, of two files", of("f", "a\nx\nb\n", "g", "c\ny\nd\n"), of("f", "A\nx\nb\n", "g", "c\ny\nD\n"), of("f", "a\nx\nB\n", "g", "C\ny\nd\n"), of("f", "A\nx\nB\n", "g", "C\ny\nD\n")),
		good("both change the same lines alike", of("f", "a\nx\nb\n"), of("f", "A\nx\nb\n"), of("f", "A\nx\nb\n"), of("f", "A\nx\nb\n")),
		good("both change the same lines alike, the one others, too", of("f", "a\nx\nb\n"), of("f", "A\nx\nb\n"), of("f", "A\nx\nB\n"), of("f", "A\nx\nB\n")),
		good("each puts in a file of its own", nil, of("b", "1"), of("a", "2"), of("a", "2", "b", "1")),
		good("each puts in a file of its own, beside one that was there", of("c", "3"), of("b", "1", "c", "3"), of("a", "2", "c", "3"), of("a", "2", "b", "1", "c", "3")),
		good("both put in one file with the same data", nil, of("a", "1"), of("a", "1"), of("a", "1")),
		good("both put in one file, the one with no data", nil, of("a", ""), of("a", "1"), of("a", "1")),
		good("each leaves out a file", of("a", "1", "b", "2", "c", "3"), of("a", "1", "c", "3"), of("b", "2", "c", "3"), of("c", "3")),
		good("each leaves out all that the other does not", of("a", "1", "b", "2"), of("a", "1"), of("b", "2"), nil),
		good("both leave out all", of("a", "1", "b", "2"), nil, nil, nil),
		good("one alone leaves out all", of("a", "1", "b", "2"), nil, of("a", "1", "b", "2"), nil),
		good("both leave out one, and each puts in one", of("m", "1"), of("a", "1"), of("z", "1"), of("a", "1", "z", "1")),
		good("one makes a folder of a file", of("a", "1"), of("a/b", "2"), of("a", "1", "c", "3"), of("a/b", "2", "c", "3")),
		good("one makes a file of a folder", of("a/b", "1", "a/c", "2"), of("a", "3"), of("a/b", "1", "a/c", "2"), of("a", "3")),
		good("as many files as may be", files("m", 2, "0"), slices.Concat(files("a", n/2-1, "1"), files("m", 2, "0")), slices.Concat(files("m", 2, "0"), files("z", n/2-1, "2")), slices.Concat(files("a", n/2-1, "1"), files("m", 2, "0"), files("z", n/2-1, "2"))),
		good("as many files as may be of those that one alone has", nil, files("a", n, "1"), nil, files("a", n, "1")),
		good("one leaves out some, the other all", files("a", n, "1"), files("a", n-2, "1"), nil, nil),
		good("one puts in others for what it leaves out", files("a", n, "1"), slices.Concat(files("a", n, "1")[1:], of("b", "2")), files("a", n, "1"), slices.Concat(files("a", n, "1")[1:], of("b", "2"))),
		good("as many bytes as may be", of("f", "x\n"), of("f", long+"\nx\n"), of("f", "x\n"+long+"m"), of("f", long+"\nx\n"+long+"m")),
	}
}

// conflicting are changes that do not come to files.
func conflicting() []change {
	const n = api.MaxFiles
	long := strings.Repeat("l", api.MaxData/2-2)
	bad := func(what string, base, one, other []api.File, conflicts ...string) change {
		return change{what, base, one, other, nil, conflicts}
	}
	return []change{
		bad("both change the same lines in unlike ways", of("f", "a\n"), of("f", "b\n"), of("f", "c\n"), "f"),
		bad("both change the same lines in unlike ways, beside files that go together", of("a", "1", "f", "a\n", "g", "1"), of("a", "2", "f", "b\n", "g", "1"), of("a", "1", "f", "c\n", "g", "2"), "f"),
		bad("both change lines that lie together", of("f", "a\nb\n"), of("f", "A\nb\n"), of("f", "a\nB\n"), "f"),
		bad("both put in one file with unlike data", nil, of("a", "1"), of("a", "2"), "a"),
		bad("both put in one file with unlike data, beside files of their own", of("m", "0"), of("a", "1", "b", "1", "m", "0"), of("b", "2", "c", "2", "m", "0"), "b"),
		bad("one leaves out what the other changes", of("a", "1", "b", "2"), of("b", "2"), of("a", "3", "b", "2"), "a"),
		bad("one leaves out what the other empties", of("a", "1"), nil, of("a", ""), "a"),
		bad("one leaves out all, the other changes all", of("a", "1", "b", "2"), nil, of("a", "3", "b", "4"), "a", "b"),
		bad("several conflicts of all kinds", of("a/b", "1", "c", "1", "d", "1", "e", "1"), of("a/b", "2", "c", "2", "e", "1", "z", "1"), of("a/b", "3", "d", "2", "e", "1", "z", "2"), "a/b", "c", "d", "z"),
		bad("conflicts that rise by bytes", of("Z", "1", "a-b", "1", "a/b", "1", "~", "1"), of("Z", "2", "a-b", "2", "a/b", "2", "~", "2"), of("Z", "3", "a-b", "3", "a/b", "3", "~", "3"), "Z", "a-b", "a/b", "~"),
		bad("as many conflicts as files may be", files("f", n, "0"), files("f", n, "1"), files("f", n, "2"), paths(files("f", n, "0"))...),
		bad("one puts in a file under one that the other puts in", nil, of("a", "1"), of("a/b", "2"), "a/b"),
		bad("one puts in files under one that the other puts in, beside a change", of("c", "1"), of("a", "1", "c", "1"), of("a/b", "2", "a/c/d", "3", "c", "9"), "a/b", "a/c/d"),
		bad("one makes a folder of a file that the other changes", of("a", "1"), of("a/b", "2"), of("a", "3"), "a"),
		bad("one file more than may be", nil, files("a", n, "1"), of("b", "2"), "*"),
		bad("twice as many files as may be", nil, files("a", n, "1"), files("b", n, "2"), "*"),
		bad("one file more than may be, beside one that both changed", of("a", "1"), slices.Concat(of("a", "2"), files("b", n-2, "1")), slices.Concat(of("a", "3"), files("c", 3, "1")), "*", "a"),
		bad("one file more than may be, and one under another one", of("x", "1"), slices.Concat(files("b", n-2, "1"), of("x", "1", "y", "1")), of("x", "1", "y/a", "1"), "*", "y/a"),
		bad("one makes it Binary, the other changes it", of("f", "a\nx\nb\n"), of("f", "\x00\nx\nb\n"), of("f", "a\nx\nB\n"), "f"),
		bad("one byte more than may be", of("f", "x\n"), of("f", long+"\nx\n"), of("f", "x\n"+long+"mm"), "f"),
	}
}

// paths answers the paths of files.
func paths(l []api.File) []string {
	var all []string
	for _, f := range l {
		all = append(all, f.Path)
	}
	return all
}

// part answers each third file, from one on.
func part(l []api.File, from int) []api.File {
	var some []api.File
	for i := from; i < len(l); i += 3 {
		some = append(some, l[i])
	}
	return some
}

// grown is a Repo that holds a change, and the numbers of both that made it.
type grown struct {
	how  string
	r    *repo.Repo
	a, b int
}

// ways answers the change in Repos that all have its base for a base, by commits that came of one another in several ways.
func (c change) ways() []grown {
	other := of("other", "1")
	either := slices.Concat(part(c.base, 0), part(c.base, 1))
	slices.SortFunc(either, func(f, g api.File) int { return strings.Compare(f.Path, g.Path) })
	ways := []grown{
		{"both came of one", kept(on(c.base), on(c.one, 1), on(c.other, 1)), 2, 3},
		{"others stand between", kept(on(other), on(c.base, 1), on(other, 2), on(other), on(nil, 2), on(c.one, 4, 3), on(c.other, 5)), 6, 7},
		{"both came of a merge", kept(on(other), on(nil), on(c.base, 2, 1), on(c.other, 3), on(c.one, 3)), 5, 4},
		{"both came of two alike", kept(on(other), on(c.base, 1), on(c.base, 1), on(c.one, 2, 3), on(c.other, 3, 2)), 4, 5},
		{"both came of two that put in a part each", kept(on(nil), on(either, 1), on(part(c.base, 2), 1), on(c.one, 2, 3), on(c.other, 3, 2)), 4, 5},
		{"both came of two beginnings", kept(on(either), on(part(c.base, 2)), on(c.one, 2, 1), on(c.other, 1, 2)), 3, 4},
		{"both came of three", kept(on(part(c.base, 2)), on(part(c.base, 0)), on(part(c.base, 1)), on(other, 3, 2), on(c.one, 4, 1), on(other, 1, 3), on(c.other, 6, 2)), 5, 7},
		{"both came of two that came of two", kept(on(part(c.base, 1)), on(part(c.base, 2)), on(c.base, 1, 2), on(c.base, 2, 1), on(c.one, 3, 4), on(c.other, 4, 3)), 5, 6},
	}
	if len(c.base) == 0 {
		ways = append(ways,
			grown{"they have nothing in common", kept(on(c.one), on(c.other)), 1, 2},
			grown{"they have nothing in common, and came of others", kept(on(other), on(other), on(c.one, 2), on(c.other, 1)), 3, 4},
		)
	}
	return ways
}

func TestChanges(t *testing.T) {
	for _, c := range changes() {
		if files, conflicts := join.Of(c.base, c.one, c.other); !slices.Equal(files, c.files) || !slices.Equal(conflicts, c.conflicts) {
			t.Errorf("%s: join.Of: %q, %q, not %q, %q", c.what, files, conflicts, c.files, c.conflicts)
		}
		for _, g := range c.ways() {
			want(t, c.what+", "+g.how, g.r, g.a, g.b, c.files, c.conflicts)
		}
	}
}

func TestACommitWithItself(t *testing.T) {
	for _, c := range changes() {
		for _, g := range c.ways() {
			for n, m := range g.r.All() {
				want(t, c.what+", "+g.how, g.r, n, n, m.Tree, nil)
			}
		}
	}
	only := kept(on(of("x", "1")))
	if m, conflicts, ok := Of(only, 1, 1); !ok || len(conflicts) > 0 || !same(m, on(of("x", "1"), 1)) {
		t.Errorf("Of the only one and itself: %v, %q, %v", m, conflicts, ok)
	}
}

func TestNothingInCommon(t *testing.T) {
	r := kept(
		on(of("a", "1")),
		on(of("a", "1")),
		on(of("b", "2")),
		on(of("a", "2", "c", "3")),
		on(nil),
		on(of("a", "3"), 1),
		on(of("d", "4"), 1, 3),
	)
	for _, c := range []struct {
		what      string
		a, b      int
		files     []api.File
		conflicts []string
	}{
		{"the same files", 1, 2, of("a", "1"), nil},
		{"files of their own", 1, 3, of("a", "1", "b", "2"), nil},
		{"a conflict", 1, 4, nil, []string{"a"}},
		{"the one has no files", 4, 5, of("a", "2", "c", "3"), nil},
		{"the one changed what both have", 6, 2, nil, []string{"a"}},
		{"the one left out what both have", 7, 2, of("a", "1", "d", "4"), nil},
		{"each has files of its own", 7, 4, of("a", "2", "c", "3", "d", "4"), nil},
		{"the one came of the other, too", 7, 3, of("d", "4"), nil},
	} {
		want(t, c.what, r, c.a, c.b, c.files, c.conflicts)
	}
}

func TestTheOneCameOfTheOther(t *testing.T) {
	r := kept(
		on(of("a", "1", "b", "1")),
		on(of("a", "2", "b", "1"), 1),
		on(of("a", "3"), 1),
		on(of("c", "9"), 2, 3),
		on(nil, 4),
		on(of("a", "1"), 5),
		on(of("z", "1")),
		on(of("a", "9", "z", "2"), 7, 6),
	)
	for n, c := range r.All() {
		for m := range dag.Ahead(r, n) {
			want(t, fmt.Sprintf("%d came of %d", n, m), r, n, m, c.Tree, nil)
		}
	}
}

func TestTheOneCameOfTheOtherInFullRepos(t *testing.T) {
	random := rand.New(rand.NewSource(18))
	for _, history := range sample.Full(most, random.Intn) {
		trees := sample.Trees(history, random.Intn)
		r := sample.Planted(repo.New(most), history, trees)
		for n := 1; n <= most; n += 9 {
			for _, m := range sample.Ahead(history, n) {
				wantEitherWay(t, "the one came of the other", r, n, m, trees[n-1], nil)
			}
		}
	}
}

func TestTwoMergesOfTheSameTwo(t *testing.T) {
	first := of("f", "a\n-\nb\n-\nc\n")
	one, other := of("f", "A\n-\nb\n-\nc\n"), of("f", "a\n-\nb\n-\nC\n")
	r := kept(on(first), on(one, 1), on(other, 1))
	for _, ps := range [][2]int{{2, 3}, {3, 2}} {
		m, _, ok := Of(r, ps[0], ps[1])
		if n, e := r.Add(m); !ok || n == 0 || e != api.OK {
			t.Fatalf("a merge of two: %v, %v, %d, %d", m, ok, n, e)
		}
	}
	both := of("f", "A\n-\nb\n-\nC\n")
	want(t, "both merges", r, 4, 5, both, nil)
	r.Add(on(of("f", "A\n-\nB\n-\nC\n"), 4))
	r.Add(on(of("f", "A\n-\nb\n-\n!\n"), 5))
	r.Add(on(of("f", "A\n-\n?\n-\nC\n"), 5))
	want(t, "unlike lines behind both merges", r, 6, 7, of("f", "A\n-\nB\n-\n!\n"), nil)
	want(t, "the same line behind both merges", r, 6, 8, nil, []string{"f"})
	want(t, "one merge, and what is behind the other one", r, 4, 7, of("f", "A\n-\nb\n-\n!\n"), nil)
	// Of one of both alone, or of what is ahead of both, there would be a conflict here: both changed, in unlike ways, what they merged.
	r = kept(on(first), on(one, 1), on(other, 1), on(of("f", "1\n-\nb\n-\nC\n"), 2, 3), on(of("f", "A\n-\nb\n-\n2\n"), 3, 2))
	want(t, "merges that are changed", r, 4, 5, of("f", "1\n-\nb\n-\n2\n"), nil)
}

// letters answers n files of one data, by letters.
func letters(n int, data string) []api.File {
	var l []api.File
	for i := range n {
		l = append(l, api.File{Path: string(rune('a' + i)), Data: data})
	}
	return l
}

// taken answers a Repo of n beginnings with a file each, which two lines of merges take in, rising and falling, and the numbers of two commits behind these: of files one and other.
func taken(n int, one, other []api.File) (r *repo.Repo, a, b int) {
	all := letters(n, "1")
	var cs []api.Commit
	var rising []int
	for i := range n {
		cs = append(cs, on(all[i:i+1]))
		rising = append(rising, i+1)
	}
	falling := slices.Clone(rising)
	slices.Reverse(falling)
	history := sample.Taking(sample.Taking(make([][]int, n), rising...), falling...)
	for _, ps := range history[n:] {
		cs = append(cs, on(all, ps...))
	}
	cs = append(cs, on(one, 2*n-1), on(other, 3*n-2))
	return kept(cs...), len(cs) - 1, len(cs)
}

func TestManyBestOnes(t *testing.T) {
	for n := 2; n <= api.MaxFiles; n++ {
		all := letters(n, "1")
		r, a, b := taken(n, all, all)
		if got := len(base.Best(r, a, b)); got != n {
			t.Fatalf("%d best ones, not %d", got, n)
		}
		want(t, fmt.Sprintf("nothing changes behind %d best ones", n), r, a, b, all, nil)
		r, a, b = taken(n, all[1:], slices.Delete(slices.Clone(all), 1, 2))
		want(t, fmt.Sprintf("each leaves out a file of %d best ones", n), r, a, b, all[2:], nil)

		// The last one's file is in the base only if there are no more than MaxBases: else one alone has it.
		changed := append(slices.Clone(all[:n-1]), api.File{Path: all[n-1].Path, Data: "2"})
		r, a, b = taken(n, all[:n-1], changed)
		what := fmt.Sprintf("one leaves out what the other changes, the last one's file of %d best ones", n)
		if n <= api.MaxBases {
			want(t, what, r, a, b, nil, []string{all[n-1].Path})
		} else {
			want(t, what, r, a, b, changed, nil)
		}
	}
}

// orders answers all orders of the numbers from first to last.
func orders(first, last int) [][]int {
	if first > last {
		return [][]int{nil}
	}
	var all [][]int
	for _, l := range orders(first+1, last) {
		for i := range len(l) + 1 {
			all = append(all, slices.Insert(slices.Clone(l), i, first))
		}
	}
	return all
}

// oneBehindTheOther merges the commits of these numbers onto the first one, one behind the other, and answers the number of the last merge; each of them is to be clean.
func oneBehindTheOther(t *testing.T, r *repo.Repo, numbers ...int) int {
	t.Helper()
	tip := 1
	for _, n := range numbers {
		m, conflicts, ok := Of(r, tip, n)
		if !ok || len(conflicts) > 0 || !Clean(r, tip, n) {
			t.Fatalf("%v: of %d and %d: %q, %v", numbers, tip, n, conflicts, ok)
		}
		var e api.Errno
		if tip, e = r.Add(m); e != api.OK {
			t.Fatalf("%v: Add of %v: %d", numbers, m, e)
		}
	}
	return tip
}

func TestOneBehindTheOther(t *testing.T) {
	const n = 5
	first, own := strings.Repeat("0\n-\n", n), letters(n, "1")
	for _, parents := range [][]int{{1}, nil} {
		for _, order := range orders(2, n+1) {
			r := kept(on(of("x", "0")))
			for _, f := range own {
				r.Add(on([]api.File{f}, parents...))
			}
			all := own
			if parents == nil {
				all = append(letters(n, "1"), api.File{Path: "x", Data: "0"})
			}
			if c, _ := r.Get(oneBehindTheOther(t, r, order...)); !slices.Equal(c.Tree, all) {
				t.Errorf("files of their own, %v: %q", order, c.Tree)
			}
		}
	}
	for _, order := range orders(2, n+1) {
		r := kept(on(of("f", first)))
		for i := range n {
			r.Add(on(of("f", first[:4*i]+"1"+first[4*i+1:]), 1))
		}
		if c, _ := r.Get(oneBehindTheOther(t, r, order...)); !slices.Equal(c.Tree, of("f", strings.ReplaceAll(first, "0", "1"))) {
			t.Errorf("lines of their own, %v: %q", order, c.Tree)
		}
	}
}

func TestAsManyFilesAsMayBeOneBehindTheOther(t *testing.T) {
	random := rand.New(rand.NewSource(19))
	for range 20 {
		all := sample.Rising(api.MaxFiles + 1)
		r := kept(on(nil))
		for _, f := range all {
			r.Add(on([]api.File{f}, 1))
		}
		order := random.Perm(len(all))
		for i := range order {
			order[i] += 2
		}
		last := order[api.MaxFiles]
		tip := oneBehindTheOther(t, r, order[:api.MaxFiles]...)
		if c, _ := r.Get(tip); !slices.Equal(c.Tree, slices.Delete(all, last-2, last-1)) {
			t.Errorf("%v come to %q", order, c.Tree)
		}
		want(t, "one file more", r, tip, last, nil, []string{"*"})
	}
}

func TestOneBehindTheOtherAsManyAsThereIsRoomFor(t *testing.T) {
	const n, lines = most/2 - 1, 12
	first, last := files("f", 5, strings.Repeat("0\n-\n", lines)), files("f", 5, strings.Repeat("1\n-\n", lines))
	r := kept(on(first))
	var numbers []int
	for i := range n {
		l := slices.Clone(first)
		f, at := &l[i/lines], 4*(i%lines)
		f.Data = f.Data[:at] + "1" + f.Data[at+1:]
		r.Add(on(l, 1))
		numbers = append(numbers, i+2)
	}
	rand.New(rand.NewSource(20)).Shuffle(n, func(i, j int) { numbers[i], numbers[j] = numbers[j], numbers[i] })
	tip := oneBehindTheOther(t, r, numbers...)
	// The last line of the last file is nobody's: there is no room for one more.
	last[4].Data = last[4].Data[:4*lines-4] + "0\n-\n"
	if c, _ := r.Get(tip); tip != most-1 || !slices.Equal(c.Tree, last) {
		t.Errorf("the commit %d of %d: %q", tip, r.Len(), c.Tree)
	}
	want(t, "the last merge and the first one", r, tip, 1, last, nil)
	r.Add(on(nil, tip))
	want(t, "a full Repo", r, most, 2, nil, nil)
}

// words are what the chapters say of a history with trees, and a Repo of it.
type words struct {
	*sample.Bases
	r     *repo.Repo
	trees [][]api.File
}

// wordsOf plants a history with trees that are picked in one of two ways.
func wordsOf(history [][]int, gathered bool, random *rand.Rand) words {
	if gathered {
		return planted(history, sample.Gathered(history, random.Intn))
	}
	return planted(history, sample.Trees(history, random.Intn))
}

// planted plants a history with trees.
func planted(history [][]int, trees [][]api.File) words {
	return words{sample.BasesOf(history, trees, join.Virtual), sample.Planted(repo.New(most), history, trees), trees}
}

// wantByWords holds the merge of two against the words, and tells whether it is clean.
func (w words) wantByWords(t *testing.T, what string, a, b int) bool {
	t.Helper()
	files, conflicts := join.Of(w.Base(a, b), w.trees[a-1], w.trees[b-1])
	wantEitherWay(t, what, w.r, a, b, files, conflicts)
	return len(conflicts) == 0
}

func TestAllShortHistories(t *testing.T) {
	random := rand.New(rand.NewSource(21))
	for n := range 6 {
		for i, history := range sample.Histories(n) {
			w := wordsOf(history, i%2 == 0, random)
			what := fmt.Sprint(history, w.trees)
			for b := range n {
				for a := range b + 1 {
					w.wantByWords(t, what, a+1, b+1)
				}
			}
		}
	}
}

func TestRandomHistories(t *testing.T) {
	random := rand.New(rand.NewSource(22))
	clean, unclean := map[int]int{}, map[int]int{}
	for i := range 900 {
		history, a, b := sample.Crossed(2+random.Intn(14), random.Intn)
		w := wordsOf(history, i%4 > 0, random)
		what, before := fmt.Sprint(history, w.trees), sample.Told(w.r.All())
		if n := min(len(w.Best(a, b)), api.MaxBases+1); w.wantByWords(t, what, a, b) {
			m, _, _ := Of(w.r, a, b)
			wantPutIn(t, what, w.r.Copy(1), m)
			clean[n]++
		} else {
			unclean[n]++
		}
		for range 5 {
			w.wantByWords(t, what, 1+random.Intn(b), 1+random.Intn(b))
		}
		if after := sample.Told(w.r.All()); after != before {
			t.Errorf("the Repo was %s, and is %s", before, after)
		}
	}
	for n := 1; n <= api.MaxBases+1; n++ {
		if min(clean[n], unclean[n]) < 4 {
			t.Errorf("pairs by how many best ones they have: %v clean, %v not", clean, unclean)
		}
	}
}

func TestRowsThatCross(t *testing.T) {
	random := rand.New(rand.NewSource(23))
	for i := range 12 {
		wide := 2 + i%3
		history, last := sample.Rows(wide, most, random.Intn)
		w := wordsOf(history, i%2 == 0, random)
		what := fmt.Sprintf("rows of %d, the time %d", wide, i)
		for j, b := range last {
			for _, a := range last[:j] {
				w.wantByWords(t, what, a, b)
			}
		}
		for range 20 {
			w.wantByWords(t, what, 1+random.Intn(len(history)), 1+random.Intn(len(history)))
		}
	}
}

func TestFullRepos(t *testing.T) {
	random := rand.New(rand.NewSource(24))
	for i, history := range sample.Full(most, random.Intn) {
		w := wordsOf(history, i%2 == 0, random)
		w.wantByWords(t, "the last two", most-1, most)
		w.wantByWords(t, "the first one and the last one", 1, most)
		for range 40 {
			w.wantByWords(t, "many commits", 1+random.Intn(most), 1+random.Intn(most))
		}
	}
}

func TestRowsThatCrossOfTreesAsGreatAsMayBe(t *testing.T) {
	random := rand.New(rand.NewSource(25))
	history, last := sample.Rows(3, most, random.Intn)
	w := planted(history, sample.Great(len(history), random.Intn))
	w.wantByWords(t, "great trees", last[0], last[1])
	w.wantByWords(t, "great trees", last[1], last[2])
}

func TestNotThere(t *testing.T) {
	for what, r := range map[string]*repo.Repo{
		"an empty Repo":        kept(),
		"a Repo without room":  repo.New(0),
		"one commit":           kept(on(of("x", "1"))),
		"a family":             kept(on(nil), on(of("x", "1"), 1), on(of("x", "2"), 1), on(of("x", "3"), 2, 3)),
		"as many as have room": sample.Grown(repo.New(most), sample.Lattice(most)...),
	} {
		numbers, there := sample.Numbers(r.Len()), func(n int) bool { return 1 <= n && n <= r.Len() }
		for _, a := range numbers {
			for _, b := range numbers {
				if !there(a) || !there(b) {
					wantNothing(t, what, r, a, b)
				}
			}
		}
	}
	for n := -2; n <= most+1; n++ {
		wantNothing(t, "each number of an empty Repo", kept(), n, n)
		wantNothing(t, "each number of an empty Repo", kept(), n, 1)
	}
}

func TestNilRepo(t *testing.T) {
	for _, a := range sample.Numbers(2) {
		for _, b := range sample.Numbers(2) {
			wantNothing(t, "a nil Repo", nil, a, b)
		}
	}
}

// family has merges, and conflicts, of all kinds.
func family() *repo.Repo {
	return kept(
		on(of("a", "1", "b", "1")),
		on(of("a", "2", "b", "1"), 1),
		on(of("a", "1", "b", "2"), 1),
		on(of("a", "3", "b", "3"), 1),
		on(of("a", "2", "b", "2"), 2, 3),
		on(of("a", "2", "b", "2", "c", "1"), 3, 2),
		on(nil, 5),
		on(files("f", api.MaxFiles, "1")),
	)
}

// answer is what Of told.
type answer struct {
	m         api.Commit
	conflicts []string
	ok        bool
}

// asked answers what is told of each two of a Repo, twice.
func asked(r *repo.Repo) []answer {
	var all []answer
	for range 2 {
		for a := range r.All() {
			for b := range r.All() {
				m, conflicts, ok := Of(r, a, b)
				all = append(all, answer{m, conflicts, ok && Clean(r, a, b) == (len(conflicts) == 0)})
			}
		}
	}
	return all
}

// spoil writes over all lists of an answer.
func (a answer) spoil() {
	sample.Spoil(a.m.Parents, -9)
	sample.Spoil(a.m.Tree, api.File{Path: "other", Data: "other"})
	sample.Spoil(a.conflicts, "other")
}

// isSpoilt tells whether a list of an answer was written over.
func (a answer) isSpoilt() bool {
	return slices.Contains(a.m.Parents[:cap(a.m.Parents)], -9) ||
		slices.Contains(a.m.Tree[:cap(a.m.Tree)], api.File{Path: "other", Data: "other"}) ||
		slices.Contains(a.conflicts[:cap(a.conflicts)], "other")
}

func TestAnswersShareNoMemory(t *testing.T) {
	r := family()
	before, all, wanted := sample.Told(r.All()), asked(r), fmt.Sprint(asked(r))
	if got := fmt.Sprint(all); got != wanted {
		t.Fatalf("twice unlike: %s, %s", got, wanted)
	}
	for i, a := range all {
		a.spoil()
		for j, other := range all[i+1:] {
			if other.isSpoilt() {
				t.Errorf("the answer %d shares memory with the answer %d", i+j+1, i)
			}
		}
	}
	if got := fmt.Sprint(asked(r)); got != wanted || sample.Told(r.All()) != before {
		t.Errorf("behind a change of what was answered: %s, not %s; %s", got, wanted, sample.Told(r.All()))
	}
}

func TestRepoIsAsItWas(t *testing.T) {
	r := family()
	before, n := sample.Told(r.All()), r.Len()
	for _, a := range sample.Numbers(n) {
		for _, b := range sample.Numbers(n) {
			Of(r, a, b)
			Clean(r, a, b)
			if after := sample.Told(r.All()); after != before {
				t.Fatalf("behind the calls of %d and %d: %s, not %s", a, b, after, before)
			}
		}
	}
	for i := n; i < most; i++ {
		if n, e := r.Add(on(nil, i)); n != i+1 || e != api.OK {
			t.Fatalf("Add behind the calls: %d, %d", n, e)
		}
	}
}

func TestFullRepoIsAskedAsWell(t *testing.T) {
	r := repo.New(3)
	sample.Kept(r, on(nil), on(of("a", "1"), 1), on(of("b", "2"), 1))
	want(t, "no room for the merge", r, 2, 3, of("a", "1", "b", "2"), nil)
	m, _, _ := Of(r, 2, 3)
	if n, e := r.Add(m); n != 0 || e != api.ErrFull || r.Len() != 3 {
		t.Errorf("Add where there is no room: %d, %d", n, e)
	}
}

func TestMergeThatIsThereAlready(t *testing.T) {
	r := repo.New(most)
	if !sample.Fill(r, on(nil), on(of("a", "1"), 1), on(of("b", "2"), 1), on(of("a", "1", "b", "2"), 2, 3)) {
		t.Fatal("Fill")
	}
	m, _, _ := Of(r, 2, 3)
	if at := r.Find(m); at != 4 {
		t.Errorf("Find of the merge: %d", at)
	}
	m, _, _ = Of(r, 3, 2)
	if at := r.Find(m); at != 0 {
		t.Errorf("Find of the merge the other way: %d", at)
	}
}

func TestRepoThatGrows(t *testing.T) {
	r := kept(on(of("x", "1")), on(of("x", "1", "y", "2"), 1), on(of("x", "3"), 1))
	m, _, _ := Of(r, 2, 3)
	wantNothing(t, "one that is not there", r, 3, 4)
	r.Add(on(of("x", "4", "y", "2"), 2))
	want(t, "one that is there now", r, 3, 4, nil, []string{"x"})
	r.Add(m)
	want(t, "the merge that was told, and one of both", r, 5, 3, of("x", "3", "y", "2"), nil)
	want(t, "the merge that was told, and what is behind one of both", r, 5, 4, nil, []string{"x"})
	want(t, "two as before", r, 2, 3, of("x", "3", "y", "2"), nil)
	if !same(m, on(of("x", "3", "y", "2"), 2, 3)) {
		t.Errorf("what was answered before: %v", m)
	}
}

func TestSeveralGoroutines(t *testing.T) {
	r := family()
	wanted := fmt.Sprint(asked(r))
	sample.AtOnce(func() {
		if got := fmt.Sprint(asked(r)); got != wanted {
			t.Errorf("asked by several: %s, not %s", got, wanted)
		}
	})
}
