package fold

import (
	"fmt"
	"math"
	"math/rand"
	"slices"
	"strings"
	"testing"

	"cortege/api"
	"cortege/base"
	"cortege/join"
	"cortege/repo"
	"cortege/sample"
	"cortege/tree"
)

// most is as many commits as a Repo has room for.
const most = 2 * api.MaxCommits

// of makes files of paths and data, one behind the other: of("a", "1", "b", "2").
func of(pathsAndData ...string) []api.File { return sample.Files(pathsAndData...) }

// on makes a commit of files and parents.
func on(files []api.File, parents ...int) api.Commit { return sample.On(files, parents...) }

// kept answers a Repo with these commits, each under a note of its own.
func kept(cs ...api.Commit) *repo.Repo { return sample.Kept(repo.New(most), cs...) }

// deepest answers MaxDeep, and numbers that are as good.
func deepest() []int {
	return []int{api.MaxDeep, api.MaxDeep + 1, api.MaxDeep + 2, 1000, math.MaxInt - 1, math.MaxInt}
}

// tooLow answers numbers by which nothing is told.
func tooLow() []int { return []int{0, -1, -api.MaxDeep, -1000, math.MinInt + 1, math.MinInt} }

// wantDeep holds Deep of two, either way round, against what is wanted.
func wantDeep(t *testing.T, what string, r *repo.Repo, a, b, deep int, files []api.File) {
	t.Helper()
	for range 2 {
		if got := Deep(r, a, b, deep); !slices.Equal(got, files) {
			t.Errorf("%s: Deep of %d and %d by %d: %q, not %q", what, a, b, deep, got, files)
		}
		a, b = b, a
	}
}

// want holds Base of two, and each Deep that is to tell the same, either way round, against what is wanted.
func want(t *testing.T, what string, r *repo.Repo, a, b int, files []api.File) {
	t.Helper()
	for range 2 {
		if got := Base(r, a, b); !slices.Equal(got, files) {
			t.Errorf("%s: Base of %d and %d: %q, not %q", what, a, b, got, files)
		}
		a, b = b, a
	}
	for _, deep := range deepest() {
		wantDeep(t, what, r, a, b, deep, files)
	}
	for _, deep := range tooLow() {
		wantDeep(t, what, r, a, b, deep, nil)
	}
}

// wantAtEachDeep looks whether two tell the same however deep it may go.
func wantAtEachDeep(t *testing.T, what string, r *repo.Repo, a, b int, files []api.File) {
	t.Helper()
	want(t, what, r, a, b, files)
	for deep := 1; deep < api.MaxDeep; deep++ {
		wantDeep(t, what, r, a, b, deep, files)
	}
}

// family has two beginnings, and no two commits that have two best ones.
func family() []api.Commit {
	return []api.Commit{
		1: on(of("x", "1")),
		2: on(of("x", "2"), 1),
		3: on(of("x", "1", "y", "1"), 1),
		4: on(of("x", "2", "y", "1", "z", "1"), 2, 3),
		5: on(nil, 4),
		6: on(of("x", "9"), 4),
		7: on(of("w", "1")),
		8: on(of("w", "1", "x", "9"), 7, 6),
	}[1:]
}

func TestTheChaptersExample(t *testing.T) {
	r := kept(family()...)
	for n, c := range r.All() {
		if got := Base(r, n, n); !slices.Equal(got, c.Tree) {
			t.Errorf("Base of %d and itself: %q, not %q", n, got, c.Tree)
		}
	}
}

func TestOfOneBestOne(t *testing.T) {
	cs := family()
	r := kept(cs...)
	for _, c := range []struct {
		what       string
		a, b, best int
	}{
		{"the first one and itself", 1, 1, 1},
		{"a merge and itself", 4, 4, 4},
		{"one without files and itself", 5, 5, 5},
		{"a merge of two beginnings and itself", 8, 8, 8},
		{"a parent and its child", 1, 2, 1},
		{"the second parent of a merge", 3, 4, 3},
		{"one without files and its parent", 5, 4, 4},
		{"one far ahead, by two ways", 1, 8, 1},
		{"another beginning", 7, 8, 7},
		{"two that came of the first one", 2, 3, 1},
		{"two that came of a merge", 5, 6, 4},
		{"two that came of a merge, the one of another beginning, too", 5, 8, 4},
	} {
		wantAtEachDeep(t, c.what, r, c.a, c.b, cs[c.best-1].Tree)
	}
	only := of("only", "one")
	wantAtEachDeep(t, "the only one", kept(on(only)), 1, 1, only)
}

func TestOfTwoWithNothingInCommon(t *testing.T) {
	r := kept(family()...)
	for _, ab := range [][2]int{{1, 7}, {2, 7}, {4, 7}, {5, 7}, {7, 6}} {
		wantAtEachDeep(t, "two of two beginnings", r, ab[0], ab[1], nil)
	}
	wantAtEachDeep(t, "two beginnings with the same files", kept(on(of("x", "1")), on(of("x", "1"))), 1, 2, nil)
}

// fold is a tree, what two or three made of it, and what these come to: over it, and over none.
type fold struct {
	what  string
	inner []api.File
	made  [][]api.File
	came  []api.File
	alone []api.File
}

// two makes a fold of a tree and two others.
func two(what string, inner, first, second, came, alone []api.File) fold {
	return fold{what, inner, [][]api.File{first, second}, came, alone}
}

// files makes n files of one data, at paths that begin alike.
func files(beginning string, n int, data string) []api.File {
	return sample.Alike(beginning, n, data)
}

// twos are folds of two.
func twos() []fold {
	const n = api.MaxFiles
	long := strings.Repeat("l", api.MaxData-3)
	return []fold{
		two("nobody changes anything", of("x", "1"), of("x", "1"), of("x", "1"), of("x", "1"), of("x", "1")),
		two("both change lines of their own", of("f", "a\nx\nb\n"), of("f", "A\nx\nb\n"), of("f", "a\nx\nB\n"), of("f", "A\nx\nB\n"), nil),
		two("both change one line in unlike ways", of("f", "a\n"), of("f", "b\n"), of("f", "c\n"), of("f", "a\n"), nil),
		two("both change one line in unlike ways, beside a file that goes together", of("f", "a\n", "g", "1"), of("f", "b\n", "g", "2"), of("f", "c\n", "g", "1"), of("f", "a\n", "g", "2"), nil),
		two("both change one line alike", of("f", "a\n"), of("f", "b\n"), of("f", "b\n"), of("f", "b\n"), of("f", "b\n")),
		two("the first one alone changes it", of("f", "a\n"), of("f", "b\n"), of("f", "a\n"), of("f", "b\n"), nil),
		two("the second one alone changes it", of("f", "a\n"), of("f", "a\n"), of("f", "c\n"), of("f", "c\n"), nil),
		two("each puts in a file of its own", nil, of("a", "1"), of("b", "2"), of("a", "1", "b", "2"), of("a", "1", "b", "2")),
		two("each puts in a file of its own, beside one that was there", of("c", "3"), of("a", "1", "c", "3"), of("b", "2", "c", "3"), of("a", "1", "b", "2", "c", "3"), of("a", "1", "b", "2", "c", "3")),
		two("both put in one file with unlike data", nil, of("a", "1"), of("a", "2"), nil, nil),
		two("both put in one file, the one with no data", nil, of("a", ""), of("a", "2"), of("a", "2"), of("a", "2")),
		two("each leaves out a file", of("a", "1", "b", "2", "c", "3"), of("b", "2", "c", "3"), of("a", "1", "c", "3"), of("c", "3"), of("a", "1", "b", "2", "c", "3")),
		two("both leave out all", of("a", "1", "b", "2"), nil, nil, nil, nil),
		two("the one leaves out what the other changes", of("a", "1"), of("a", "2"), nil, of("a", "1"), of("a", "2")),
		two("the one changes what the other leaves out", of("a", "1"), nil, of("a", "2"), of("a", "1"), of("a", "2")),
		two("the one leaves out what the other empties", of("a", "1"), nil, of("a", ""), of("a", "1"), of("a", "")),
		two("the one makes it Binary", of("f", "a\nx\nb\n"), of("f", "\x00\nx\nb\n"), of("f", "a\nx\nB\n"), of("f", "a\nx\nb\n"), nil),
		two("more bytes than may be come of it", of("f", "x\n"), of("f", long+"\nx\n"), of("f", "x\n"+long), of("f", "x\n"), nil),

		two("the second one puts one in under one of the first one's", nil, of("a", "1"), of("a/b", "2"), of("a", "1"), of("a", "1")),
		two("the first one puts one in under one of the second one's", nil, of("a/b", "2", "c", "3"), of("a", "1"), of("a", "1", "c", "3"), of("a", "1", "c", "3")),
		two("a file becomes a folder by one, the other changes it", of("a", "1"), of("a/b", "2"), of("a", "3"), of("a", "1"), of("a", "3")),
		two("a folder becomes a file by one alone", of("a/b", "1"), of("a", "2"), of("a/b", "1"), of("a", "2"), of("a", "2")),
		two("as many files as may be", nil, files("a", n/2, "1"), files("b", n/2, "2"), slices.Concat(files("a", n/2, "1"), files("b", n/2, "2")), slices.Concat(files("a", n/2, "1"), files("b", n/2, "2"))),
		two("one file too many", nil, files("b", n, "1"), of("a", "2"), slices.Concat(of("a", "2"), files("b", n-1, "1")), slices.Concat(of("a", "2"), files("b", n-1, "1"))),
		two("twice as many as may be", nil, files("b", n, "1"), files("a", n, "2"), files("a", n, "2"), files("a", n, "2")),
		two("too many, but that both leave some out", files("a", n, "1"), files("a", n-1, "1"), slices.Concat(files("a", n, "1")[2:], of("z", "2")), slices.Concat(files("a", n-1, "1")[2:], of("z", "2")), files("a", n, "1")),
	}
}

// over answers what the words say of trees, put to the first one in turn over one that all of them came of.
func over(inner []api.File, made ...[]api.File) []api.File {
	came := made[0]
	for _, other := range made[1:] {
		came = join.Virtual(inner, came, other)
	}
	return came
}

// check holds what comes of c against join.Virtual, too: over the inner base, and over none.
func (c fold) check(t *testing.T) {
	t.Helper()
	if came, alone := over(c.inner, c.made...), over(nil, c.made...); !slices.Equal(came, c.came) || !slices.Equal(alone, c.alone) {
		t.Errorf("%s: Virtual tells %q and %q, not %q and %q", c.what, came, alone, c.came, c.alone)
	}
}

// wantFolded looks whether two of which the best ones are those of a fold come to what it says, deep enough or not.
func (c fold) wantFolded(t *testing.T, r *repo.Repo, a, b int) {
	t.Helper()
	want(t, c.what, r, a, b, c.came)
	for deep := 2; deep < api.MaxDeep; deep++ {
		wantDeep(t, c.what, r, a, b, deep, c.came)
	}
	wantDeep(t, c.what+", the inner base too deep", r, a, b, 1, c.alone)
}

func TestOfTwoBestOnes(t *testing.T) {
	for _, c := range twos() {
		c.check(t)
		r := kept(
			on(c.inner),
			on(c.made[0], 1),
			on(c.made[1], 1),
			on(of("merge", "4"), 2, 3),
			on(of("merge", "5"), 3, 2),
			on(nil, 4),
			on(of("behind", "5"), 5),
			on(of("other", "8")),
			on(of("other", "9"), 6, 8),
		)
		for _, ab := range [][2]int{{4, 5}, {6, 7}, {4, 7}, {5, 9}, {7, 9}} {
			c.wantFolded(t, r, ab[0], ab[1])
		}
		wantAtEachDeep(t, c.what+", the best ones themselves", r, 2, 3, c.inner)
		wantAtEachDeep(t, c.what+", the second one and a merge", r, 3, 9, c.made[1])
	}
}

func TestOfTwoBestOnesWithOthersBetween(t *testing.T) {
	for _, c := range twos() {
		r := kept(
			on(of("other", "1")),
			on(c.inner, 1),
			on(of("other", "3"), 2),
			on(c.made[0], 3),
			on(of("other", "5"), 1),
			on(of("other", "6"), 2),
			on(c.made[1], 6, 5),
			on(of("other", "8"), 7),
			on(of("merge", "9"), 4, 7),
			on(of("merge", "10"), 8, 4),
		)
		c.wantFolded(t, r, 9, 10)
	}
}

func TestOfTwoBestOnesThatHaveNothingInCommon(t *testing.T) {
	for _, c := range twos() {
		r := kept(
			on(c.made[0]),
			on(c.made[1]),
			on(of("merge", "3"), 1, 2),
			on(of("merge", "4"), 2, 1),
			on(c.inner, 3),
		)
		wantAtEachDeep(t, c.what+", two beginnings", r, 3, 4, c.alone)
		wantAtEachDeep(t, c.what+", two beginnings", r, 4, 5, c.alone)
	}
}

// threes are folds of three.
func threes() []fold {
	const n = api.MaxFiles
	three := func(what string, inner, first, second, third, came, alone []api.File) fold {
		return fold{what, inner, [][]api.File{first, second, third}, came, alone}
	}
	return []fold{
		three("nobody changes anything", of("x", "1"), of("x", "1"), of("x", "1"), of("x", "1"), of("x", "1"), of("x", "1")),
		three("each puts in a file of its own", nil, of("c", "1"), of("b", "2"), of("a", "3"), of("a", "3", "b", "2", "c", "1"), of("a", "3", "b", "2", "c", "1")),
		three("each changes a line of its own", of("f", "a\nx\nb\ny\nc\n"), of("f", "A\nx\nb\ny\nc\n"), of("f", "a\nx\nB\ny\nc\n"), of("f", "a\nx\nb\ny\nC\n"), of("f", "A\nx\nB\ny\nC\n"), of("f", "a\nx\nb\ny\nC\n")),
		three("each changes one line in unlike ways: the third one's is put to the inner base's", of("f", "a\n"), of("f", "b\n"), of("f", "c\n"), of("f", "d\n"), of("f", "d\n"), of("f", "d\n")),
		three("the first and the second one change one line alike, the third one otherwise", of("f", "a\n"), of("f", "b\n"), of("f", "b\n"), of("f", "d\n"), of("f", "a\n"), nil),
		three("the first one alone leaves it as it was", of("f", "a\n"), of("f", "a\n"), of("f", "c\n"), of("f", "d\n"), of("f", "a\n"), of("f", "d\n")),
		three("the second one alone leaves it as it was", of("f", "a\n"), of("f", "b\n"), of("f", "a\n"), of("f", "d\n"), of("f", "a\n"), of("f", "d\n")),
		three("the third one alone leaves it as it was", of("f", "a\n"), of("f", "b\n"), of("f", "c\n"), of("f", "a\n"), of("f", "a\n"), of("f", "a\n")),
		three("the third one undoes nothing", of("f", "a\n"), of("f", "b\n"), of("f", "a\n"), of("f", "a\n"), of("f", "b\n"), of("f", "a\n")),
		three("the third one leaves out what the others keep", of("a", "1", "b", "1"), of("a", "1", "b", "1"), of("a", "1", "b", "1"), of("b", "1"), of("b", "1"), of("a", "1", "b", "1")),
		three("each leaves out a file", of("a", "1", "b", "1", "c", "1"), of("b", "1", "c", "1"), of("a", "1", "c", "1"), of("a", "1", "b", "1"), nil, of("a", "1", "b", "1", "c", "1")),
		three("the third one puts one in under one that the second one put in", nil, nil, of("a", "1"), of("a/b", "2"), of("a", "1"), of("a", "1")),
		three("a file under another one is gone ahead of the third one", of("z", "1"), of("a/b", "1", "z", "1"), of("a", "2", "z", "1"), of("a/b", "3", "z", "1"), of("a", "2", "z", "1"), of("a", "2", "z", "1")),
		three("files behind the first ones are gone ahead of the third one", nil, files("b", n, "1"), files("a", n, "2"), files("b", 2, "3"), files("a", n, "2"), files("a", n, "2")),
		three("files behind the first ones are gone, and the third one leaves out some", files("a", n, "1"), slices.Concat(files("a", n-1, "1"), of("y", "2")), slices.Concat(files("a", n-1, "1"), of("z", "3")), files("a", n-2, "1"), slices.Concat(files("a", n-2, "1"), of("y", "2")), slices.Concat(files("a", n-1, "1"), of("y", "2"))),
		three("the third one's come ahead of the others'", nil, files("b", n/2, "1"), files("c", n/2, "2"), files("a", n/2, "3"), slices.Concat(files("a", n/2, "3"), files("b", n/2, "1")), slices.Concat(files("a", n/2, "3"), files("b", n/2, "1"))),
	}
}

func TestOfThreeBestOnes(t *testing.T) {
	for _, c := range threes() {
		c.check(t)
		r := kept(
			on(c.inner),
			on(c.made[0], 1),
			on(c.made[1], 1),
			on(c.made[2], 1),
			on(of("merge", "5"), 4, 3),
			on(of("merge", "6"), 5, 2),
			on(of("merge", "7"), 2, 4),
			on(of("merge", "8"), 7, 3),
		)
		c.wantFolded(t, r, 6, 8)
		c.wantFolded(t, sample.Kept(repo.New(most), mergedTwice(c)...), 6, 8)
	}
}

// mergedTwice has the best ones of a fold of three, without one that they came of, merged by two lines in unlike order; they came of the inner base by others.
func mergedTwice(c fold) []api.Commit {
	return []api.Commit{
		1: on(c.inner),
		2: on(c.made[0], 1),
		3: on(c.made[1], 1),
		4: on(c.made[2], 1),
		5: on(of("merge", "5"), 2, 3),
		6: on(of("merge", "6"), 5, 4),
		7: on(of("merge", "7"), 4, 3),
		8: on(of("merge", "8"), 2, 7),
	}[1:]
}

func TestTheInnerBaseIsThatOfTheFirstOneAndTheOneWhoseTurnItIs(t *testing.T) {
	// 3 is the first one; it has 1 in common with 4, and 2 with 5.
	r := kept(
		on(of("f", "1")),
		on(of("f", "2"), 1),
		on(of("f", "2"), 2),
		on(of("f", "1"), 1),
		on(of("f", "3"), 2),
		on(nil, 3, 4),
		on(nil, 6, 5),
		on(nil, 5, 4),
		on(nil, 8, 3),
	)
	want(t, "the second one further from the first one than the third one is", r, 7, 9, of("f", "3"))
	// 3 is the first one; it has 1 in common with both others, and these have 2.
	r = kept(
		on(of("f", "1")),
		on(of("f", "2"), 1),
		on(of("f", "1"), 1),
		on(of("f", "2"), 2),
		on(of("f", "3"), 2),
		on(nil, 3, 4),
		on(nil, 6, 5),
		on(nil, 5, 4),
		on(nil, 8, 3),
	)
	want(t, "both others nearer to one another than to the first one", r, 7, 9, of("f", "1"))
	// 3 is the first one; it has nothing in common with 4, and 1 with 5.
	r = kept(
		on(of("f", "1", "g", "1")),
		on(of("f", "2", "h", "1")),
		on(of("f", "1", "g", "1"), 1),
		on(of("f", "1", "h", "1"), 2),
		on(of("f", "3"), 2, 1),
		on(nil, 3, 4),
		on(nil, 6, 5),
		on(nil, 5, 4),
		on(nil, 8, 3),
	)
	want(t, "nothing in common with the second one", r, 7, 9, of("f", "3", "h", "1"))
}

// children answers a Repo of one beginning (if it is asked for) and so many others, with a tree each, that two lines of merges take in, rising and falling; and the last ones of both.
func children(beginning bool, n int, treeOf func(i int) []api.File) (r *repo.Repo, a, b int) {
	var cs []api.Commit
	if beginning {
		cs = append(cs, on(of("f", "0")))
	}
	ahead := len(cs)
	var rising, falling []int
	for i := range n {
		c := on(treeOf(i))
		if beginning {
			c.Parents = []int{1}
		}
		cs = append(cs, c)
		rising = append(rising, ahead+i+1)
		falling = append(falling, ahead+n-i)
	}
	history := sample.Taking(make([][]int, ahead+n), rising...)
	a = len(history)
	history = sample.Taking(history, falling...)
	for _, ps := range history[ahead+n:] {
		cs = append(cs, on(of("merge", "1"), ps...))
	}
	return kept(cs...), a, len(cs)
}

func TestOfMoreThanMaxBasesBestOnes(t *testing.T) {
	own := func(i int) []api.File { return of("f", "0", fmt.Sprintf("g%05d", 99-i), "1") }
	for _, beginning := range []bool{true, false} {
		for n := 2; n <= 40; n++ {
			r, a, b := children(beginning, n, own)
			if got := len(base.Best(r, a, b)); got != n {
				t.Fatalf("%d best ones, not %d", got, n)
			}
			came := of("f", "0")
			for i := min(n, api.MaxBases) - 1; i >= 0; i-- {
				came = append(came, own(i)[1])
			}
			wantAtEachDeep(t, fmt.Sprintf("%d that put in files of their own", n), r, a, b, came)
		}
	}
	// The fourth one would leave out f, as what came of the first three has it.
	r, a, b := children(true, 5, func(i int) []api.File { return of("f", "0", "g", "1")[:max(2-i/3, 1)] })
	want(t, "the fourth one leaves out", r, a, b, of("f", "0", "g", "1"))
	r, a, b = children(true, 4, func(i int) []api.File { return [][]api.File{of("f", "0"), of("f", "1"), of("f", "0"), nil}[i] })
	want(t, "the fourth one leaves out what the second one changed", r, a, b, of("f", "1"))
	r, a, b = children(true, 4, func(i int) []api.File { return [][]api.File{of("f", "0"), of("f", "0"), of("f", "0"), of("f", "4")}[i] })
	want(t, "the fourth one alone changes it", r, a, b, of("f", "0"))
}

// crossing answers rows of two commits behind a first one: both of each row are merges of the row ahead. All of them change f in ways of their own, and the left one of each row alone has g.
func crossing(first []api.File, rows int) []api.Commit {
	cs := []api.Commit{on(first)}
	for row := 1; row <= rows; row++ {
		left, right := []int{2*row - 2, 2*row - 1}, []int{2*row - 1, 2*row - 2}
		if row == 1 {
			left, right = []int{1}, []int{1}
		}
		cs = append(cs,
			on(of("f", fmt.Sprintf("left %d", row), "g", "1"), left...),
			on(of("f", fmt.Sprintf("right %d", row)), right...),
		)
	}
	return cs
}

// hasG tells whether the base of a row has g, if it may go so deep: a tree that has it at one side alone has it if what is ahead has not.
func hasG(first bool, row, deep int) bool {
	switch {
	case deep < 1:
		return false
	case row == 1:
		return first
	}
	return !hasG(first, row-1, deep-1)
}

func TestEachDeep(t *testing.T) {
	const rows = (most - 1) / 2
	for _, first := range [][]api.File{of("f", "0", "g", "1"), of("f", "0")} {
		r := kept(crossing(first, rows)...)
		for row := 1; row <= rows; row++ {
			for deep := -1; deep <= api.MaxDeep+2; deep++ {
				var came []api.File
				// Of f each row has what is innermost, as long as it may go so deep.
				if reach := min(deep, api.MaxDeep); row <= reach {
					came = of("f", "0")
				}
				if hasG(len(first) > 1, row, min(deep, api.MaxDeep)) {
					came = append(came, of("g", "1")...)
				}
				wantDeep(t, fmt.Sprintf("the row %d over %q", row, first), r, 2*row, 2*row+1, deep, came)
				if deep == api.MaxDeep {
					want(t, fmt.Sprintf("the row %d over %q", row, first), r, 2*row, 2*row+1, came)
				}
			}
		}
	}
}

// words are what the chapter says of a history with trees, and a Repo of it.
type words struct {
	*sample.Bases
	r *repo.Repo
}

// wordsOf plants a history with trees.
func wordsOf(history [][]int, trees [][]api.File) words {
	return words{sample.BasesOf(history, trees, join.Virtual), sample.Planted(repo.New(most), history, trees)}
}

// wantByWords holds what two tell against the words.
func (w words) wantByWords(t *testing.T, what string, a, b int) {
	t.Helper()
	if got, came := Base(w.r, a, b), w.Base(a, b); !slices.Equal(got, came) {
		t.Errorf("%s: Base of %d and %d: %q, not %q", what, a, b, got, came)
	}
	for deep := range api.MaxDeep + 2 {
		wantDeep(t, what, w.r, a, b, deep, w.Deep(a, b, deep))
	}
}

func TestAllShortHistories(t *testing.T) {
	random := rand.New(rand.NewSource(13))
	for n := range 6 {
		for _, history := range sample.Histories(n) {
			trees := sample.Trees(history, random.Intn)
			w := wordsOf(history, trees)
			for b := range n + 1 {
				for a := range b {
					w.wantByWords(t, fmt.Sprint(history, trees), a+1, b)
				}
			}
		}
	}
}

func TestRandomHistories(t *testing.T) {
	random := rand.New(rand.NewSource(14))
	seen := map[int]int{}
	for range 400 {
		history, a, b := sample.Crossed(2+random.Intn(14), random.Intn)
		trees := sample.Trees(history, random.Intn)
		w := wordsOf(history, trees)
		what, before := fmt.Sprint(history, trees), sample.Told(w.r.All())
		w.wantByWords(t, what, a, b)
		for range 20 {
			w.wantByWords(t, what, 1+random.Intn(b), 1+random.Intn(b))
		}
		if after := sample.Told(w.r.All()); after != before {
			t.Errorf("the Repo was %s, and is %s", before, after)
		}
		seen[len(w.Best(a, b))]++
	}
	if min(seen[1], seen[2], seen[3], seen[4]) < 8 {
		t.Errorf("pairs by how many best ones they have: %v", seen)
	}
}

func TestRowsThatCross(t *testing.T) {
	random := rand.New(rand.NewSource(15))
	unlike := make([]int, api.MaxDeep)
	for i := range 15 {
		wide := 2 + i%3
		history, last := sample.Rows(wide, most, random.Intn)
		trees := sample.Trees(history, random.Intn)
		w := wordsOf(history, trees)
		what := fmt.Sprintf("rows of %d, the time %d", wide, i)
		for j, b := range last {
			for _, a := range last[:j] {
				w.wantByWords(t, what, a, b)
				for deep := range unlike {
					if !tree.Same(Deep(w.r, a, b, deep), Deep(w.r, a, b, deep+1)) {
						unlike[deep]++
					}
				}
			}
		}
		for range 15 {
			w.wantByWords(t, what, 1+random.Intn(len(history)), 1+random.Intn(len(history)))
		}
	}
	if slices.Min(unlike) < 8 {
		t.Errorf("pairs that tell something else one deeper, by how deep: %v", unlike)
	}
}

func TestFullRepos(t *testing.T) {
	random := rand.New(rand.NewSource(16))
	for _, history := range sample.Full(most, random.Intn) {
		trees := sample.Trees(history, random.Intn)
		w := wordsOf(history, trees)
		w.wantByWords(t, "the last two", most-1, most)
		w.wantByWords(t, "the first one and the last one", 1, most)
		w.wantByWords(t, "the last one and itself", most, most)
		for range 80 {
			w.wantByWords(t, "many commits", 1+random.Intn(most), 1+random.Intn(most))
		}
	}
}

func TestFullReposOfTreesAsGreatAsMayBe(t *testing.T) {
	random := rand.New(rand.NewSource(17))
	history, last := sample.Rows(3, most, random.Intn)
	w := wordsOf(history, sample.Great(len(history), random.Intn))
	w.wantByWords(t, "great trees", last[0], last[1])
	w.wantByWords(t, "great trees", last[1], last[2])
}

func TestNotThere(t *testing.T) {
	for what, r := range map[string]*repo.Repo{
		"an empty Repo":        kept(),
		"a Repo without room":  repo.New(0),
		"one commit":           kept(on(of("x", "1"))),
		"a family":             kept(family()...),
		"merges that cross":    kept(crossing(of("f", "0"), 4)...),
		"as many as have room": kept(crossing(of("f", "0"), (most-1)/2)...),
	} {
		numbers, there := sample.Numbers(r.Len()), func(n int) bool { return 1 <= n && n <= r.Len() }
		for _, a := range numbers {
			for _, b := range numbers {
				if !there(a) || !there(b) {
					wantAtEachDeep(t, what, r, a, b, nil)
				}
			}
		}
	}
	for n := -2; n <= most+1; n++ {
		wantAtEachDeep(t, "each number of an empty Repo", kept(), n, n, nil)
		wantAtEachDeep(t, "each number of an empty Repo", kept(), n, 1, nil)
	}
}

func TestNilRepo(t *testing.T) {
	for _, a := range sample.Numbers(2) {
		for _, b := range sample.Numbers(2) {
			wantAtEachDeep(t, "a nil Repo", nil, a, b, nil)
		}
	}
}

// asked answers what both calls tell of several pairs of merges that cross.
func asked(r *repo.Repo) [][]api.File {
	var all [][]api.File
	for _, ab := range [][2]int{{1, 1}, {1, 2}, {2, 3}, {4, 5}, {5, 4}, {6, 7}, {5, 5}, {8, 9}} {
		all = append(all, Base(r, ab[0], ab[1]))
		for deep := 1; deep <= api.MaxDeep; deep++ {
			all = append(all, Deep(r, ab[0], ab[1], deep))
		}
	}
	return all
}

func TestAnswersShareNoMemory(t *testing.T) {
	r := kept(crossing(of("f", "0", "g", "1", "h", "2"), 5)...)
	before, other := sample.Told(r.All()), api.File{Path: "other", Data: "other"}
	all, wanted := asked(r), fmt.Sprint(asked(r))
	if got := fmt.Sprint(all); got != wanted {
		t.Fatalf("twice unlike: %s, %s", got, wanted)
	}
	for i, list := range all {
		sample.Spoil(list, other)
		for j, l := range all[i+1:] {
			if slices.Contains(l[:cap(l)], other) {
				t.Errorf("the answer %d shares memory with the answer %d", i+j+1, i)
			}
		}
	}
	if got := fmt.Sprint(asked(r)); got != wanted || sample.Told(r.All()) != before {
		t.Errorf("behind a change of what was answered: %s, not %s; %s", got, wanted, sample.Told(r.All()))
	}
}

func TestRepoIsAsItWas(t *testing.T) {
	r := kept(crossing(of("f", "0"), 5)...)
	before := sample.Told(r.All())
	for _, a := range sample.Numbers(r.Len()) {
		for _, b := range sample.Numbers(r.Len()) {
			Base(r, a, b)
			Deep(r, a, b, 2)
			if after := sample.Told(r.All()); after != before {
				t.Fatalf("behind the calls of %d and %d: %s, not %s", a, b, after, before)
			}
		}
	}
	for i := r.Len(); i < most; i++ {
		if n, e := r.Add(on(nil, i)); n != i+1 || e != api.OK {
			t.Fatalf("Add behind the calls: %d, %d", n, e)
		}
	}
}

func TestRepoThatGrows(t *testing.T) {
	r := kept(on(of("x", "1")), on(of("y", "2"), 1), on(of("x", "1", "z", "3"), 1))
	one := Base(r, 2, 3)
	want(t, "one that is not there", r, 3, 4, nil)
	r.Add(on(of("w", "4"), 2, 3))
	want(t, "one that is there now", r, 3, 4, of("x", "1", "z", "3"))
	r.Add(on(of("v", "5"), 3, 2))
	want(t, "both there now", r, 4, 5, of("y", "2", "z", "3"))
	want(t, "the best ones", r, 2, 3, of("x", "1"))
	if !slices.Equal(one, of("x", "1")) {
		t.Errorf("what was answered before: %q", one)
	}
}

func TestSeveralGoroutines(t *testing.T) {
	r := kept(crossing(of("f", "0", "g", "1"), 5)...)
	wanted := fmt.Sprint(asked(r))
	sample.AtOnce(func() {
		if got := fmt.Sprint(asked(r)); got != wanted {
			t.Errorf("asked by several: %s, not %s", got, wanted)
		}
	})
}
