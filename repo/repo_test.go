package repo

import (
	"fmt"
	"math"
	"math/rand"
	"slices"
	"strings"
	"sync"
	"testing"

	"cortege/api"
	"cortege/sample"
	"cortege/tree"
)

// of makes files of paths and data, one behind the other: of("a", "1", "b", "2").
func of(pathsAndData ...string) []api.File { return sample.Files(pathsAndData...) }

// rising makes n files that are a tree, if there may be so many.
func rising(n int) []api.File { return sample.Rising(n) }

// on makes a commit without files that comes of the parents.
func on(note string, parents ...int) api.Commit {
	return api.Commit{Parents: parents, Note: note}
}

// noted makes n commits without parents that are unlike one another.
func noted(n int) []api.Commit {
	var cs []api.Commit
	for i := range n {
		cs = append(cs, on(fmt.Sprint("n", i)))
	}
	return cs
}

// key is a text that like commits share, and unlike ones do not.
func key(c api.Commit) string {
	return fmt.Sprintf("%d %q %q", c.Parents, c.Tree, c.Note)
}

// isZero tells whether c is the commit that is answered beside a false.
func isZero(c api.Commit) bool {
	return len(c.Parents) == 0 && len(c.Tree) == 0 && c.Note == ""
}

// filled answers a Repo with room for so many that has the commits.
func filled(t *testing.T, room int, cs ...api.Commit) *Repo {
	t.Helper()
	r := New(room)
	for i, c := range cs {
		if n, e := r.Add(c); n != i+1 || e != api.OK {
			t.Fatalf("Add of the commit %d: %d, %d", i+1, n, e)
		}
	}
	return r
}

// want holds what all calls tell of r, but those that make it greater, against the commits that are wanted.
func want(t *testing.T, what string, r *Repo, cs ...api.Commit) {
	t.Helper()
	if r.Len() != len(cs) {
		t.Errorf("%s: Len: %d, not %d", what, r.Len(), len(cs))
	}
	for i, c := range cs {
		if got, ok := r.Get(i + 1); !ok || key(got) != key(c) {
			t.Errorf("%s: Get(%d): %v, %v, not %v", what, i+1, got, ok, c)
		}
		if n := r.Find(c); n != i+1 {
			t.Errorf("%s: Find of %v: %d, not %d", what, c, n, i+1)
		}
	}
	for _, n := range []int{0, -1, len(cs) + 1, len(cs) + 2, -len(cs), math.MaxInt, math.MinInt} {
		if got, ok := r.Get(n); !isZero(got) || ok {
			t.Errorf("%s: Get(%d) of none: %v, %v", what, n, got, ok)
		}
	}
	told := 0
	for n, c := range r.All() {
		told++
		if n != told || n > len(cs) || key(c) != key(cs[n-1]) {
			t.Fatalf("%s: All: %d, %v", what, n, c)
		}
	}
	if told != len(cs) {
		t.Errorf("%s: All tells %d, not %d", what, told, len(cs))
	}
}

// wantRoom looks whether r, that has no commit of noted, has room for just so many more; it is full behind.
func wantRoom(t *testing.T, what string, r *Repo, room int) {
	t.Helper()
	had := r.Len()
	for i, c := range noted(room) {
		if n, e := r.Add(c); n != had+i+1 || e != api.OK {
			t.Fatalf("%s: Add of the %d-th more: %d, %d", what, i+1, n, e)
		}
	}
	for range 2 {
		if n, e := r.Add(on("one too many")); n != 0 || e != api.ErrFull {
			t.Errorf("%s: Add where there is no room: %d, %d", what, n, e)
		}
	}
	if r.Len() != had+room {
		t.Errorf("%s: Len: %d, not %d", what, r.Len(), had+room)
	}
}

func TestTheChaptersExample(t *testing.T) {
	r := New(2)
	for i, c := range []api.Commit{{}, {}, {Parents: []int{1}}} {
		if n, e := r.Add(c); n != []int{1, 1, 2}[i] || e != api.OK {
			t.Errorf("Add of %v: %d, %d", c, n, e)
		}
	}
	want(t, "the example", r, api.Commit{}, on("", 1))
}

func TestMay(t *testing.T) {
	long := strings.Repeat("n", api.MaxPath)
	cases := []struct {
		what string
		c    api.Commit
		may  bool
	}{
		{"the zero commit", api.Commit{}, true},
		{"empty lists", api.Commit{Parents: []int{}, Tree: []api.File{}}, true},
		{"one parent", on("", 1), true},
		{"two unlike parents", on("", 1, 2), true},
		{"two unlike parents, the greater one first", on("", 2, 1), true},
		{"two like parents", on("", 1, 1), false},
		{"two like parents that are not there", on("", 7, 7), false},
		{"two parents 0", on("", 0, 0), false},
		{"two like parents below 0", on("", -3, -3), false},
		{"three parents", on("", 1, 2, 3), false},
		{"three parents, two of them alike", on("", 1, 2, 1), false},
		{"three like parents", on("", 1, 1, 1), false},
		{"four parents", on("", 1, 2, 3, 4), false},
		{"the parent 0", on("", 0), true},
		{"a parent below 0", on("", -1), true},
		{"two parents below 1", on("", 0, -1), true},
		{"a number and the one with another sign", on("", 1, -1), true},
		{"a parent that is not there", on("", 1000), true},
		{"the least and the greatest int as parents", on("", math.MinInt, math.MaxInt), true},
		{"a note", on("n"), true},
		{"a note of any bytes", on("\x00\n\xff é//"), true},
		{"a note of MaxPath bytes", on(long), true},
		{"a note of one more than MaxPath bytes", on(long + "n"), false},
		{"a note of MaxPath runes of two bytes", on(strings.Repeat("é", api.MaxPath)), false},
		{"a note of MaxPath bytes in runes", on(strings.Repeat("é", api.MaxPath/2)), true},
		{"a note of many more than MaxPath bytes", on(strings.Repeat("n", 100000)), false},
		{"one file", api.Commit{Tree: of("a", "1")}, true},
		{"a file without data", api.Commit{Tree: of("a", "")}, true},
		{"MaxFiles files", api.Commit{Tree: rising(api.MaxFiles)}, true},
		{"a path of MaxPath bytes", api.Commit{Tree: of(long, "")}, true},
		{"data of MaxData bytes", api.Commit{Tree: of("a", strings.Repeat("d", api.MaxData))}, true},
		{"all at its limit", api.Commit{Parents: []int{1, 2}, Tree: rising(api.MaxFiles), Note: long}, true},
		{"all one past its limit", api.Commit{Parents: []int{1, 2, 3}, Tree: rising(api.MaxFiles + 1), Note: long + "n"}, false},
	}
	for _, c := range cases {
		if got := May(c.c); got != c.may {
			t.Errorf("May of %s: %v", c.what, got)
		}
	}
	for what, files := range sample.NoTrees() {
		if May(api.Commit{Tree: files}) || May(api.Commit{Parents: []int{1}, Tree: files, Note: "n"}) {
			t.Errorf("May of a Tree with %s: true", what)
		}
	}
}

func TestMayOfEachOfAll(t *testing.T) {
	trees := [][]api.File{nil, of("a", "1"), of("a", "1", "b/c", "2"), of("b", "1", "a", "2"), of("a", "1", "a/b", "2"), rising(12), rising(13)}
	notes := []string{"", "n", strings.Repeat("n", 60), strings.Repeat("n", 61)}
	for n, lists := 0, [][]int{nil}; n < 4; n++ {
		var longer [][]int
		for _, ps := range lists {
			mayBe := len(ps) < 2 || len(ps) == 2 && ps[0] != ps[1]
			for i, files := range trees {
				for j, note := range notes {
					c := api.Commit{Parents: ps, Tree: files, Note: note}
					if got := May(c); got != (mayBe && i != 3 && i != 4 && i != 6 && j != 3) {
						t.Errorf("May of %v: %v", c, got)
					}
				}
			}
			for p := -1; p <= 2; p++ {
				longer = append(longer, append(slices.Clone(ps), p))
			}
		}
		lists = longer
	}
}

func TestNew(t *testing.T) {
	for _, c := range []struct{ room, want int }{
		{math.MinInt, 0}, {-1000, 0}, {-1, 0}, {0, 0},
		{1, 1}, {2, 2}, {api.MaxCommits, api.MaxCommits},
		{2*api.MaxCommits - 1, 2*api.MaxCommits - 1}, {2 * api.MaxCommits, 2 * api.MaxCommits},
		{2*api.MaxCommits + 1, 2 * api.MaxCommits}, {1 << 40, 2 * api.MaxCommits}, {math.MaxInt, 2 * api.MaxCommits},
	} {
		what := fmt.Sprint("New of ", c.room)
		r := New(c.room)
		if r == nil {
			t.Fatalf("%s is nil", what)
		}
		want(t, what, r)
		wantRoom(t, what, r, c.want)
		want(t, what+", filled", r, noted(c.want)...)
		want(t, "another one", New(c.room))
	}
}

func TestAdd(t *testing.T) {
	r := New(8)
	for i, step := range []struct {
		c api.Commit
		n int
		e api.Errno
	}{
		{on("", 1), 0, api.ErrParent},
		{on("n"), 1, api.OK},
		{on("n", 1), 2, api.OK},
		{on("n"), 1, api.OK},
		{on("n", 3), 0, api.ErrParent},
		{on("n", 2, 1), 3, api.OK},
		{on("n", 1, 2), 4, api.OK},
		{on("n", 1, 5), 0, api.ErrParent},
		{on("n", 5, 1), 0, api.ErrParent},
		{on("n", 2, 1), 3, api.OK},
		{on("n", 4, 4), 0, api.ErrTree},
		{on("n", 4), 5, api.OK},
		{on("n", 1, 5), 6, api.OK},
		{api.Commit{Parents: []int{6}, Tree: of("a", "1", "b", "2"), Note: "m"}, 7, api.OK},
		{api.Commit{Tree: of("a", "1")}, 8, api.OK},
		{on("n", 1), 2, api.OK},
		{on("n", 8), 0, api.ErrFull},
		{api.Commit{Tree: of("a", "1")}, 8, api.OK},
	} {
		if n, e := r.Add(step.c); n != step.n || e != step.e {
			t.Errorf("the step %d, Add of %v: %d, %d, not %d, %d", i, step.c, n, e, step.n, step.e)
		}
	}
	want(t, "Add", r, on("n"), on("n", 1), on("n", 2, 1), on("n", 1, 2), on("n", 4), on("n", 1, 5),
		api.Commit{Parents: []int{6}, Tree: of("a", "1", "b", "2"), Note: "m"}, api.Commit{Tree: of("a", "1")})
}

func TestAddAnswersTheFirstError(t *testing.T) {
	long := strings.Repeat("n", api.MaxPath+1)
	wrong := []api.Commit{
		on(long), on(long, 1), on("", 1, 1), on("", 1, 2, 3), on("", 3, 3), on("", 0, 0), on("", 1, 2, 9), on("", -1, 0, 1), on(long, 9), on(long, 0),
	}
	for _, files := range sample.NoTrees() {
		wrong = append(wrong, api.Commit{Tree: files}, api.Commit{Parents: []int{1}, Tree: files}, api.Commit{Parents: []int{9}, Tree: files})
	}
	lost := []api.Commit{
		on("", 0), on("", -1), on("", 3), on("", 4), on("", 121), on("", math.MaxInt), on("", math.MinInt),
		on("", 1, 0), on("", 0, 1), on("", 2, 3), on("", 3, 2), on("", 3, 4), on("", -1, 1), on("", -2, -1), on("n", 3), {Parents: []int{3}, Tree: of("a", "1")},
	}
	has := []api.Commit{on("n"), on("m", 1)}
	for what, room := range map[string]int{"room": 5, "no room": 2} {
		r := filled(t, room, has...)
		for _, c := range wrong {
			if n, e := r.Add(c); n != 0 || e != api.ErrTree {
				t.Errorf("Add of %v, where there is %s: %d, %d", c, what, n, e)
			}
		}
		for _, c := range lost {
			if n, e := r.Add(c); n != 0 || e != api.ErrParent {
				t.Errorf("Add of %v, where there is %s: %d, %d", c, what, n, e)
			}
		}
		for i, c := range has {
			if n, e := r.Add(c); n != i+1 || e != api.OK {
				t.Errorf("Add of %v, which is there, where there is %s: %d, %d", c, what, n, e)
			}
		}
		want(t, "behind errors, where there is "+what, r, has...)
		wantRoom(t, "behind errors, where there is "+what, r, room-2)
	}
	none := New(0)
	for _, c := range []api.Commit{{}, on("n"), {Tree: of("a", "1")}} {
		if n, e := none.Add(c); n != 0 || e != api.ErrFull {
			t.Errorf("Add of %v to one without any room: %d, %d", c, n, e)
		}
	}
	want(t, "one without any room", none)
}

func TestAddThatAnswersAnErrorChangesNothing(t *testing.T) {
	has := []api.Commit{on("n"), {Parents: []int{1}, Tree: of("a", "1")}}
	for _, c := range []api.Commit{on("", 1, 1), on("", 3), on("", 0), on(strings.Repeat("n", 61)), {Tree: of("", "1")}, {Tree: of("a", "1"), Parents: []int{2, 3}}} {
		r := filled(t, 3, has...)
		all := r.All()
		if n, e := r.Add(c); n != 0 || e == api.OK {
			t.Errorf("Add of %v: %d, %d", c, n, e)
		}
		want(t, "behind an error", r, has...)
		for n := range all {
			if n > 2 {
				t.Errorf("All of before the error tells %d", n)
			}
		}
		if r.Find(c) != 0 {
			t.Errorf("Find of %v, behind an error: %d", c, r.Find(c))
		}
		if n, e := r.Add(on("next", 2)); n != 3 || e != api.OK {
			t.Errorf("Add behind an error: %d, %d", n, e)
		}
		if n, e := r.Add(on("more")); n != 0 || e != api.ErrFull {
			t.Errorf("Add of one too many: %d, %d", n, e)
		}
		want(t, "behind two errors", r, has[0], has[1], on("next", 2))
	}
}

// alikes are commits that are each unlike the first one in one thing alone, or nearly.
func alikes() []api.Commit {
	files, less := of("a", "1", "b", "2"), of("a", "1")
	return []api.Commit{
		{Parents: []int{1, 2}, Tree: files, Note: "n"},
		{Parents: []int{2, 1}, Tree: files, Note: "n"},
		{Parents: []int{1, 3}, Tree: files, Note: "n"},
		{Parents: []int{1}, Tree: files, Note: "n"},
		{Parents: []int{2}, Tree: files, Note: "n"},
		{Parents: nil, Tree: files, Note: "n"},
		{Parents: []int{1, 2}, Tree: less, Note: "n"},
		{Parents: []int{1, 2}, Tree: of("b", "2"), Note: "n"},
		{Parents: []int{1, 2}, Tree: nil, Note: "n"},
		{Parents: []int{1, 2}, Tree: append(of("0", "0"), files...), Note: "n"},
		{Parents: []int{1, 2}, Tree: of("a", "1", "b", "2", "c", ""), Note: "n"},
		{Parents: []int{1, 2}, Tree: of("A", "1", "b", "2"), Note: "n"},
		{Parents: []int{1, 2}, Tree: of("a", "1", "c", "2"), Note: "n"},
		{Parents: []int{1, 2}, Tree: of("a", "1", "b/b", "2"), Note: "n"},
		{Parents: []int{1, 2}, Tree: of("a", "0", "b", "2"), Note: "n"},
		{Parents: []int{1, 2}, Tree: of("a", "1", "b", "2\n"), Note: "n"},
		{Parents: []int{1, 2}, Tree: of("a", "1", "b", ""), Note: "n"},
		{Parents: []int{1, 2}, Tree: of("a", "", "b", "2"), Note: "n"},
		{Parents: []int{1, 2}, Tree: of("a", "2", "b", "1"), Note: "n"},
		{Parents: []int{1, 2}, Tree: of("a", "12", "b", ""), Note: "n"},
		{Parents: []int{1, 2}, Tree: files, Note: ""},
		{Parents: []int{1, 2}, Tree: files, Note: "m"},
		{Parents: []int{1, 2}, Tree: files, Note: "N"},
		{Parents: []int{1, 2}, Tree: files, Note: "n\x00"},
		{Parents: []int{1, 2}, Tree: files, Note: "nn"},
		{Parents: nil, Tree: of("a", ""), Note: ""},
		{Parents: nil, Tree: of("a", "b"), Note: ""},
		{Parents: nil, Tree: of("ab", ""), Note: ""},
		{Parents: []int{1}, Tree: nil, Note: "2"},
		{Parents: []int{1, 2}, Tree: nil, Note: ""},
	}
}

func TestLikeCommitsHaveOneNumberAndUnlikeOnesUnlike(t *testing.T) {
	first := []api.Commit{{}, on("", 1), on("", 2)}
	all := slices.Concat(first, alikes())
	r := New(len(all))
	for i, c := range all {
		for _, d := range all[i:] {
			if n := r.Find(d); n != 0 {
				t.Errorf("Find of %v, ahead of its Add: %d", d, n)
			}
		}
		for range 2 {
			if n, e := r.Add(c); n != i+1 || e != api.OK {
				t.Errorf("Add of %v: %d, %d, not %d", c, n, e, i+1)
			}
		}
	}
	want(t, "unlike ones", r, all...)
	for n, c := range r.All() {
		for _, p := range c.Parents {
			if p < 1 || p >= n {
				t.Errorf("the commit %d has the parent %d", n, p)
			}
		}
	}
}

func TestNilListsAndEmptyOnesAreTheSame(t *testing.T) {
	for _, files := range [][]api.File{nil, {}} {
		for _, parents := range [][]int{nil, {}} {
			r := filled(t, 1, api.Commit{Parents: parents, Tree: files, Note: "n"})
			for _, other := range [][]api.File{nil, {}, of("a", "1")[:0]} {
				for _, others := range [][]int{nil, {}, []int{1, 2}[:0]} {
					c := api.Commit{Parents: others, Tree: other, Note: "n"}
					if n, e := r.Add(c); n != 1 || e != api.OK || r.Find(c) != 1 {
						t.Errorf("Add of %#v behind %#v, %#v: %d, %d", c, parents, files, n, e)
					}
				}
			}
		}
	}
}

func TestGet(t *testing.T) {
	long := strings.Repeat("n", api.MaxPath)
	cs := []api.Commit{
		{},
		{Parents: []int{1}, Tree: of("a", "\x00\xff", "b/c", ""), Note: "\n"},
		{Parents: []int{2, 1}, Tree: rising(api.MaxFiles), Note: long},
	}
	r := filled(t, 5, cs...)
	for range 2 {
		for n, want := range map[int]api.Commit{1: cs[0], 2: cs[1], 3: cs[2]} {
			if c, ok := r.Get(n); !ok || !slices.Equal(c.Parents, want.Parents) || !tree.Same(c.Tree, want.Tree) || c.Note != want.Note {
				t.Errorf("Get(%d): %v, %v", n, c, ok)
			}
		}
		for _, n := range []int{math.MinInt, -3, -1, 0, 4, 5, 6, 120, math.MaxInt} {
			if c, ok := r.Get(n); ok || !isZero(c) {
				t.Errorf("Get(%d) of none: %v, %v", n, c, ok)
			}
		}
	}
	if c, ok := New(3).Get(1); ok || !isZero(c) {
		t.Errorf("Get(1) of an empty one: %v, %v", c, ok)
	}
}

func TestFind(t *testing.T) {
	r := filled(t, 4, on("n"), on("n", 1), on("n", 2, 1))
	for _, c := range []struct {
		c api.Commit
		n int
	}{
		{on("n"), 1}, {on("n", 1), 2}, {on("n", 2, 1), 3},
		{api.Commit{}, 0}, {on("m"), 0}, {on("n", 2), 0}, {on("n", 1, 2), 0}, {api.Commit{Tree: of("a", "1"), Note: "n"}, 0},
		{on("n", 4), 0}, {on("n", 0), 0}, {on("n", -1), 0},
		{on("n", 1, 1), 0}, {on("n", 2, 1, 1), 0}, {on(strings.Repeat("n", 61)), 0}, {api.Commit{Tree: of("", ""), Note: "n"}, 0}, {api.Commit{Tree: rising(13), Note: "n"}, 0},
	} {
		if n := r.Find(c.c); n != c.n {
			t.Errorf("Find of %v: %d, not %d", c.c, n, c.n)
		}
	}
	if n := New(1).Find(api.Commit{}); n != 0 {
		t.Errorf("Find in an empty one: %d", n)
	}
	if n := New(0).Find(api.Commit{}); n != 0 {
		t.Errorf("Find in one without room: %d", n)
	}
}

func TestCopy(t *testing.T) {
	const most = 2 * api.MaxCommits
	mores := []struct{ more, real int }{
		{math.MinInt, 0}, {-1000, 0}, {-1, 0}, {0, 0}, {1, 1}, {5, 5}, {most - 1, most - 1}, {most, most}, {most + 1, most}, {math.MaxInt - most, most}, {math.MaxInt, most},
	}
	for _, room := range []int{0, 1, 4, api.MaxCommits, most - 5, most - 1, most} {
		for _, has := range []int{0, min(1, room), room / 2, room} {
			// These are unlike those that wantRoom puts in.
			var cs []api.Commit
			for i := range has {
				cs = append(cs, api.Commit{Note: fmt.Sprint(i), Tree: of("a", "1")})
			}
			for _, more := range append(mores, struct{ more, real int }{most - room, most - room}, struct{ more, real int }{most - room + 1, most - room}) {
				what := fmt.Sprintf("Copy(%d) of one with %d of %d", more.more, has, room)
				r := filled(t, room, cs...)
				c := r.Copy(more.more)
				want(t, what, c, cs...)
				wantRoom(t, what, c, min(room+more.real, most)-has)
				want(t, what+", the first one", r, cs...)
				wantRoom(t, what+", the first one", r, room-has)
			}
		}
	}
}

func TestCopyOfACopy(t *testing.T) {
	r := filled(t, 2, on("n"))
	wantRoom(t, "a copy of a copy", r.Copy(2).Copy(3).Copy(-7), 6)
	full := filled(t, 1, on("n")).Copy(1)
	if n, e := full.Add(on("m", 1)); n != 2 || e != api.OK {
		t.Errorf("Add to the copy of a full one: %d, %d", n, e)
	}
	wantRoom(t, "a copy that has more", full.Copy(1), 1)
}

func TestCopiesStandAlone(t *testing.T) {
	r := filled(t, 4, on("n"), on("n", 1))
	c, d := r.Copy(2), r.Copy(0)
	r.Add(on("r", 2))
	c.Add(on("c", 1, 2))
	c.Add(on("c", 3))
	want(t, "the first one", r, on("n"), on("n", 1), on("r", 2))
	want(t, "the copy that has more", c, on("n"), on("n", 1), on("c", 1, 2), on("c", 3))
	want(t, "the copy that has no more", d, on("n"), on("n", 1))
	for what, other := range map[string]*Repo{"the first one": r, "the copy that has no more": d} {
		if n := other.Find(on("c", 1, 2)); n != 0 {
			t.Errorf("%s: Find of what was put into a copy: %d", what, n)
		}
	}
	wantRoom(t, "the first one", r, 1)
	wantRoom(t, "the copy that has more", c, 2)
	wantRoom(t, "the copy that has no more", d, 2)
}

func TestCopiesOfAnyLengthStandAlone(t *testing.T) {
	for has := range 40 {
		cs := noted(has)
		r := filled(t, has+2, cs...)
		c := r.Copy(0)
		d := c.Copy(0)
		for i, one := range []*Repo{c, r, d} {
			if n, e := one.Add(on(fmt.Sprint("of", i))); n != has+1 || e != api.OK {
				t.Errorf("Add to one of three with %d: %d, %d", has, n, e)
			}
		}
		for i, one := range []*Repo{c, r, d} {
			want(t, fmt.Sprint("one of three with ", has), one, append(noted(has), on(fmt.Sprint("of", i)))...)
		}
	}
}

func TestAll(t *testing.T) {
	cs := alikes()[5:9]
	cs[1].Parents, cs[2].Parents, cs[3].Parents = []int{1}, []int{2, 1}, []int{1, 3}
	for has := range len(cs) + 1 {
		r := filled(t, 9, cs[:has]...)
		all := r.All()
		for left := 1; left <= has+1; left++ {
			var told []string
			for n, c := range all {
				told = append(told, fmt.Sprint(n)+key(c))
				if len(told) == left {
					break
				}
			}
			if len(told) != min(left, has) {
				t.Errorf("All of %d, left behind %d: %q", has, left, told)
			}
			for i, text := range told {
				if text != fmt.Sprint(i+1)+key(cs[i]) {
					t.Errorf("All of %d, left behind %d: %q", has, left, told)
				}
			}
		}
		want(t, "behind All", r, cs[:has]...)
	}
	for range New(0).All() {
		t.Error("All of none tells something")
	}
}

func TestAllInsideItself(t *testing.T) {
	all, pairs := filled(t, 3, on("a"), on("b", 1), on("c", 2)).All(), ""
	for n, c := range all {
		for m, d := range all {
			pairs += fmt.Sprint(n, c.Note, m, d.Note, " ")
			if m == n {
				break
			}
		}
	}
	if pairs != "1a1a 2b1a 2b2b 3c1a 3c2b 3c3c " {
		t.Errorf("All inside All: %q", pairs)
	}
}

func TestAllOfOneThatGrowsInsideTheLoop(t *testing.T) {
	r := filled(t, 9, on("a"), on("b"))
	told := ""
	all := r.All()
	for n, c := range all {
		told += fmt.Sprint(n, c.Note, " ")
		r.Add(on("more", n))
	}
	for n, c := range all {
		told += fmt.Sprint(n, c.Note, " ")
		r.Add(on("again", n))
	}
	if told != "1a 2b 1a 2b 3more 4more " || r.Len() != 8 {
		t.Errorf("All of one that grows: %q, %d", told, r.Len())
	}
}

func TestNilRepo(t *testing.T) {
	var r *Repo
	for _, c := range []api.Commit{{}, on("n"), on("", 1), on("", 1, 1), {Tree: of("", "1")}} {
		if n, e := r.Add(c); n != 0 || e != api.ErrNil {
			t.Errorf("Add of %v to nil: %d, %d", c, n, e)
		}
		if n := r.Find(c); n != 0 {
			t.Errorf("Find of %v in nil: %d", c, n)
		}
	}
	for _, n := range []int{-1, 0, 1, math.MaxInt} {
		if c, ok := r.Get(n); ok || !isZero(c) {
			t.Errorf("Get(%d) of nil: %v, %v", n, c, ok)
		}
		if c := r.Copy(n); c != nil {
			t.Errorf("Copy(%d) of nil: %v", n, c)
		}
	}
	if r.Len() != 0 {
		t.Errorf("Len of nil: %d", r.Len())
	}
	for range r.All() {
		t.Error("All of nil tells something")
	}
}

// spoilCommit writes over c's lists and all of their spare room.
func spoilCommit(c api.Commit) {
	sample.Spoil(c.Parents, 77)
	sample.Spoil(c.Tree, api.File{Path: "spoilt", Data: "spoilt"})
}

// roomy answers c with lists that have spare room, and a text of all that is in them.
func roomy(c api.Commit) (api.Commit, func() string) {
	parents := append(slices.Clone(c.Parents), 51, 52, 53)
	files := append(slices.Clone(c.Tree), of("spare", "1", "spare", "2")...)
	c.Parents, c.Tree = parents[:len(c.Parents)], files[:len(c.Tree)]
	return c, func() string { return fmt.Sprintf("%d %q %q %q", parents, files, c.Note, key(c)) }
}

func TestCommitsThatAreHandedInStayAsTheyWere(t *testing.T) {
	tried := append(alikes(), api.Commit{}, on("", 1, 1), on("", 9), on("", 1, 2, 3), api.Commit{Tree: of("b", "1", "a", "2")}, api.Commit{Parents: []int{3, 2}, Tree: rising(13)})
	for _, first := range tried {
		c, tell := roomy(first)
		was := tell()
		r := filled(t, 4, api.Commit{}, on("", 1), on("", 2))
		May(c)
		r.Find(c)
		r.Add(c)
		r.Find(c)
		r.Add(c)
		other := r.Copy(3)
		other.Add(c)
		other.Find(c)
		r.Add(on("where there is no room"))
		if got, ok := r.Get(4); ok {
			spoilCommit(got)
		}
		for _, got := range r.All() {
			spoilCommit(got)
		}
		if tell() != was {
			t.Errorf("the commit that was handed in: %s, not %s", tell(), was)
		}
	}
}

func TestWhatIsKeptStaysAsItWas(t *testing.T) {
	first := []api.Commit{{}, on("", 1), on("", 2)}
	cs := slices.Concat(first, alikes())
	r := New(2 * api.MaxCommits)
	for _, c := range cs {
		handed, _ := roomy(c)
		r.Add(handed)
		spoilCommit(handed)
	}
	want(t, "behind a change of what was handed in", r, cs...)
	other := r.Copy(0)
	for _, one := range []*Repo{r, other} {
		for n := range len(cs) + 2 {
			c, _ := one.Get(n)
			d, _ := one.Get(n)
			spoilCommit(c)
			if n > 0 && n <= len(cs) && key(d) != key(cs[n-1]) {
				t.Errorf("Get(%d), behind a change of another answer: %v", n, d)
			}
		}
		for n, c := range one.All() {
			d, _ := one.Get(n)
			spoilCommit(c)
			if key(d) != key(cs[n-1]) {
				t.Errorf("Get(%d), behind a change of what All told: %v", n, d)
			}
			for m, e := range one.All() {
				if key(e) != key(cs[m-1]) {
					t.Errorf("All, behind a change of what All told: %d, %v", m, e)
				}
			}
		}
		want(t, "the first one, behind a change of what was answered", r, cs...)
		want(t, "the copy, behind a change of what was answered", other, cs...)
	}
}

func TestWhatAllToldStaysAsItWas(t *testing.T) {
	cs := slices.Concat([]api.Commit{{}, on("", 1), on("", 2)}, alikes())
	r := filled(t, 2*api.MaxCommits, cs...)
	var told []api.Commit
	for _, c := range r.All() {
		told = append(told, c)
	}
	for _, c := range r.All() {
		spoilCommit(c)
	}
	for i, c := range told {
		if key(c) != key(cs[i]) {
			t.Errorf("what All told of %d: %v", i+1, c)
		}
		spoilCommit(c)
		for j, d := range told[i+1:] {
			if key(d) != key(cs[i+1+j]) {
				t.Errorf("what All told of %d, behind a change of the one of %d: %v", i+j+2, i+1, d)
			}
		}
	}
}

// words is a Repo that a test can see through, as the chapter's words go.
type words struct {
	room int
	cs   []api.Commit
}

func (w *words) add(c api.Commit) (int, api.Errno) {
	if !tree.May(c.Tree) || len(c.Parents) > 2 || len(c.Note) > 60 || len(c.Parents) == 2 && c.Parents[0] == c.Parents[1] {
		return 0, api.ErrTree
	}
	for _, p := range c.Parents {
		if p <= 0 || p > len(w.cs) {
			return 0, api.ErrParent
		}
	}
	for i, d := range w.cs {
		if key(c) == key(d) {
			return i + 1, api.OK
		}
	}
	if len(w.cs) == w.room {
		return 0, api.ErrFull
	}
	w.cs = append(w.cs, c)
	return len(w.cs), api.OK
}

func randomCommit(random *rand.Rand, has int) api.Commit {
	var c api.Commit
	for range random.Intn(3) {
		c.Parents = append(c.Parents, random.Intn(has+3)-random.Intn(2))
	}
	for _, path := range []string{"a", "b/c", "d"} {
		if random.Intn(3) == 0 {
			c.Tree = append(c.Tree, api.File{Path: path, Data: fmt.Sprint(random.Intn(2))})
		}
	}
	if random.Intn(20) == 0 {
		slices.Reverse(c.Tree)
	}
	c.Note = strings.Repeat("n", []int{0, 0, 1, 2, 60, 61}[random.Intn(6)])
	return c
}

func TestAgainstTheWords(t *testing.T) {
	random, codes := rand.New(rand.NewSource(10)), map[api.Errno]int{}
	for range 300 {
		room := random.Intn(20)
		r, w := New(room), &words{room: room}
		for range 80 {
			c := randomCommit(random, r.Len())
			n, e := r.Add(c)
			if wantN, wantE := w.add(c); n != wantN || e != wantE {
				t.Fatalf("Add of %v behind %v: %d, %d, not %d, %d", c, w.cs, n, e, wantN, wantE)
			}
			codes[e]++
			if random.Intn(25) == 0 {
				more := random.Intn(6) - 2
				r, w.room = r.Copy(more), w.room+max(more, 0)
			}
		}
		want(t, "random ones", r, w.cs...)
	}
	for _, e := range []api.Errno{api.OK, api.ErrTree, api.ErrParent, api.ErrFull} {
		if codes[e] < 500 {
			t.Errorf("of what was tried only %d came to %d", codes[e], e)
		}
	}
}

func TestSeveralGoroutines(t *testing.T) {
	cs := slices.Concat([]api.Commit{{}, on("", 1), on("", 2)}, alikes())
	r := filled(t, 60, cs...)
	var group sync.WaitGroup
	for i := range 8 {
		c := r.Copy(0)
		group.Go(func() {
			for range 20 {
				for n, d := range c.All() {
					if !May(cs[n-1]) || key(d) != key(cs[n-1]) {
						t.Error("calls from several goroutines")
					}
					spoilCommit(d)
				}
			}
			if n, e := c.Add(on(fmt.Sprint("of", i))); n != len(cs)+1 || e != api.OK {
				t.Errorf("Add from several goroutines: %d, %d", n, e)
			}
		})
	}
	group.Wait()
	want(t, "behind several goroutines", r, cs...)
}

func TestCommitsThatAreFarTooGreat(t *testing.T) {
	const n = 1 << 20
	parents, files, note := make([]int, n), make([]api.File, n), strings.Repeat("n", n)
	r := filled(t, 2, api.Commit{})
	for _, c := range []api.Commit{{Parents: parents}, {Tree: files}, {Note: note}, {Parents: parents, Tree: files, Note: note}} {
		for range 1000 {
			if n, e := r.Add(c); May(c) || r.Find(c) != 0 || n != 0 || e != api.ErrTree {
				t.Fatal("a commit that is far too great may be")
			}
		}
	}
	want(t, "behind them", r, api.Commit{})
}
