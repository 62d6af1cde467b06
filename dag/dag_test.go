package dag

import (
	"fmt"
	"iter"
	"math/rand"
	"slices"
	"testing"

	"cortege/api"
	"cortege/repo"
	"cortege/sample"
	"cortege/seq"
)

// most is as many commits as a Repo has room for.
const most = 2 * api.MaxCommits

// grown answers a Repo with commits that have these lists of parents.
func grown(parents ...[]int) *repo.Repo {
	return sample.Grown(repo.New(most), parents...)
}

// want holds what s tells against what is wanted: to its end, left early at each place, and again from the beginning behind that.
func want(t *testing.T, what string, s iter.Seq[int], all ...int) {
	t.Helper()
	if s == nil {
		t.Errorf("%s: a nil sequence, over which no loop can go", what)
		return
	}
	if got := seq.List(s); !slices.Equal(got, all) {
		t.Errorf("%s: %v, not %v", what, got, all)
	}
	for left := range len(all) {
		var got []int
		for n := range s {
			got = append(got, n)
			if len(got) > left {
				break
			}
		}
		if !slices.Equal(got, all[:left+1]) {
			t.Errorf("%s, left behind %d: %v, not %v", what, left+1, got, all[:left+1])
		}
	}
	if got := seq.List(s); !slices.Equal(got, all) {
		t.Errorf("%s, again: %v, not %v", what, got, all)
	}
}

// wantNone looks whether each call tells that there is no commit n.
func wantNone(t *testing.T, what string, r *repo.Repo, n int) {
	t.Helper()
	what = fmt.Sprintf("%s, of %d", what, n)
	want(t, what+", Parents", Parents(r, n))
	want(t, what+", Ahead", Ahead(r, n))
	want(t, what+", First", First(r, n))
	if depth := Depth(r, n); depth != 0 {
		t.Errorf("%s: Depth: %d", what, depth)
	}
	for _, other := range append([]int{n, 1, r.Len()}, sample.Numbers(0)...) {
		if Is(r, n, other) || Is(r, other, n) {
			t.Errorf("%s: Is, with %d: %v, %v", what, other, Is(r, n, other), Is(r, other, n))
		}
	}
}

// words answers what the chapter says of a history's commits.
type words struct{ history [][]int }

func (w words) there(n int) bool { return 1 <= n && n <= len(w.history) }

func (w words) parents(n int) []int {
	if !w.there(n) {
		return nil
	}
	return w.history[n-1]
}

func (w words) depths() map[int]int {
	depths := map[int]int{}
	for i, ps := range w.history {
		depths[i+1] = 1
		for _, p := range ps {
			depths[i+1] = max(depths[i+1], 1+depths[p])
		}
	}
	return depths
}

func (w words) first(n int) []int {
	if !w.there(n) {
		return nil
	}
	all := []int{n}
	if ps := w.parents(n); len(ps) > 0 {
		all = append(all, w.first(ps[0])...)
	}
	return all
}

// wantByWords holds each call over a history, and with each number, against the chapter's words.
func wantByWords(t *testing.T, history [][]int) {
	t.Helper()
	r := grown(history...)
	before := sample.Told(r.All())
	w := words{history}
	depths := w.depths()
	for _, n := range sample.Numbers(len(history)) {
		ahead := sample.Ahead(history, n)
		for _, got := range []struct {
			what string
			s    iter.Seq[int]
			want []int
		}{{"Parents", Parents(r, n), w.parents(n)}, {"Ahead", Ahead(r, n), ahead}, {"First", First(r, n), w.first(n)}} {
			if all := seq.List(got.s); !slices.Equal(all, got.want) {
				t.Errorf("%s of %d of %v: %v, not %v", got.what, n, history, all, got.want)
			}
		}
		if d := Depth(r, n); d != depths[n] {
			t.Errorf("Depth of %d of %v: %d, not %d", n, history, d, depths[n])
		}
		for _, a := range sample.Numbers(len(history)) {
			if is := Is(r, a, n); is != slices.Contains(ahead, a) {
				t.Errorf("Is(%d, %d) of %v: %v", a, n, history, is)
			}
		}
	}
	if sample.Told(r.All()) != before {
		t.Errorf("the Repo was %s, and is %s", before, sample.Told(r.All()))
	}
}

func TestTheChaptersExample(t *testing.T) {
	want(t, "Ahead of 3", Ahead(grown(nil, nil, []int{2, 1}), 3), 3, 2, 1)
	want(t, "Ahead of 3", Ahead(grown(nil, []int{1}, []int{2, 1}), 3), 3, 2, 1)
}

// family has one line from 1 by 2, 4, 6, one by 3, 5, two merges of both, and commits beside them.
func family() [][]int {
	return [][]int{
		1:  nil,
		2:  {1},
		3:  {1},
		4:  {2},
		5:  {3},
		6:  {4},
		7:  {3, 6},
		8:  {7, 5},
		9:  nil,
		10: {9},
		11: {10, 8},
		12: {5},
		13: {12, 2},
		14: {1, 13},
	}[1:]
}

func TestParents(t *testing.T) {
	r := grown(family()...)
	for n, ps := range map[int][]int{1: nil, 2: {1}, 3: {1}, 4: {2}, 7: {3, 6}, 8: {7, 5}, 9: nil, 10: {9}, 11: {10, 8}, 13: {12, 2}, 14: {1, 13}} {
		want(t, fmt.Sprint("Parents of ", n), Parents(r, n), ps...)
	}
	both := grown(nil, nil, []int{2, 1}, []int{1, 2}, []int{3, 4}, []int{4, 3})
	want(t, "Parents, the greater one first", Parents(both, 3), 2, 1)
	want(t, "Parents, the lesser one first", Parents(both, 4), 1, 2)
	want(t, "Parents that are merges, the lesser one first", Parents(both, 5), 3, 4)
	want(t, "Parents that are merges, the greater one first", Parents(both, 6), 4, 3)
}

func TestAhead(t *testing.T) {
	r := grown(family()...)
	for n, all := range map[int][]int{
		1:  {1},
		2:  {2, 1},
		5:  {5, 3, 1},
		6:  {6, 4, 2, 1},
		7:  {7, 6, 4, 3, 2, 1},
		8:  {8, 7, 6, 5, 4, 3, 2, 1},
		9:  {9},
		10: {10, 9},
		11: {11, 10, 9, 8, 7, 6, 5, 4, 3, 2, 1},
		12: {12, 5, 3, 1},
		13: {13, 12, 5, 3, 2, 1},
		14: {14, 13, 12, 5, 3, 2, 1},
	} {
		want(t, fmt.Sprint("Ahead of ", n), Ahead(r, n), all...)
	}
	one := grown(nil, []int{1}, []int{1}, []int{2, 3}, []int{3, 2})
	want(t, "Ahead, two parents that came of one", Ahead(one, 4), 4, 3, 2, 1)
	want(t, "Ahead, two parents that came of one, the greater first", Ahead(one, 5), 5, 3, 2, 1)
	other := grown(nil, []int{1}, []int{2}, nil, []int{3, 1}, []int{1, 3})
	want(t, "Ahead, the second parent came of the first one", Ahead(other, 6), 6, 3, 2, 1)
	want(t, "Ahead, the first parent came of the second one", Ahead(other, 5), 5, 3, 2, 1)
	apart := grown(nil, nil, nil, nil, nil, []int{5, 2})
	want(t, "Ahead, with others between", Ahead(apart, 6), 6, 5, 2)
	want(t, "Ahead of one alone", Ahead(apart, 3), 3)
	want(t, "Ahead of the only one", Ahead(grown(nil), 1), 1)
}

func TestIs(t *testing.T) {
	r := grown(family()...)
	for _, c := range []struct {
		a, b int
		is   bool
	}{
		{1, 1, true}, {8, 8, true}, {9, 9, true}, {14, 14, true},
		{1, 2, true}, {2, 1, false},
		{1, 6, true}, {2, 6, true}, {6, 2, false}, {6, 1, false},
		{3, 7, true}, {6, 7, true}, {7, 6, false}, {7, 3, false},
		{4, 7, true}, {2, 7, true}, {5, 7, false}, {7, 5, false},
		{5, 8, true}, {3, 8, true}, {8, 5, false},
		{2, 3, false}, {3, 2, false}, {5, 6, false}, {6, 5, false}, {3, 6, false}, {6, 3, false},
		{9, 8, false}, {8, 9, false}, {9, 10, true}, {10, 9, false},
		{9, 11, true}, {8, 11, true}, {1, 11, true}, {11, 1, false},
		{1, 9, false}, {9, 1, false}, {1, 10, false},
		{2, 13, true}, {4, 13, false}, {13, 4, false}, {12, 14, true}, {1, 14, true}, {8, 14, false}, {14, 8, false},
	} {
		if is := Is(r, c.a, c.b); is != c.is {
			t.Errorf("Is(%d, %d): %v", c.a, c.b, is)
		}
	}
}

func TestDepth(t *testing.T) {
	r := grown(family()...)
	for n, depth := range map[int]int{1: 1, 2: 2, 3: 2, 4: 3, 5: 3, 6: 4, 7: 5, 8: 6, 9: 1, 10: 2, 11: 7, 12: 4, 13: 5, 14: 6} {
		if d := Depth(r, n); d != depth {
			t.Errorf("Depth of %d: %d, not %d", n, d, depth)
		}
	}
	unlike := grown(nil, []int{1}, []int{2}, nil, []int{3, 4}, []int{4, 3}, []int{3, 1}, []int{1, 3})
	for n := 5; n <= 8; n++ {
		if d := Depth(unlike, n); d != 4 {
			t.Errorf("Depth of %d, of which one parent has depth 3, the other 1: %d", n, d)
		}
	}
	if d := Depth(grown(nil), 1); d != 1 {
		t.Errorf("Depth of the only one: %d", d)
	}
}

func TestFirst(t *testing.T) {
	r := grown(family()...)
	for n, all := range map[int][]int{
		1:  {1},
		2:  {2, 1},
		6:  {6, 4, 2, 1},
		7:  {7, 3, 1},
		8:  {8, 7, 3, 1},
		9:  {9},
		11: {11, 10, 9},
		13: {13, 12, 5, 3, 1},
		14: {14, 1},
	} {
		want(t, fmt.Sprint("First of ", n), First(r, n), all...)
	}
	both := grown(nil, nil, []int{1, 2}, []int{2, 1}, []int{3, 4}, []int{4, 3})
	want(t, "First, where the second one is greater", First(both, 3), 3, 1)
	want(t, "First, where the second one is lesser", First(both, 4), 4, 2)
	want(t, "First, where the second one is greater, twice", First(both, 5), 5, 3, 1)
	want(t, "First, where the second one is lesser, twice", First(both, 6), 6, 4, 2)
}

func TestALineAsLongAsThereIsRoom(t *testing.T) {
	r := grown(sample.Line(most)...)
	var falling []int
	for n := 1; n <= most; n++ {
		falling = append([]int{n}, falling...)
		if d := Depth(r, n); d != n {
			t.Errorf("Depth of %d of a line: %d", n, d)
		}
	}
	want(t, "Ahead of the last of a line", Ahead(r, most), falling...)
	want(t, "First of the last of a line", First(r, most), falling...)
	want(t, "Ahead of the first of a line", Ahead(r, 1), 1)
	want(t, "Parents of the last of a line", Parents(r, most), most-1)
	wantByWords(t, sample.Line(most))
}

func TestAsManyAsThereIsRoomThatAllHaveTwoParents(t *testing.T) {
	for _, nearFirst := range []bool{true, false} {
		history := sample.Ladder(most, nearFirst)
		wantByWords(t, history)
		r := grown(history...)
		if d := Depth(r, most); d != most {
			t.Errorf("Depth of the last: %d", d)
		}
		if n := len(seq.List(Ahead(r, most))); n != most {
			t.Errorf("Ahead of the last tells %d", n)
		}
		want(t, "First of the last", First(r, most), words{history}.first(most)...)
		want(t, "Ahead of the last, left early", seq.Take(Ahead(r, most), 3), most, most-1, most-2)
	}
	// Every second one from the last to 2, and 1.
	if n := len(seq.List(First(grown(sample.Ladder(most, false)...), most))); n != most/2+1 {
		t.Errorf("First of the last, where the farther one is first, tells %d", n)
	}
}

func TestNotThere(t *testing.T) {
	histories := map[string][][]int{"an empty Repo": nil, "one commit": sample.Line(1), "a line": sample.Line(5), "a family": family(), "a full Repo": sample.Ladder(most, true)}
	for what, history := range histories {
		r := grown(history...)
		for _, n := range sample.Numbers(len(history)) {
			if n < 1 || n > len(history) {
				wantNone(t, what, r, n)
			}
		}
	}
	for n := -2; n <= most+1; n++ {
		wantNone(t, "an empty Repo", repo.New(most), n)
		wantNone(t, "a Repo without room", repo.New(0), n)
	}
}

func TestNilRepo(t *testing.T) {
	for _, n := range sample.Numbers(2) {
		wantNone(t, "a nil Repo", nil, n)
	}
}

func TestAllShortHistories(t *testing.T) {
	for n := range 6 {
		for _, history := range sample.Histories(n) {
			wantByWords(t, history)
		}
	}
}

func TestRandomHistories(t *testing.T) {
	random := rand.New(rand.NewSource(11))
	for round := range 150 {
		n := random.Intn(api.MaxCommits + 1)
		if round%25 == 0 {
			n = most
		}
		wantByWords(t, sample.History(n, random.Intn))
	}
}

func TestRandomHistoriesLeftEarly(t *testing.T) {
	random := rand.New(rand.NewSource(12))
	for range 60 {
		history := sample.History(1+random.Intn(20), random.Intn)
		r, w := grown(history...), words{history}
		for n := range history {
			what := fmt.Sprintf("%d of %v", n+1, history)
			want(t, "Parents of "+what, Parents(r, n+1), w.parents(n+1)...)
			want(t, "Ahead of "+what, Ahead(r, n+1), sample.Ahead(history, n+1)...)
			want(t, "First of "+what, First(r, n+1), w.first(n+1)...)
		}
	}
}

// walks are the sequences of the commit n, by the names of the calls.
func walks(r *repo.Repo, n int) map[string]iter.Seq[int] {
	return map[string]iter.Seq[int]{"Parents": Parents(r, n), "Ahead": Ahead(r, n), "First": First(r, n)}
}

func TestSequencesInsideThemselves(t *testing.T) {
	r := grown(family()...)
	for what, s := range walks(r, 11) {
		all := seq.List(s)
		var outer []int
		for n := range s {
			outer = append(outer, n)
			want(t, what+" inside itself", s, all...)
			for m := range s {
				if m == n {
					break
				}
			}
		}
		if !slices.Equal(outer, all) {
			t.Errorf("%s, around itself: %v, not %v", what, outer, all)
		}
	}
}

func TestSequencesInsideOneAnother(t *testing.T) {
	r := grown(family()...)
	for what, outer := range walks(r, 14) {
		var got []int
		for n := range outer {
			got = append(got, n)
			for inner, s := range walks(r, n) {
				want(t, inner+" inside "+what, s, seq.List(walks(r, n)[inner])...)
			}
		}
		if !slices.Equal(got, seq.List(outer)) {
			t.Errorf("%s around others: %v", what, got)
		}
	}
}

func TestTwoSequencesSideBySide(t *testing.T) {
	r := grown(family()...)
	for what, one := range walks(r, 8) {
		for name, other := range walks(r, 14) {
			a, b := seq.List(one), seq.List(other)
			nextOne, stopOne := iter.Pull(one)
			nextOther, stopOther := iter.Pull(other)
			for i := range max(len(a), len(b)) + 1 {
				wantNext(t, what+" beside "+name, nextOne, a, i)
				wantNext(t, name+" beside "+what, nextOther, b, i)
			}
			stopOne()
			stopOther()
		}
	}
}

// wantNext looks whether next tells the i-th of all, or that there is none.
func wantNext(t *testing.T, what string, next func() (int, bool), all []int, i int) {
	t.Helper()
	if n, ok := next(); ok != (i < len(all)) || ok && n != all[i] {
		t.Errorf("%s, at %d: %d, %v, not one of %v", what, i, n, ok, all)
	}
}

func TestOneSequenceTwiceSideBySide(t *testing.T) {
	for what, s := range walks(grown(family()...), 11) {
		all := seq.List(s)
		next, stop := iter.Pull(s)
		behind, stopBehind := iter.Pull(s)
		wantNext(t, what, next, all, 0)
		for i := range all {
			wantNext(t, what+", one ahead of itself", next, all, i+1)
			wantNext(t, what+", one behind itself", behind, all, i)
		}
		stop()
		stopBehind()
	}
}

func TestRepoIsAsItWas(t *testing.T) {
	history := family()
	r := grown(history...)
	before := sample.Told(r.All())
	for _, n := range sample.Numbers(len(history)) {
		for what, s := range walks(r, n) {
			for m := range s {
				Depth(r, m)
				Is(r, m, n)
			}
			for range s {
				break
			}
			if sample.Told(r.All()) != before {
				t.Fatalf("behind the calls of %d, and a loop over %s: %s, not %s", n, what, sample.Told(r.All()), before)
			}
		}
	}
	if n, e := r.Add(api.Commit{Parents: []int{14, 1}}); n != 15 || e != api.OK {
		t.Errorf("Add behind the calls: %d, %d", n, e)
	}
	for i := r.Len(); i < most; i++ {
		if n, e := r.Add(api.Commit{Parents: []int{i}}); n != i+1 || e != api.OK {
			t.Fatalf("Add behind the calls: %d, %d", n, e)
		}
	}
}

func TestRepoThatGrows(t *testing.T) {
	r := grown(nil, nil, []int{2, 1})
	there, later := walks(r, 3), walks(r, 4)
	wanted := map[string][]int{"Parents": {2, 1}, "Ahead": {3, 2, 1}, "First": {3, 2}}
	for what, s := range there {
		var got []int
		for n := range s {
			got = append(got, n)
			r.Add(api.Commit{Parents: []int{r.Len()}})
		}
		if !slices.Equal(got, wanted[what]) {
			t.Errorf("%s, while commits are added: %v", what, got)
		}
		want(t, what+", behind which commits were added", s, wanted[what]...)
	}
	for what, s := range later {
		want(t, what+" of a commit that was not there", s)
	}
	want(t, "Ahead of a commit that is there now", Ahead(r, 4), 4, 3, 2, 1)
	if !Is(r, 3, 4) || Is(r, 4, 3) || Depth(r, 4) != 3 {
		t.Errorf("of a commit that is there now: %v, %v, %d", Is(r, 3, 4), Is(r, 4, 3), Depth(r, 4))
	}
}

func TestCommitsWithFiles(t *testing.T) {
	c := func(note string, parents ...int) api.Commit {
		return api.Commit{Parents: parents, Tree: sample.Rising(api.MaxFiles), Note: note}
	}
	r := repo.New(4)
	if !sample.Fill(r, c("a"), c("b", 1), c("c", 1), c("d", 3, 2)) {
		t.Fatal("the commits can't be put in")
	}
	before := sample.Told(r.All())
	want(t, "Ahead of commits with files", Ahead(r, 4), 4, 3, 2, 1)
	want(t, "First of commits with files", First(r, 4), 4, 3, 1)
	if Depth(r, 4) != 3 || !Is(r, 2, 4) || sample.Told(r.All()) != before {
		t.Errorf("commits with files: %d, %v, %s", Depth(r, 4), Is(r, 2, 4), sample.Told(r.All()))
	}
}

func TestSeveralGoroutines(t *testing.T) {
	r := grown(family()...)
	shared := Ahead(r, 11)
	sample.AtOnce(func() {
		want(t, "Ahead, shared", shared, 11, 10, 9, 8, 7, 6, 5, 4, 3, 2, 1)
		want(t, "First", First(r, 8), 8, 7, 3, 1)
		want(t, "Parents", Parents(r, 7), 3, 6)
		if Depth(r, 11) != 7 || !Is(r, 5, 11) || Is(r, 9, 8) {
			t.Error("Depth or Is, asked by several")
		}
	})
}
