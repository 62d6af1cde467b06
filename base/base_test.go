package base

import (
	"fmt"
	"math/rand"
	"slices"
	"testing"

	"cortege/api"
	"cortege/repo"
	"cortege/sample"
)

// most is as many commits as a Repo has room for.
const most = 2 * api.MaxCommits

// grown answers a Repo with commits that have these lists of parents.
func grown(parents ...[]int) *repo.Repo {
	return sample.Grown(repo.New(most), parents...)
}

// want holds Common and Best of two, either way round, against what is wanted.
func want(t *testing.T, what string, r *repo.Repo, a, b int, common, best []int) {
	t.Helper()
	for range 2 {
		if got := Common(r, a, b); !slices.Equal(got, common) {
			t.Errorf("%s: Common of %d and %d: %v, not %v", what, a, b, got, common)
		}
		if got := Best(r, a, b); !slices.Equal(got, best) {
			t.Errorf("%s: Best of %d and %d: %v, not %v", what, a, b, got, best)
		}
		a, b = b, a
	}
}

// wantByWords holds Common and Best of two against the chapter's words: those of P12.1, and those of P12.2.
func wantByWords(t *testing.T, what string, r *repo.Repo, came sample.Came, a, b int) {
	t.Helper()
	common, best := came.Common(a, b), came.Best(a, b)
	want(t, what, r, a, b, common, best)
	for _, n := range common {
		if !slices.ContainsFunc(best, func(m int) bool { return came[m][n] }) {
			t.Errorf("%s: of %d and %d: %d is not ahead of one of %v", what, a, b, n, best)
		}
	}
	if slices.Contains(common, a) && !slices.Equal(Best(r, a, b), []int{a}) {
		t.Errorf("%s: %d came of %d: Best is %v", what, b, a, Best(r, a, b))
	}
}

// wantAllByWords holds Common and Best of each two numbers over a history against the chapter's words.
func wantAllByWords(t *testing.T, history [][]int) {
	t.Helper()
	r, came, what := grown(history...), sample.CameOf(history), fmt.Sprint(history)
	before := sample.Told(r.All())
	numbers := sample.Numbers(len(history))
	for i, a := range numbers {
		// The two are held either way round.
		for _, b := range numbers[i:] {
			wantByWords(t, what, r, came, a, b)
		}
	}
	if after := sample.Told(r.All()); after != before {
		t.Errorf("the Repo was %s, and is %s", before, after)
	}
}

// merged has two lines from 1, two merges of both (in either order of the parents), what came of these, and another beginning.
func merged() [][]int {
	return [][]int{
		1:  nil,
		2:  {1},
		3:  {1},
		4:  {2, 3},
		5:  {3, 2},
		6:  {4},
		7:  {5},
		8:  nil,
		9:  {6, 8},
		10: {8},
		11: {2},
		12: {11, 10},
	}[1:]
}

// thrice has three beginnings, and two that came of all of them by merges of two.
func thrice() [][]int {
	return [][]int{
		1: nil,
		2: nil,
		3: nil,
		4: {1, 2},
		5: {4, 3},
		6: {3, 2},
		7: {6, 1},
		8: {7},
		9: {5, 7},
	}[1:]
}

func TestTheChaptersExample(t *testing.T) {
	r := grown(merged()...)
	for n := 1; n <= r.Len(); n++ {
		if best := Best(r, n, n); !slices.Equal(best, []int{n}) {
			t.Errorf("Best of %d and itself: %v", n, best)
		}
	}
}

func TestOfACommitAndItself(t *testing.T) {
	r := grown(merged()...)
	want(t, "the first one", r, 1, 1, []int{1}, []int{1})
	want(t, "one of a line", r, 11, 11, []int{1, 2, 11}, []int{11})
	want(t, "a merge", r, 5, 5, []int{1, 2, 3, 5}, []int{5})
	want(t, "one with two beginnings", r, 9, 9, []int{1, 2, 3, 4, 6, 8, 9}, []int{9})
	want(t, "one alone", r, 8, 8, []int{8}, []int{8})
	want(t, "the only one", grown(nil), 1, 1, []int{1}, []int{1})
}

func TestOfACommitAndOneThatCameOfIt(t *testing.T) {
	r := grown(merged()...)
	want(t, "a parent", r, 1, 2, []int{1}, []int{1})
	want(t, "a parent with parents", r, 4, 6, []int{1, 2, 3, 4}, []int{4})
	want(t, "the first parent of a merge", r, 2, 4, []int{1, 2}, []int{2})
	want(t, "the second parent of a merge", r, 3, 4, []int{1, 3}, []int{3})
	want(t, "one far ahead, by two ways", r, 1, 9, []int{1}, []int{1})
	want(t, "one far ahead, that is a merge", r, 4, 9, []int{1, 2, 3, 4}, []int{4})
	want(t, "another beginning", r, 8, 9, []int{8}, []int{8})
}

func TestOfTwoThatCameOfOne(t *testing.T) {
	r := grown(merged()...)
	want(t, "the first one's children", r, 2, 3, []int{1}, []int{1})
	want(t, "the children of one with a parent", r, 4, 11, []int{1, 2}, []int{2})
	want(t, "the one far, the other near", r, 3, 11, []int{1}, []int{1})
	want(t, "a merge, where the second parent alone is common", r, 10, 9, []int{8}, []int{8})
	want(t, "children of a merge", grown(nil, nil, []int{2, 1}, []int{3}, []int{3}), 4, 5, []int{1, 2, 3}, []int{3})
	want(t, "with others between", grown(nil, nil, nil, []int{2}, nil, []int{2}), 4, 6, []int{2}, []int{2})
}

func TestOfTwoWithNothingInCommon(t *testing.T) {
	r := grown(merged()...)
	want(t, "two beginnings", r, 1, 8, nil, nil)
	want(t, "two of two beginnings", r, 10, 7, nil, nil)
	want(t, "a merge, and one beginning", r, 5, 8, nil, nil)
	want(t, "two without parents", grown(nil, nil), 1, 2, nil, nil)
	want(t, "merges of others", grown(nil, nil, []int{1, 2}, nil, nil, []int{4, 5}), 3, 6, nil, nil)
}

func TestOfTwoMergesOfTheSameTwo(t *testing.T) {
	r := grown(merged()...)
	want(t, "the merges", r, 4, 5, []int{1, 2, 3}, []int{2, 3})
	want(t, "what came of them", r, 6, 7, []int{1, 2, 3}, []int{2, 3})
	want(t, "a merge of one of these with another", r, 9, 7, []int{1, 2, 3}, []int{2, 3})
	want(t, "two beginnings", grown(nil, nil, []int{1, 2}, []int{2, 1}), 3, 4, []int{1, 2}, []int{1, 2})
	want(t, "two beginnings, with others between", grown(nil, nil, nil, nil, []int{4, 2}, nil, []int{2, 4}), 5, 7, []int{2, 4}, []int{2, 4})
}

func TestOfTwoWithThreeBestOnes(t *testing.T) {
	r := grown(thrice()...)
	want(t, "three beginnings", r, 5, 7, []int{1, 2, 3}, []int{1, 2, 3})
	want(t, "three beginnings, a child", r, 5, 8, []int{1, 2, 3}, []int{1, 2, 3})
	want(t, "a merge of both, and a child of the one", r, 9, 8, []int{1, 2, 3, 6, 7}, []int{7})
	want(t, "merges of two of three", r, 4, 6, []int{2}, []int{2})
	of := grown(nil, []int{1}, []int{1}, []int{1}, []int{2, 4}, []int{5, 3}, []int{4, 3}, []int{7, 2})
	want(t, "three that came of one", of, 6, 8, []int{1, 2, 3, 4}, []int{2, 3, 4})
}

func TestALesserNumberAheadOfAGreaterCommonOne(t *testing.T) {
	// 4 and 6 are common: 4 came of 3, 6 of 5, and 2 is ahead of 6 alone.
	r := grown(nil, []int{1}, nil, []int{3}, []int{2}, []int{5}, []int{6, 4}, []int{4, 6})
	want(t, "lesser ones that are not to be told", r, 7, 8, []int{1, 2, 3, 4, 5, 6}, []int{4, 6})
	far := grown(nil, nil, nil, []int{1}, []int{4, 2}, []int{5}, []int{6}, []int{6, 3})
	want(t, "far ahead, by two ways", far, 7, 8, []int{1, 2, 4, 5, 6}, []int{6})
	second := grown(nil, nil, []int{2, 1}, []int{3, 1}, []int{1, 3})
	want(t, "ahead by a second parent, and parent of both", second, 4, 5, []int{1, 2, 3}, []int{3})
}

func TestALesserNumberNotAheadOfAnotherCommonOne(t *testing.T) {
	r := grown(nil, nil, []int{2}, []int{3}, []int{4, 1}, []int{1, 4})
	want(t, "the first one, beside a line", r, 5, 6, []int{1, 2, 3, 4}, []int{1, 4})
	between := grown(nil, nil, nil, []int{1, 3}, []int{4, 2}, []int{2, 4})
	want(t, "one between those ahead of another", between, 5, 6, []int{1, 2, 3, 4}, []int{2, 4})
	behind := grown(nil, nil, []int{1}, nil, []int{4, 3}, []int{5, 2}, []int{2, 5})
	want(t, "one between, and one behind", behind, 6, 7, []int{1, 2, 3, 4, 5}, []int{2, 5})
	parent := grown(nil, []int{1}, []int{2}, []int{2}, []int{3, 1}, []int{1, 4})
	want(t, "a parent of both that is ahead of another", parent, 5, 6, []int{1, 2}, []int{2})
}

func TestALineAsLongAsThereIsRoom(t *testing.T) {
	r := grown(sample.Line(most)...)
	var rising []int
	for n := 1; n <= most; n++ {
		rising = append(rising, n)
		want(t, "a line", r, n, most, rising, []int{n})
	}
	wantAllByWords(t, sample.Line(most))
}

func TestAsManyAsThereIsRoomThatAllHaveTwoParents(t *testing.T) {
	for _, nearFirst := range []bool{true, false} {
		history := sample.Ladder(most, nearFirst)
		if best := Best(grown(history...), most-1, most); !slices.Equal(best, []int{most - 1}) {
			t.Errorf("Best of the last two: %v", best)
		}
		if common := Common(grown(history...), most, most); len(common) != most {
			t.Errorf("Common of the last one and itself tells %d", len(common))
		}
		wantAllByWords(t, history)
	}
}

func TestAsManyAsThereIsRoomThatAreMergesOfTheSameTwo(t *testing.T) {
	history := sample.Lattice(most)
	best := []int{most - 3, most - 2}
	if got := Best(grown(history...), most-1, most); !slices.Equal(got, best) {
		t.Errorf("Best of the last two: %v, not %v", got, best)
	}
	wantAllByWords(t, history)
}

func TestAsManyBestOnesAsThereIsRoomFor(t *testing.T) {
	const beginnings = (most + 2) / 3
	var rising []int
	for n := 1; n <= beginnings; n++ {
		rising = append(rising, n)
	}
	history := sample.Taking(make([][]int, beginnings), rising...)
	first := len(history)
	falling := slices.Clone(rising)
	slices.Reverse(falling)
	history = sample.Taking(history, falling...)
	want(t, "lines of merges", grown(history...), first, len(history), rising, rising)
	wantAllByWords(t, history)
}

func TestNotThere(t *testing.T) {
	histories := map[string][][]int{"an empty Repo": nil, "one commit": sample.Line(1), "a line": sample.Line(5), "merges": merged(), "a full Repo": sample.Ladder(most, true)}
	for what, history := range histories {
		r, n := grown(history...), len(history)
		for _, a := range sample.Numbers(n) {
			for _, b := range sample.Numbers(n) {
				if a < 1 || a > n || b < 1 || b > n {
					want(t, what, r, a, b, nil, nil)
				}
			}
		}
	}
	for n := -2; n <= most+1; n++ {
		want(t, "an empty Repo", repo.New(most), n, n, nil, nil)
		want(t, "an empty Repo", repo.New(most), n, 1, nil, nil)
		want(t, "a Repo without room", repo.New(0), n, n, nil, nil)
	}
}

func TestNilRepo(t *testing.T) {
	for _, a := range sample.Numbers(2) {
		for _, b := range sample.Numbers(2) {
			want(t, "a nil Repo", nil, a, b, nil, nil)
		}
	}
}

func TestAllShortHistories(t *testing.T) {
	for n := range 6 {
		for _, history := range sample.Histories(n) {
			wantAllByWords(t, history)
		}
	}
}

func TestRandomHistories(t *testing.T) {
	random := rand.New(rand.NewSource(12))
	for range 60 {
		wantAllByWords(t, sample.History(random.Intn(25), random.Intn))
	}
	for _, n := range []int{api.MaxCommits, most} {
		history := sample.History(n, random.Intn)
		r, came := grown(history...), sample.CameOf(history)
		for range 600 {
			wantByWords(t, "many commits", r, came, 1+random.Intn(n), 1+random.Intn(n))
		}
	}
}

func TestRandomHistoriesWithManyBestOnes(t *testing.T) {
	random := rand.New(rand.NewSource(13))
	seen := map[int]int{}
	for range 900 {
		history, a, b := sample.Crossed(4+random.Intn(12), random.Intn)
		r, came := grown(history...), sample.CameOf(history)
		wantByWords(t, fmt.Sprint(history), r, came, a, b)
		seen[len(came.Best(a, b))]++
	}
	if min(seen[1], seen[2], seen[3], seen[4]) < 20 {
		t.Errorf("pairs by how many best ones they have: %v", seen)
	}
}

func TestAnswersShareNoMemory(t *testing.T) {
	history := merged()
	r := grown(history...)
	before := sample.Told(r.All())
	answers := func() [][]int {
		return [][]int{Common(r, 9, 7), Best(r, 9, 7), Common(r, 7, 9), Best(r, 7, 9), Common(r, 5, 5), Best(r, 5, 5), Common(r, 2, 1), Best(r, 2, 1)}
	}
	all, wanted := answers(), fmt.Sprint(answers())
	if got := fmt.Sprint(all); got != wanted {
		t.Fatalf("twice unlike: %s, %s", got, wanted)
	}
	for i, list := range all {
		sample.Spoil(list, -7)
		for j, other := range all[i+1:] {
			if slices.Contains(other[:cap(other)], -7) {
				t.Errorf("the answer %d shares memory with the answer %d", i+j+1, i)
			}
		}
	}
	if got := fmt.Sprint(answers()); got != wanted || sample.Told(r.All()) != before {
		t.Errorf("behind a change of what was answered: %s, not %s; %s", got, wanted, sample.Told(r.All()))
	}
}

func TestRepoIsAsItWas(t *testing.T) {
	history := merged()
	r := grown(history...)
	before := sample.Told(r.All())
	for _, a := range sample.Numbers(len(history)) {
		for _, b := range sample.Numbers(len(history)) {
			Common(r, a, b)
			Best(r, a, b)
			if after := sample.Told(r.All()); after != before {
				t.Fatalf("behind the calls of %d and %d: %s, not %s", a, b, after, before)
			}
		}
	}
	for i := r.Len(); i < most; i++ {
		if n, e := r.Add(api.Commit{Parents: []int{i}}); n != i+1 || e != api.OK {
			t.Fatalf("Add behind the calls: %d, %d", n, e)
		}
	}
}

func TestRepoThatGrows(t *testing.T) {
	r := grown(nil, nil, []int{2, 1})
	common := Common(r, 3, 3)
	want(t, "one that is not there", r, 3, 4, nil, nil)
	r.Add(api.Commit{Parents: []int{3, 1}})
	want(t, "one that is there now", r, 3, 4, []int{1, 2, 3}, []int{3})
	if !slices.Equal(common, []int{1, 2, 3}) {
		t.Errorf("what was answered before: %v", common)
	}
}

func TestCommitsWithFiles(t *testing.T) {
	c := func(note string, parents ...int) api.Commit {
		return api.Commit{Parents: parents, Tree: sample.Rising(api.MaxFiles), Note: note}
	}
	r := repo.New(4)
	if !sample.Fill(r, c("a"), c("b"), c("c", 1, 2), c("d", 2, 1)) {
		t.Fatal("the commits can't be put in")
	}
	want(t, "commits with files", r, 3, 4, []int{1, 2}, []int{1, 2})
	want(t, "commits with files", r, 2, 4, []int{2}, []int{2})
}

func TestSeveralGoroutines(t *testing.T) {
	r := grown(merged()...)
	sample.AtOnce(func() {
		want(t, "asked by several", r, 9, 7, []int{1, 2, 3}, []int{2, 3})
		want(t, "asked by several", r, 4, 9, []int{1, 2, 3, 4}, []int{4})
	})
}
