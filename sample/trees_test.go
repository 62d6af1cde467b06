package sample

import (
	"math/rand"
	"slices"
	"testing"

	"cortege/api"
	"cortege/join"
	"cortege/line"
	"cortege/tree"
)

// wantTrees looks whether these are n trees, and answers how many files one of them has at most.
func wantTrees(t *testing.T, trees [][]api.File, n int) int {
	t.Helper()
	if len(trees) != n {
		t.Fatalf("of %d commits %d trees", n, len(trees))
	}
	most := 0
	for _, files := range trees {
		if !tree.May(files) {
			t.Errorf("no tree: %q", files)
		}
		most = max(most, len(files))
	}
	return most
}

func TestTrees(t *testing.T) {
	random := rand.New(rand.NewSource(15))
	var same, all int
	seen := map[string]int{}
	most := 0
	for range 100 {
		history := History(random.Intn(30), random.Intn)
		trees := Trees(history, random.Intn)
		most = max(most, wantTrees(t, trees, len(history)))
		for i, files := range trees {
			for _, f := range files {
				seen[f.Path]++
				if len(history[i]) > 0 && slices.Contains(trees[history[i][0]-1], f) {
					same++
				}
				all++
			}
		}
	}
	if most != api.MaxFiles || len(seen) != 17 || same < all/3 || same > all*9/10 {
		t.Errorf("as many as %d files; %d of %d are as the first parent's; by paths: %v", most, same, all, seen)
	}
}

func TestGathered(t *testing.T) {
	random := rand.New(rand.NewSource(18))
	var clean, all, most int
	for range 200 {
		history, a, b := Crossed(2+random.Intn(14), random.Intn)
		trees := Gathered(history, random.Intn)
		most = max(most, wantTrees(t, trees, len(history)))
		bases := BasesOf(history, trees, join.Virtual)
		if _, conflicts := join.Of(bases.Base(a, b), trees[a-1], trees[b-1]); len(conflicts) == 0 {
			clean++
		}
		all++
	}
	if most < 6 || clean < all/3 || clean > all*9/10 {
		t.Errorf("as many as %d files; of %d pairs %d go together", most, all, clean)
	}
}

func TestGatheredHaveWhatTheyCameOf(t *testing.T) {
	random := rand.New(rand.NewSource(19))
	for range 50 {
		history := History(20, random.Intn)
		trees := Gathered(history, random.Intn)
		for n, ps := range history {
			if len(ps) != 1 {
				continue
			}
			if was, is := trees[ps[0]-1], trees[n]; len(differing(was, is)) > 1 {
				t.Errorf("%d changes more than one file of %d: %q, %q", n+1, ps[0], was, is)
			}
		}
	}
}

// differing answers the paths at which two trees are not the same.
func differing(a, b []api.File) []string {
	return slices.DeleteFunc(tree.Paths(a, b), func(path string) bool {
		one, isInOne := tree.Get(a, path)
		other, isInOther := tree.Get(b, path)
		return one == other && isInOne == isInOther
	})
}

func TestGreat(t *testing.T) {
	random := rand.New(rand.NewSource(20))
	trees := Great(5, random.Intn)
	wantTrees(t, trees, 5)
	wantTrees(t, Great(0, random.Intn), 0)
	seen := map[string]int{}
	for _, files := range trees {
		if len(files) != api.MaxFiles {
			t.Errorf("%d files, not %d", len(files), api.MaxFiles)
		}
		for _, f := range files {
			seen[f.Data]++
			if lines := line.Split(f.Data); len(lines) != api.MaxLines || !line.Few(f.Data) {
				t.Errorf("%d lines, not %d", len(lines), api.MaxLines)
			}
		}
	}
	if len(seen) < 5*api.MaxFiles*9/10 {
		t.Errorf("%d unlike files of %d", len(seen), 5*api.MaxFiles)
	}
}
