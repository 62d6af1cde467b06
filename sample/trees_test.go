package sample

import (
	"math/rand"
	"slices"
	"testing"

	"cortege/api"
	"cortege/tree"
)

func TestTrees(t *testing.T) {
	random := rand.New(rand.NewSource(15))
	var same, all int
	seen := map[string]int{}
	most := 0
	for range 100 {
		history := History(random.Intn(30), random.Intn)
		trees := Trees(history, random.Intn)
		if len(trees) != len(history) {
			t.Fatalf("of %d commits %d trees", len(history), len(trees))
		}
		for i, files := range trees {
			if !tree.May(files) {
				t.Errorf("no tree: %q", files)
			}
			most = max(most, len(files))
			for _, f := range files {
				seen[f.Path]++
				if len(history[i]) > 0 && slices.Contains(trees[history[i][0]-1], f) {
					same++
				}
				all++
			}
		}
	}
	if most != api.MaxFiles || len(seen) != 17 || same < all/3 || same > all*9/10 {
		t.Errorf("as many as %d files; %d of %d are as the first parent's; by paths: %v", most, same, all, seen)
	}
}
