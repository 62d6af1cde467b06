package sample

import (
	"slices"
	"testing"
)

func TestCame(t *testing.T) {
	history := [][]int{nil, {1}, {1}, {3, 2}, {2, 3}, nil, {4, 6}}
	came := CameOf(history)
	for _, c := range []struct {
		a, b         int
		common, best []int
	}{
		{1, 1, []int{1}, []int{1}},
		{1, 7, []int{1}, []int{1}},
		{2, 3, []int{1}, []int{1}},
		{4, 5, []int{1, 2, 3}, []int{2, 3}},
		{5, 7, []int{1, 2, 3}, []int{2, 3}},
		{4, 7, []int{1, 2, 3, 4}, []int{4}},
		{6, 7, []int{6}, []int{6}},
		{5, 6, nil, nil},
		{0, 0, nil, nil},
		{0, 1, nil, nil},
		{7, 8, nil, nil},
		{-1, 7, nil, nil},
	} {
		for _, ab := range [][2]int{{c.a, c.b}, {c.b, c.a}} {
			if common, best := came.Common(ab[0], ab[1]), came.Best(ab[0], ab[1]); !slices.Equal(common, c.common) || !slices.Equal(best, c.best) {
				t.Errorf("of %v: %v, %v, not %v, %v", ab, common, best, c.common, c.best)
			}
		}
	}
	for b := range came {
		for a := range came {
			if came[b][a] != slices.Contains(Ahead(history, b), a) {
				t.Errorf("%d of %d: %v", b, a, came[b][a])
			}
		}
	}
	if none := CameOf(nil); none.Common(0, 0) != nil || none.Best(0, 0) != nil {
		t.Error("of no commits")
	}
}
