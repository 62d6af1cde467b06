package sample

import (
	"fmt"
	"math"
	"math/rand"
	"slices"
	"testing"

	"cortege/api"
)

// counting is a Keeper that gives the numbers from 1 on, to as many as it has room for.
type counting struct{ room, n int }

func (k *counting) Add(api.Commit) (int, api.Errno) {
	if k.n == k.room {
		return 0, api.ErrFull
	}
	k.n++
	return k.n, api.OK
}

func TestFill(t *testing.T) {
	k := &counting{room: 2}
	if !Fill(k, Commits(nil, nil)...) || k.n != 2 {
		t.Errorf("Fill of two where there is room for two: false, %d", k.n)
	}
	if Fill(&counting{room: 2}, Commits(nil, nil, nil)...) || Fill(k, api.Commit{}) || Fill(&counting{room: 9, n: 1}, api.Commit{}) {
		t.Error("Fill where commits do not get the numbers from 1 on: true")
	}
	if !Fill(k) {
		t.Error("Fill of nothing: false")
	}
}

func TestCommits(t *testing.T) {
	parents := []int{2, 1}
	cs := Commits(nil, []int{1}, parents)
	parents[0] = 9
	if got := fmt.Sprint(cs); got != "[{[] [] n1} {[1] [] n2} {[2 1] [] n3}]" {
		t.Errorf("Commits: %s", got)
	}
}

func TestHistories(t *testing.T) {
	for n, many := range []int{1, 1, 2, 10, 100, 1700} {
		all := Histories(n)
		if len(all) != many {
			t.Errorf("Histories(%d): %d", n, len(all))
		}
		seen := map[string]int{}
		for _, history := range all {
			seen[fmt.Sprint(history)]++
			wantHistory(t, history, n)
		}
		if len(seen) != many {
			t.Errorf("Histories(%d): %d unlike ones", n, len(seen))
		}
	}
}

func TestHistory(t *testing.T) {
	random := rand.New(rand.NewSource(11))
	seen := map[int]int{}
	for range 300 {
		n := random.Intn(61)
		history := History(n, random.Intn)
		wantHistory(t, history, n)
		for _, ps := range history {
			seen[len(ps)]++
		}
	}
	if seen[0] < 300 || seen[1] < 300 || seen[2] < 300 {
		t.Errorf("of no, one and two parents: %v", seen)
	}
}

// wantHistory looks whether n commits may have come of one another so.
func wantHistory(t *testing.T, history [][]int, n int) {
	t.Helper()
	if len(history) != n {
		t.Errorf("a history of %d commits: %v", n, history)
	}
	for i, ps := range history {
		if len(ps) > 2 || len(ps) == 2 && ps[0] == ps[1] || slices.ContainsFunc(ps, func(p int) bool { return p < 1 || p > i }) {
			t.Errorf("the commit %d has the parents %v", i+1, ps)
		}
	}
}

func TestGrown(t *testing.T) {
	if k := Grown(&counting{room: 2}, nil, []int{1}); k.n != 2 {
		t.Errorf("Grown by two: %d", k.n)
	}
	defer func() {
		if recover() == nil {
			t.Error("Grown by two where there is room for one: no panic")
		}
	}()
	Grown(&counting{room: 1}, nil, nil)
}

func TestKept(t *testing.T) {
	cs := []api.Commit{On(Files("x", "1")), On(nil, 1), On(nil, 1), {Parents: []int{3, 2}, Note: "other"}}
	k := Kept(&keeping{}, cs...)
	if got := Told(slices.All(k.cs)); got != ` 0: "x" "1" "n1" 1: 1 "n2" 2: 1 "n3" 3: 3 2 "n4"` {
		t.Errorf("Kept: %s", got)
	}
	if cs[0].Note != "" || cs[3].Note != "other" {
		t.Errorf("what was handed in: %v", cs)
	}
	defer func() {
		if recover() == nil {
			t.Error("Kept of two where there is room for one: no panic")
		}
	}()
	Kept(&counting{room: 1}, cs[:2]...)
}

func TestPlanted(t *testing.T) {
	history := [][]int{nil, {1}, {2, 1}}
	k := Planted(&keeping{}, history, [][]api.File{Files("x", "1"), nil, Files("y", "2")})
	if got := Told(slices.All(k.cs)); got != ` 0: "x" "1" "n1" 1: 1 "n2" 2: 2 1 "y" "2" "n3"` {
		t.Errorf("Planted: %s", got)
	}
	if k := Planted(&keeping{}, nil, nil); len(k.cs) != 0 {
		t.Errorf("Planted of no commits: %v", k.cs)
	}
}

// keeping is a Keeper of all commits.
type keeping struct{ cs []api.Commit }

func (k *keeping) Add(c api.Commit) (int, api.Errno) {
	k.cs = append(k.cs, c)
	return len(k.cs), api.OK
}

func TestTold(t *testing.T) {
	cs := []api.Commit{{Note: "a b"}, {Parents: []int{2, 1}, Tree: Files("x", "1", "y", "")}}
	if got := Told(slices.All(cs)); got != ` 0: "a b" 1: 2 1 "x" "1" "y" "" ""` {
		t.Errorf("Told: %s", got)
	}
	if got := Told(slices.All(cs[:0])); got != "" {
		t.Errorf("Told of none: %s", got)
	}
}

func TestLineAndLadder(t *testing.T) {
	for got, want := range map[string]string{
		fmt.Sprint(Line(0), Line(1), Line(4)):             "[] [[]] [[] [1] [2] [3]]",
		fmt.Sprint(Ladder(0, true), Ladder(2, true)):      "[] [[] [1]]",
		fmt.Sprint(Ladder(4, true), Ladder(4, false)):     "[[] [1] [2 1] [3 2]] [[] [1] [1 2] [2 3]]",
		fmt.Sprint(Ladder(1, false), Ladder(3, false)):    "[[]] [[] [1] [1 2]]",
		fmt.Sprint(len(Line(120)), len(Ladder(60, true))): "120 60",
	} {
		if got != want {
			t.Errorf("%s, not %s", got, want)
		}
	}
	wantHistory(t, Line(60), 60)
	wantHistory(t, Ladder(60, true), 60)
}

func TestLatticeAndTaking(t *testing.T) {
	for got, want := range map[string]string{
		fmt.Sprint(Lattice(0), Lattice(1), Lattice(2)):   "[] [[]] [[] []]",
		fmt.Sprint(Lattice(3), Lattice(6)):               "[[] [] [1 2]] [[] [] [1 2] [2 1] [3 4] [4 3]]",
		fmt.Sprint(len(Lattice(120)), Lattice(119)[118]): "120 [117 118]",
		fmt.Sprint(Taking(nil, 1), Taking(Line(2), 2)):   "[] [[] [1]]",
		fmt.Sprint(Taking(make([][]int, 4), 3, 1, 4)):    "[[] [] [] [] [3 1] [5 4]]",
	} {
		if got != want {
			t.Errorf("%s, not %s", got, want)
		}
	}
	wantHistory(t, Lattice(60), 60)
	room := make([][]int, 3, 6)
	one, other := Taking(room, 1, 2), Taking(room, 2, 3)
	if got := fmt.Sprint(room, one, other); got != "[[] [] []] [[] [] [] [1 2]] [[] [] [] [2 3]]" {
		t.Errorf("Taking twice behind one history: %s", got)
	}
}

func TestCrossed(t *testing.T) {
	random := rand.New(rand.NewSource(14))
	taken := map[int]int{}
	for range 300 {
		n := 2 + random.Intn(20)
		history, a, b := Crossed(n, random.Intn)
		wantHistory(t, history, b)
		if a <= n || b <= a || b > 3*n-2 {
			t.Errorf("of %d commits two lines of merges to %d and to %d", n, a, b)
		}
		if slices.Contains(Ahead(history, b), a) {
			t.Errorf("%d came of %d: %v", b, a, history)
		}
		taken[a-n+1]++
	}
	if taken[2] == 0 || taken[10] == 0 || len(taken) < 15 {
		t.Errorf("lines by how many they take in: %v", taken)
	}
}

func TestRows(t *testing.T) {
	random := rand.New(rand.NewSource(16))
	seen := map[string]int{}
	for wide := 2; wide <= 5; wide++ {
		row := wide * (wide - 1)
		for room := wide; room <= 60; room++ {
			history, last := Rows(wide, room, random.Intn)
			wantHistory(t, history, wide+(room-wide)/row*row)
			came := CameOf(history)
			for i, a := range last {
				if len(last) != wide || i > 0 && a-last[i-1] != max(1, min(wide-1, len(history)-wide)) {
					t.Errorf("rows of %d in %d: the last ones %v", wide, room, last)
				}
				for _, b := range last[:i] {
					if best := came.Best(a, b); len(history) > wide && len(best) != wide {
						t.Errorf("rows of %d in %d: %d and %d have the best ones %v", wide, room, b, a, best)
					}
				}
			}
			if len(history) > wide {
				seen[fmt.Sprint(history[wide])]++
			}
		}
	}
	if len(seen) < 12 {
		t.Errorf("the first merge by its parents: %v", seen)
	}
}

func TestFull(t *testing.T) {
	random := rand.New(rand.NewSource(17))
	for _, n := range []int{0, 1, 2, 60} {
		seen := map[string]int{}
		for _, history := range Full(n, random.Intn) {
			wantHistory(t, history, n)
			seen[fmt.Sprint(history)]++
		}
		if n == 60 && len(seen) != 5 {
			t.Errorf("Full has %d kinds", len(seen))
		}
	}
}

func TestNumbers(t *testing.T) {
	for n := range 4 {
		all := Numbers(n)
		for _, m := range []int{math.MinInt, -1, 0, n, n + 1, math.MaxInt} {
			if !slices.Contains(all, m) {
				t.Errorf("Numbers(%d) has no %d", n, m)
			}
		}
	}
}

func TestAhead(t *testing.T) {
	history := [][]int{nil, {1}, {1}, {3, 2}, nil, {2, 5}}
	for n, want := range map[int][]int{-1: nil, 0: nil, 1: {1}, 2: {2, 1}, 3: {3, 1}, 4: {4, 3, 2, 1}, 5: {5}, 6: {6, 5, 2, 1}, 7: nil} {
		if got := Ahead(history, n); !slices.Equal(got, want) {
			t.Errorf("Ahead of %d: %v, not %v", n, got, want)
		}
	}
}
