package sample

import (
	"fmt"
	"math/rand"
	"slices"
	"testing"

	"cortege/api"
)

// counting is a Keeper that gives the numbers from 1 on, to as many as it has room for.
type counting struct{ room, n int }

func (k *counting) Add(api.Commit) (int, api.Errno) {
	if k.n == k.room {
		return 0, api.ErrFull
	}
	k.n++
	return k.n, api.OK
}

func TestFill(t *testing.T) {
	k := &counting{room: 2}
	if !Fill(k, Commits(nil, nil)...) || k.n != 2 {
		t.Errorf("Fill of two where there is room for two: false, %d", k.n)
	}
	if Fill(&counting{room: 2}, Commits(nil, nil, nil)...) || Fill(k, api.Commit{}) || Fill(&counting{room: 9, n: 1}, api.Commit{}) {
		t.Error("Fill where commits do not get the numbers from 1 on: true")
	}
	if !Fill(k) {
		t.Error("Fill of nothing: false")
	}
}

func TestCommits(t *testing.T) {
	parents := []int{2, 1}
	cs := Commits(nil, []int{1}, parents)
	parents[0] = 9
	if got := fmt.Sprint(cs); got != "[{[] [] n1} {[1] [] n2} {[2 1] [] n3}]" {
		t.Errorf("Commits: %s", got)
	}
}

func TestHistories(t *testing.T) {
	for n, many := range []int{1, 1, 2, 10, 100, 1700} {
		all := Histories(n)
		if len(all) != many {
			t.Errorf("Histories(%d): %d", n, len(all))
		}
		seen := map[string]int{}
		for _, history := range all {
			seen[fmt.Sprint(history)]++
			wantHistory(t, history, n)
		}
		if len(seen) != many {
			t.Errorf("Histories(%d): %d unlike ones", n, len(seen))
		}
	}
}

func TestHistory(t *testing.T) {
	random := rand.New(rand.NewSource(11))
	seen := map[int]int{}
	for range 300 {
		n := random.Intn(61)
		history := History(n, random.Intn)
		wantHistory(t, history, n)
		for _, ps := range history {
			seen[len(ps)]++
		}
	}
	if seen[0] < 300 || seen[1] < 300 || seen[2] < 300 {
		t.Errorf("of no, one and two parents: %v", seen)
	}
}

// wantHistory looks whether n commits may have come of one another so.
func wantHistory(t *testing.T, history [][]int, n int) {
	t.Helper()
	if len(history) != n {
		t.Errorf("a history of %d commits: %v", n, history)
	}
	for i, ps := range history {
		if len(ps) > 2 || len(ps) == 2 && ps[0] == ps[1] || slices.ContainsFunc(ps, func(p int) bool { return p < 1 || p > i }) {
			t.Errorf("the commit %d has the parents %v", i+1, ps)
		}
	}
}
