package sample

import (
	"slices"
	"sync"
	"testing"

	"cortege/api"
	"cortege/tree"
)

func TestFiles(t *testing.T) {
	if got := Files("b", "1", "", "", "b", "2"); !slices.Equal(got, []api.File{{Path: "b", Data: "1"}, {}, {Path: "b", Data: "2"}}) {
		t.Errorf("Files: %q", got)
	}
	if got := Files(); len(got) != 0 {
		t.Errorf("Files of nothing: %q", got)
	}
	if got := Files("a", "1", "b"); !slices.Equal(got, Files("a", "1")) {
		t.Errorf("Files of a path without data: %q", got)
	}
}

func TestRising(t *testing.T) {
	for n := range api.MaxFiles + 1 {
		if got := Rising(n); len(got) != n || !tree.May(got) {
			t.Errorf("Rising(%d): %q", n, got)
		}
	}
	many := Rising(100000)
	for i, f := range many[1:] {
		if many[i].Path >= f.Path || many[i].Data == f.Data {
			t.Fatalf("%q stands behind %q", f, many[i])
		}
	}
	if f := many[123]; f != (api.File{Path: "f00123", Data: "123"}) {
		t.Errorf("the file 123: %q", f)
	}
}

func TestSpoil(t *testing.T) {
	room := []int{1, 2, 3, 4, 5}
	Spoil(room[1:3:4], 9)
	if !slices.Equal(room, []int{1, 9, 9, 9, 5}) {
		t.Errorf("Spoil of two with room for three: %v", room)
	}
	Spoil(nil, 9)
}

func TestNoTrees(t *testing.T) {
	for what, files := range NoTrees() {
		if tree.May(files) {
			t.Errorf("a tree: %s", what)
		}
	}
}

func TestAlike(t *testing.T) {
	got := Alike("a", 3, "x")
	if !slices.Equal(got, Files("af00000", "x", "af00001", "x", "af00002", "x")) {
		t.Errorf("Alike: %q", got)
	}
	if got := Alike("a", 0, "x"); len(got) != 0 {
		t.Errorf("Alike of none: %q", got)
	}
}

func TestAtOnce(t *testing.T) {
	var lock sync.Mutex
	n := 0
	AtOnce(func() {
		lock.Lock()
		defer lock.Unlock()
		n++
	})
	if n != 160 {
		t.Errorf("AtOnce did it %d times", n)
	}
}
