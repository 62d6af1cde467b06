package sample

import (
	"slices"
	"strings"
	"testing"

	"cortege/api"
)

// told puts three trees together so that it can be read what was put together with what, and over what: the base's data stands before the colon.
func told(base, a, b []api.File) []api.File {
	data := func(t []api.File) string {
		if len(t) == 0 {
			return "-"
		}
		return t[0].Data
	}
	return Files("x", "("+data(base)+":"+data(a)+","+data(b)+")")
}

// numbered answers a tree for each of n commits, of which the data is a letter: a of the first one.
func numbered(n int) [][]api.File {
	var trees [][]api.File
	for i := range n {
		trees = append(trees, Files("x", string(rune('a'+i))))
	}
	return trees
}

func TestBases(t *testing.T) {
	cross := [][]int{nil, {1}, {1}, {2, 3}, {3, 2}, {4, 5}, {5, 4}}
	three := Taking(Taking([][]int{nil, {1}, {1}, nil}, 2, 3, 4), 4, 3, 2)
	four := Taking(Taking(make([][]int, 4), 1, 2, 3, 4), 4, 3, 2, 1)
	for _, c := range []struct {
		what    string
		history [][]int
		a, b    int
		deep    int
		data    string
	}{
		{"itself", cross, 4, 4, 8, "d"},
		{"of one commit", cross, 2, 3, 8, "a"},
		{"the one came of the other", cross, 6, 2, 8, "b"},
		{"of two", cross, 4, 5, 8, "(a:b,c)"},
		{"of two, whose base is not looked at", cross, 4, 5, 1, "(-:b,c)"},
		{"of two that are of two", cross, 6, 7, 8, "((a:b,c):d,e)"},
		{"of two that are of two, one less deep", cross, 6, 7, 2, "((-:b,c):d,e)"},
		{"of two that are of two, not deep", cross, 6, 7, 1, "(-:d,e)"},
		{"not at all deep", cross, 6, 7, 0, ""},
		{"deep below 0", cross, 6, 7, -1, ""},
		{"of three, the first one's base with each", three, 6, 8, 8, "(-:(a:b,c),d)"},
		{"of four, but for the last one", four, 7, 10, 8, "(-:(-:a,b),c)"},
		{"nothing in common", four, 1, 2, 8, ""},
		{"not there", cross, 8, 1, 8, ""},
		{"neither there", cross, 0, -1, 8, ""},
	} {
		s := BasesOf(c.history, numbered(len(c.history)), told)
		for range 2 {
			for _, ab := range [][2]int{{c.a, c.b}, {c.b, c.a}} {
				wantData(t, c.what, s.Deep(ab[0], ab[1], c.deep), c.data)
			}
		}
	}
}

// wantData looks whether a tree has one file of this data, or none for none.
func wantData(t *testing.T, what string, files []api.File, data string) {
	t.Helper()
	var wanted []api.File
	if data != "" {
		wanted = Files("x", data)
	}
	if !slices.Equal(files, wanted) {
		t.Errorf("%s: %q, not %q", what, files, wanted)
	}
}

func TestBasesAreNoDeeperThanMaxDeep(t *testing.T) {
	history := Lattice(4 + 2*api.MaxDeep)
	s := BasesOf(history, numbered(len(history)), told)
	a, b := len(history)-1, len(history)
	data := s.Base(a, b)[0].Data
	if got := strings.Count(data, ":"); got != api.MaxDeep {
		t.Errorf("%d trees put together, not %d: %s", got, api.MaxDeep, data)
	}
	wantData(t, "as deep as MaxDeep", s.Deep(a, b, api.MaxDeep), data)
	wantData(t, "deeper than MaxDeep", s.Deep(a, b, api.MaxDeep+1), data)
	if one := s.Deep(a, b, api.MaxDeep-1)[0].Data; one == data {
		t.Errorf("one less deep than MaxDeep: %s", one)
	}
}
