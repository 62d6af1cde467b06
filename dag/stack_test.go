package dag

import (
	"slices"
	"testing"
)

func TestStack(t *testing.T) {
	s := stack{}
	s.put()
	s.put(5, 2, 9, 2, 5)
	s.put(9, 1, 7)
	var got []int
	for len(s) > 0 {
		got = append(got, s.pop())
		if len(got) == 2 {
			s.put(6, 5, 6)
		}
	}
	if !slices.Equal(got, []int{9, 7, 6, 5, 2, 1}) {
		t.Errorf("pop: %v", got)
	}
}
