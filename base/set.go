package base

import "iter"

// set keeps numbers, each once.
type set map[int]struct{}

// put puts in what is told.
func (s set) put(numbers iter.Seq[int]) {
	for n := range numbers {
		s[n] = struct{}{}
	}
}

// has tells whether n is in it.
func (s set) has(n int) bool {
	_, there := s[n]
	return there
}
