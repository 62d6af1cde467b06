package dag

import "slices"

// stack keeps numbers, each once, the greatest on top.
type stack []int

// put puts those of the numbers in that are not there.
func (s *stack) put(numbers ...int) {
	for _, n := range numbers {
		if at, there := slices.BinarySearch(*s, n); !there {
			*s = slices.Insert(*s, at, n)
		}
	}
}

// pop takes the greatest number away, and answers it. The stack must not be empty.
func (s *stack) pop() int {
	last := len(*s) - 1
	n := (*s)[last]
	*s = (*s)[:last]
	return n
}
