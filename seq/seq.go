// Package seq makes sequences of anything, and goes through them.
// Its chapter: shared/doc/01-seq.md.
package seq

import (
	"iter"
	"slices"
)

// none stands in wherever nothing is to be told: a loop over a nil function would panic.
func none[T any](yield func(T) bool) {}

// Of answers the sequence of xs as they are now: a caller may go on with its list.
func Of[T any](xs ...T) iter.Seq[T] {
	kept := slices.Clone(xs)
	return func(yield func(T) bool) {
		for _, x := range kept {
			if !yield(x) {
				return
			}
		}
	}
}

// Map answers the sequence of f of each of s; it is empty if f is nil.
func Map[T any, U any](s iter.Seq[T], f func(T) U) iter.Seq[U] {
	if s == nil || f == nil {
		return none[U]
	}
	return func(yield func(U) bool) {
		for x := range s {
			if !yield(f(x)) {
				return
			}
		}
	}
}

// Filter answers the sequence of those of s of which f is true; it is empty if f is nil.
func Filter[T any](s iter.Seq[T], f func(T) bool) iter.Seq[T] {
	if s == nil || f == nil {
		return none[T]
	}
	return func(yield func(T) bool) {
		for x := range s {
			if f(x) && !yield(x) {
				return
			}
		}
	}
}

// Take answers the sequence of the first n of s.
func Take[T any](s iter.Seq[T], n int) iter.Seq[T] {
	if s == nil || n < 1 {
		return none[T]
	}
	return func(yield func(T) bool) {
		left := n
		for x := range s {
			left--
			// Leaving here, at the last one, keeps s from working out one more that nobody is told.
			if !yield(x) || left == 0 {
				return
			}
		}
	}
}

// Join answers the sequence of all of ss, one behind the other; nil ones are skipped.
func Join[T any](ss ...iter.Seq[T]) iter.Seq[T] {
	kept := slices.Clone(ss)
	return func(yield func(T) bool) {
		for _, s := range kept {
			if s == nil {
				continue
			}
			for x := range s {
				if !yield(x) {
					return
				}
			}
		}
	}
}

// List answers all of s, as a list of its own.
func List[T any](s iter.Seq[T]) []T {
	if s == nil {
		return nil
	}
	var all []T
	for x := range s {
		all = append(all, x)
	}
	return all
}

// Fold answers what a comes to when f takes in each of s; it is a if f is nil.
func Fold[T any, A any](s iter.Seq[T], a A, f func(A, T) A) A {
	if s == nil || f == nil {
		return a
	}
	for x := range s {
		a = f(a, x)
	}
	return a
}

// Count answers the sequence of the numbers from lo on that are below hi.
func Count(lo int, hi int) iter.Seq[int] {
	return func(yield func(int) bool) {
		// n ends at hi at the latest, so that it doesn't wrap round even if hi is the greatest int.
		for n := lo; n < hi; n++ {
			if !yield(n) {
				return
			}
		}
	}
}
