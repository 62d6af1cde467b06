package sample

import "cortege/api"

// Bases answers, by the words, the tree that two commits of a history have in common. What it was asked it keeps.
type Bases struct {
	Came
	trees [][]api.File
	join  func(base, a, b []api.File) []api.File
	known map[[3]int][]api.File
}

// BasesOf answers it of a history with trees; three of these are put together by join, which is handed in so that join's own tests, too, may use this package.
func BasesOf(history [][]int, trees [][]api.File, join func(base, a, b []api.File) []api.File) *Bases {
	return &Bases{CameOf(history), trees, join, map[[3]int][]api.File{}}
}

// Base answers the tree of two.
func (s *Bases) Base(a, b int) []api.File { return s.Deep(a, b, api.MaxDeep) }

// Deep answers it, too, with bases in one another no deeper than that.
func (s *Bases) Deep(a, b, deep int) []api.File {
	best := s.Best(a, b)
	if deep <= 0 || len(best) == 0 {
		return nil
	}
	asked := [3]int{min(a, b), max(a, b), min(deep, api.MaxDeep)}
	if files, ok := s.known[asked]; ok {
		return files
	}
	files := s.trees[best[0]-1]
	for i := 1; i < api.MaxBases && i < len(best); i++ {
		files = s.join(s.Deep(best[0], best[i], asked[2]-1), files, s.trees[best[i]-1])
	}
	s.known[asked] = files
	return files
}
