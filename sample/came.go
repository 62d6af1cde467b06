package sample

import "slices"

// Came tells of each two commits of a history, by numbers, whether the one is the other, or came of it: Came[b][a] of b that came of a.
type Came [][]bool

// CameOf answers it of a history.
func CameOf(history [][]int) Came {
	came := make(Came, len(history)+1)
	for n := range came {
		came[n] = make([]bool, len(came))
		for _, m := range Ahead(history, n) {
			came[n][m] = true
		}
	}
	return came
}

// Common answers the commits that both are, or came of, rising; none, if one is not there.
func (c Came) Common(a, b int) []int {
	var all []int
	for n := range c {
		if a > 0 && b > 0 && a < len(c) && b < len(c) && c[a][n] && c[b][n] {
			all = append(all, n)
		}
	}
	return all
}

// Best answers those of Common of which no other one of them came, rising.
func (c Came) Best(a, b int) []int {
	common := c.Common(a, b)
	var all []int
	for _, n := range common {
		if !slices.ContainsFunc(common, func(m int) bool { return m != n && c[m][n] }) {
			all = append(all, n)
		}
	}
	return all
}
