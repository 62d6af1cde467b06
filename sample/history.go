package sample

import (
	"slices"
	"strconv"

	"cortege/api"
)

// Keeper is what commits are put into. It is an interface so that repo's own tests, too, may use this package.
type Keeper interface {
	Add(c api.Commit) (int, api.Errno)
}

// Fill puts the commits into an empty keeper, and tells whether they got the numbers from 1 on.
func Fill(k Keeper, cs ...api.Commit) bool {
	for i, c := range cs {
		if n, e := k.Add(c); n != i+1 || e != api.OK {
			return false
		}
	}
	return true
}

// Commits answers commits with these lists of parents, that have no files and are told apart by their notes.
func Commits(parents ...[]int) []api.Commit {
	var cs []api.Commit
	for i, ps := range parents {
		cs = append(cs, api.Commit{Parents: slices.Clone(ps), Note: "n" + strconv.Itoa(i+1)})
	}
	return cs
}

// Histories answers all ways in which n commits may have come of one another: the lists of parents of each.
func Histories(n int) [][][]int {
	all := [][][]int{nil}
	for i := range n {
		var longer [][][]int
		for _, history := range all {
			for _, ps := range mayBeParents(i + 1) {
				longer = append(longer, append(slices.Clone(history), ps))
			}
		}
		all = longer
	}
	return all
}

// mayBeParents answers all lists of parents that the commit of number n may have.
func mayBeParents(n int) [][]int {
	all := [][]int{nil}
	for p := 1; p < n; p++ {
		all = append(all, []int{p})
		for q := 1; q < p; q++ {
			all = append(all, []int{p, q}, []int{q, p})
		}
	}
	return all
}

// History answers one way in which n commits may have come of one another, as pick picks: of k it picks a number from 0 to k-1.
func History(n int, pick func(k int) int) [][]int {
	var history [][]int
	for i := range n {
		history = append(history, pickParents(i+1, pick))
	}
	return history
}

// pickParents picks parents of the commit of number n, out of a piece of those ahead of it that it picks too: near ones make deep histories.
func pickParents(n int, pick func(k int) int) []int {
	if n == 1 || pick(12) == 0 {
		return nil
	}
	reach := 1 + pick(n-1)
	p, q := n-1-pick(reach), n-1-pick(reach)
	if p == q {
		return []int{p}
	}
	return []int{p, q}
}
