package sample

import (
	"iter"
	"math"
	"slices"
	"strconv"

	"cortege/api"
)

// Keeper is what commits are put into. It is an interface so that repo's own tests, too, may use this package.
type Keeper interface {
	Add(c api.Commit) (int, api.Errno)
}

// Fill puts the commits into an empty keeper, and tells whether they got the numbers from 1 on.
func Fill(k Keeper, cs ...api.Commit) bool {
	for i, c := range cs {
		if n, e := k.Add(c); n != i+1 || e != api.OK {
			return false
		}
	}
	return true
}

// Grown answers the empty keeper, with commits put in that have these lists of parents.
func Grown[K Keeper](k K, parents ...[]int) K {
	return Kept(k, Commits(parents...)...)
}

// Kept answers the empty keeper, with these commits put in, each under a note of its own, so that none is like another one.
func Kept[K Keeper](k K, cs ...api.Commit) K {
	cs = slices.Clone(cs)
	for i := range cs {
		cs[i].Note = note(i + 1)
	}
	if !Fill(k, cs...) {
		panic("there are commits that can't be put in")
	}
	return k
}

// Planted answers the empty keeper, with the commits of a history put in, each with its tree.
func Planted[K Keeper](k K, history [][]int, trees [][]api.File) K {
	var cs []api.Commit
	for i, ps := range history {
		cs = append(cs, On(trees[i], ps...))
	}
	return Kept(k, cs...)
}

// note answers the note of the commit of number n.
func note(n int) string { return "n" + strconv.Itoa(n) }

// Told answers a text of all commits that are told, so that two times can be held against one another.
func Told(all iter.Seq2[int, api.Commit]) string {
	text := ""
	for n, c := range all {
		text += " " + strconv.Itoa(n) + ":"
		for _, p := range c.Parents {
			text += " " + strconv.Itoa(p)
		}
		for _, f := range c.Tree {
			text += " " + strconv.Quote(f.Path) + " " + strconv.Quote(f.Data)
		}
		text += " " + strconv.Quote(c.Note)
	}
	return text
}

// On answers a commit of these files and these parents.
func On(files []api.File, parents ...int) api.Commit {
	return api.Commit{Parents: parents, Tree: files}
}

// Commits answers commits with these lists of parents, that have no files and are told apart by their notes.
func Commits(parents ...[]int) []api.Commit {
	var cs []api.Commit
	for i, ps := range parents {
		cs = append(cs, api.Commit{Parents: slices.Clone(ps), Note: note(i + 1)})
	}
	return cs
}

// Line answers the history of n commits, of which each came of the one before it.
func Line(n int) [][]int {
	var history [][]int
	for i := range n {
		history = append(history, slices.Repeat([]int{i}, min(i, 1)))
	}
	return history
}

// Ladder answers the history of n commits, of which each came of the two before it, the nearer one first if that is asked.
func Ladder(n int, nearFirst bool) [][]int {
	history := Line(min(n, 2))
	for i := 2; i < n; i++ {
		ps := []int{i - 1, i}
		if nearFirst {
			slices.Reverse(ps)
		}
		history = append(history, ps)
	}
	return history
}

// Lattice answers the history of n commits in two columns: each, but the first two, is a merge of the two of the row ahead of it, and one of each row has them in turned order.
func Lattice(n int) [][]int {
	history := make([][]int, min(n, 2))
	for i := 2; i < n; i++ {
		ahead := i - i%2
		ps := []int{ahead - 1, ahead}
		if i%2 == 1 {
			slices.Reverse(ps)
		}
		history = append(history, ps)
	}
	return history
}

// Full answers histories of n commits, of each kind one.
func Full(n int, pick func(k int) int) [][][]int {
	return [][][]int{Line(n), Ladder(n, true), Ladder(n, false), Lattice(n), History(n, pick)}
}

// Taking answers the history with a line of merges behind it that takes in the commits of these numbers, one by one.
func Taking(history [][]int, numbers ...int) [][]int {
	history, last := slices.Clone(history), numbers[0]
	for _, n := range numbers[1:] {
		history = append(history, []int{last, n})
		last = len(history)
	}
	return history
}

// Crossed answers a history of n commits, two at least, that pick picks, with two lines of merges behind it that each take in some of these, and the last ones of both lines: these often have many best ones in common.
func Crossed(n int, pick func(k int) int) (history [][]int, a int, b int) {
	history = History(n, pick)
	history = Taking(history, some(n, pick)...)
	a = len(history)
	history = Taking(history, some(n, pick)...)
	return history, a, len(history)
}

// Rows answers rows of merges that cross, for as long as there is room: each row has so many lines of merges, and each line takes in all last ones of the row ahead, in any order, as pick picks. It tells the last ones of the last row, too.
func Rows(wide, room int, pick func(k int) int) (history [][]int, last []int) {
	history = make([][]int, wide)
	for i := range wide {
		last = append(last, i+1)
	}
	for len(history)+wide*(wide-1) <= room {
		var next []int
		for range wide {
			history = Taking(history, shuffled(last, pick)...)
			next = append(next, len(history))
		}
		last = next
	}
	return history, last
}

// some answers two of the numbers from 1 to n, or more, in any order, as pick picks.
func some(n int, pick func(k int) int) []int {
	all := make([]int, n)
	for i := range all {
		all[i] = i + 1
	}
	return shuffled(all, pick)[:2+pick(n-1)]
}

// shuffled answers the numbers in any order, as pick picks.
func shuffled(numbers []int, pick func(k int) int) []int {
	numbers = slices.Clone(numbers)
	for i := range numbers {
		j := i + pick(len(numbers)-i)
		numbers[i], numbers[j] = numbers[j], numbers[i]
	}
	return numbers
}

// Numbers answers the numbers of n commits, and others of which there is none.
func Numbers(n int) []int {
	all := []int{-1, -n, n + 1, n + 60, math.MinInt, math.MinInt + 1, math.MaxInt - 1, math.MaxInt}
	for i := range n + 1 {
		all = append(all, i)
	}
	return all
}

// Ahead answers the commit n of a history and all that it came of, by falling numbers; none of one that is not there.
func Ahead(history [][]int, n int) []int {
	if n < 1 || n > len(history) {
		return nil
	}
	is := make([]bool, n+1)
	is[n] = true
	var all []int
	for m := n; m > 0; m-- {
		if !is[m] {
			continue
		}
		all = append(all, m)
		for _, p := range history[m-1] {
			is[p] = true
		}
	}
	return all
}

// Histories answers all ways in which n commits may have come of one another: the lists of parents of each.
func Histories(n int) [][][]int {
	all := [][][]int{nil}
	for i := range n {
		var longer [][][]int
		for _, history := range all {
			for _, ps := range mayBeParents(i + 1) {
				longer = append(longer, append(slices.Clone(history), ps))
			}
		}
		all = longer
	}
	return all
}

// mayBeParents answers all lists of parents that the commit of number n may have.
func mayBeParents(n int) [][]int {
	all := [][]int{nil}
	for p := 1; p < n; p++ {
		all = append(all, []int{p})
		for q := 1; q < p; q++ {
			all = append(all, []int{p, q}, []int{q, p})
		}
	}
	return all
}

// History answers one way in which n commits may have come of one another, as pick picks: of k it picks a number from 0 to k-1.
func History(n int, pick func(k int) int) [][]int {
	var history [][]int
	for i := range n {
		history = append(history, pickParents(i+1, pick))
	}
	return history
}

// pickParents picks parents of the commit of number n, out of a piece of those ahead of it that it picks too: near ones make deep histories.
func pickParents(n int, pick func(k int) int) []int {
	if n == 1 || pick(12) == 0 {
		return nil
	}
	reach := 1 + pick(n-1)
	p, q := n-1-pick(reach), n-1-pick(reach)
	if p == q {
		return []int{p}
	}
	return []int{p, q}
}
