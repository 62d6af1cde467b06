package seq

import (
	"iter"
	"math"
	"slices"
	"strconv"
	"sync"
	"testing"
)

func even(n int) bool { return n%2 == 0 }

func square(n int) int { return n * n }

func sum(a, n int) int { return a + n }

// watched tells 0 to 99, and notes each number that it is asked for.
func watched(asked *[]int) iter.Seq[int] {
	return func(yield func(int) bool) {
		for n := range 100 {
			*asked = append(*asked, n)
			if !yield(n) {
				return
			}
		}
	}
}

// want goes through s twice, with an early leave between, and holds both against what is wanted.
func want[T comparable](t *testing.T, name string, s iter.Seq[T], all ...T) {
	t.Helper()
	if s == nil {
		t.Errorf("%s: a nil sequence, over which no loop can go", name)
		return
	}
	for round := range 2 {
		var got []T
		for x := range s {
			got = append(got, x)
		}
		if !slices.Equal(got, all) {
			t.Errorf("%s, round %d: %v, not %v", name, round, got, all)
		}
		for x := range s {
			if len(all) == 0 || x != all[0] {
				t.Errorf("%s, round %d: begins with %v", name, round, x)
			}
			break
		}
	}
}

func TestOf(t *testing.T) {
	want(t, "Of", Of(3, 1, 2), 3, 1, 2)
	want(t, "Of texts", Of("b", "", "a", "b"), "b", "", "a", "b")
	want(t, "Of none", Of[int]())
	want(t, "Of a nil list", Of([]int(nil)...))
}

func TestOfTakesTheListAsItWas(t *testing.T) {
	room := []int{1, 2, 3, 4}
	s := Of(room[:3]...)
	room[0], room[3] = 9, 9
	want(t, "Of", s, 1, 2, 3)
	List(s)[1] = 9
	want(t, "Of, behind a changed answer", s, 1, 2, 3)
	if !slices.Equal(room, []int{9, 2, 3, 9}) {
		t.Errorf("the list that was handed in: %v", room)
	}
}

func TestMap(t *testing.T) {
	want(t, "Map", Map(Of(3, 1, 2), strconv.Itoa), "3", "1", "2")
	want(t, "Map of none", Map(Of[int](), square))
	want(t, "Map of nil", Map(nil, square))
	want(t, "Map by nil", Map[int, string](Of(1, 2), nil))
	want(t, "Map of nil by nil", Map[int, string](nil, nil))
}

func TestFilter(t *testing.T) {
	want(t, "Filter", Filter(Of(3, 4, 1, 2, 4), even), 4, 2, 4)
	want(t, "Filter to none", Filter(Of(1, 3), even))
	want(t, "Filter of none", Filter(Of[int](), even))
	want(t, "Filter of nil", Filter(nil, even))
	want(t, "Filter by nil", Filter(Of(1, 2), nil))
	want(t, "Filter of nil by nil", Filter[int](nil, nil))
}

func TestTake(t *testing.T) {
	s := Of(3, 1, 2)
	want(t, "Take 1", Take(s, 1), 3)
	want(t, "Take 2", Take(s, 2), 3, 1)
	want(t, "Take all", Take(s, 3), 3, 1, 2)
	want(t, "Take more than there are", Take(s, 4), 3, 1, 2)
	want(t, "Take most", Take(s, math.MaxInt), 3, 1, 2)
	want(t, "Take 0", Take(s, 0))
	want(t, "Take -1", Take(s, -1))
	want(t, "Take least", Take(s, math.MinInt))
	want(t, "Take of nil", Take[int](nil, 2))
	want(t, "Take of Take", Take(Take(s, 2), 3), 3, 1)
	want(t, "the chapter's example", Take(Filter(Count(0, 10), even), 3), 0, 2, 4)
}

func TestTakeDoesNotGoOn(t *testing.T) {
	var asked []int
	for n := range 3 {
		asked = nil
		List(Take(watched(&asked), n))
		if !slices.Equal(asked, List(Count(0, n))) {
			t.Errorf("Take %d asked for %v", n, asked)
		}
	}
	asked = nil
	List(Take(watched(&asked), -1))
	if len(asked) != 0 {
		t.Errorf("Take -1 asked for %v", asked)
	}
}

func TestJoin(t *testing.T) {
	s := Of(3, 1)
	want(t, "Join", Join(s, Of(7), s), 3, 1, 7, 3, 1)
	want(t, "Join with nil and empty ones", Join(nil, Of[int](), s, nil, Of(7), nil), 3, 1, 7)
	want(t, "Join of none", Join[int]())
	want(t, "Join of nil ones", Join[int](nil, nil))
	want(t, "Join left inside its second", Take(Join(s, Of(7, 8), s), 3), 3, 1, 7)
}

func TestJoinTakesTheListAsItWas(t *testing.T) {
	room := []iter.Seq[int]{Of(1), Of(2), Of(3)}
	s := Join(room[:2]...)
	room[0], room[1] = Of(8), nil
	want(t, "Join", s, 1, 2)
	want(t, "what stands behind the list", room[2], 3)
}

func TestList(t *testing.T) {
	if l := List[int](nil); len(l) != 0 {
		t.Errorf("List of nil: %v", l)
	}
	if l := List(Of[int]()); len(l) != 0 {
		t.Errorf("List of none: %v", l)
	}
	s := Of("b", "a", "b")
	one, other := List(s), List(s)
	one[0] = "z"
	if !slices.Equal(other, []string{"b", "a", "b"}) {
		t.Errorf("two lists share memory: %v", other)
	}
	if l := List(Count(0, 100000)); len(l) != 100000 || l[99999] != 99999 {
		t.Errorf("a long list: %d", len(l))
	}
}

func TestFold(t *testing.T) {
	note := func(a string, n int) string { return "(" + a + strconv.Itoa(n) + ")" }
	if a := Fold(Of(3, 1, 2), "a", note); a != "(((a3)1)2)" {
		t.Errorf("Fold: %q", a)
	}
	if a := Fold(Of[int](), "a", note); a != "a" {
		t.Errorf("Fold of none: %q", a)
	}
	if a := Fold(nil, "a", note); a != "a" {
		t.Errorf("Fold of nil: %q", a)
	}
	if a := Fold[int](nil, "a", nil); a != "a" {
		t.Errorf("Fold of nil by nil: %q", a)
	}
	if a := Fold[int](Of(1, 2), "a", nil); a != "a" {
		t.Errorf("Fold by nil: %q", a)
	}
}

func TestCount(t *testing.T) {
	want(t, "Count", Count(2, 5), 2, 3, 4)
	want(t, "Count below 0", Count(-2, 1), -2, -1, 0)
	want(t, "Count one", Count(5, 6), 5)
	want(t, "Count none", Count(5, 5))
	want(t, "Count down", Count(5, 2))
	want(t, "Count at the greatest", Count(math.MaxInt-2, math.MaxInt), math.MaxInt-2, math.MaxInt-1)
	want(t, "Count none at the greatest", Count(math.MaxInt, math.MaxInt))
	want(t, "Count at the least", Count(math.MinInt, math.MinInt+2), math.MinInt, math.MinInt+1)
	want(t, "Count none at the least", Count(math.MinInt, math.MinInt))
	want(t, "Count from the greatest to the least", Count(math.MaxInt, math.MinInt))
	want(t, "Count over all", Take(Count(math.MinInt, math.MaxInt), 2), math.MinInt, math.MinInt+1)
}

// noting answers functions for Filter and Map that note what they are asked: Map's with 100 added.
func noting(asked *[]int) (func(int) bool, func(int) int) {
	look := func(n int) bool {
		*asked = append(*asked, n)
		return even(n)
	}
	turn := func(n int) int {
		*asked = append(*asked, 100+n)
		return n
	}
	return look, turn
}

func TestFunctionsAreAskedOnceEachInOrder(t *testing.T) {
	var asked []int
	look, turn := noting(&asked)
	s := Map(Filter(Of(4, 1, 2), look), turn)
	Take(Join(s, s), 2)
	if len(asked) != 0 {
		t.Fatalf("asked ahead of a loop: %v", asked)
	}
	for round := range 2 {
		asked = nil
		List(s)
		if !slices.Equal(asked, []int{4, 104, 1, 2, 102}) {
			t.Errorf("round %d asked %v", round, asked)
		}
	}
	asked = nil
	Fold(s, 0, func(a, n int) int {
		asked = append(asked, 1000*a+n)
		return a + 1
	})
	if !slices.Equal(asked, []int{4, 104, 4, 1, 2, 102, 1002}) {
		t.Errorf("Fold asked %v", asked)
	}
}

func TestFunctionsAreNotAskedBehindALeave(t *testing.T) {
	var asked []int
	look, turn := noting(&asked)
	s := Map(Filter(Count(1, 99), look), turn)
	for name, left := range map[string]iter.Seq[int]{
		"s": s, "Take": Take(s, 9), "Join": Join(s, s), "Filter": Filter(s, even), "Map": Map(s, square),
	} {
		for round := range 2 {
			asked = nil
			rest := 2
			for range left {
				if rest--; rest == 0 {
					break
				}
			}
			if !slices.Equal(asked, []int{1, 2, 102, 3, 4, 104}) {
				t.Errorf("%s, round %d asked %v", name, round, asked)
			}
		}
	}
	asked = nil
	List(Take(s, 1))
	if !slices.Equal(asked, []int{1, 2, 102}) {
		t.Errorf("Take 1 asked %v", asked)
	}
}

func TestNothingIsAskedWhereNothingIsToBeTold(t *testing.T) {
	var asked []int
	s := watched(&asked)
	List(Map[int, int](s, nil))
	List(Filter(s, nil))
	Fold[int](s, 0, nil)
	List(Take(s, 0))
	if len(asked) != 0 {
		t.Errorf("asked for %v", asked)
	}
}

func TestLoopsInsideOneAnother(t *testing.T) {
	s := Take(Join(Map(Of(1, 2), square), Filter(Count(0, 9), even)), 3)
	var pairs []int
	for a := range s {
		for b := range s {
			pairs = append(pairs, 10*a+b)
		}
	}
	if !slices.Equal(pairs, []int{11, 14, 10, 41, 44, 40, 1, 4, 0}) {
		t.Errorf("pairs: %v", pairs)
	}
}

func TestSeveralGoroutinesAtOneTime(t *testing.T) {
	s := Take(Join(Of(1, 2), Filter(Map(Count(0, 99), square), even)), 20)
	alone := Fold(s, 0, sum)
	sums := make([]int, 8)
	var all sync.WaitGroup
	for i := range sums {
		all.Go(func() { sums[i] = Fold(s, 0, sum) })
	}
	all.Wait()
	for i, got := range sums {
		if got != alone {
			t.Errorf("goroutine %d: %d, not %d", i, got, alone)
		}
	}
}
