package diff

import (
	"math"
	"math/rand"
	"slices"
	"strings"
	"sync"
	"testing"

	"cortege/api"
	"cortege/sample"
)

// rows are steps, told shortly: Same, Out and In of each.
type rows [][3]int

func (r rows) steps() []api.Step {
	var steps []api.Step
	for _, x := range r {
		steps = append(steps, api.Step{Same: x[0], Out: x[1], In: x[2]})
	}
	return steps
}

// rowsOf answers steps as rows.
func rowsOf(steps []api.Step) rows {
	var r rows
	for _, s := range steps {
		r = append(r, [3]int{s.Same, s.Out, s.In})
	}
	return r
}

// lists are those that the chapter's edges name, a byte an element, each with its pairs and steps.
var lists = []struct {
	what  string
	a, b  string
	pairs [][2]int
	steps rows
}{
	{"both empty", "", "", nil, nil},
	{"an empty b", "abc", "", nil, rows{{0, 3, 0}}},
	{"an empty a", "", "ab", nil, rows{{0, 0, 2}}},
	{"one and itself", "a", "a", [][2]int{{0, 0}}, rows{{1, 0, 0}}},
	{"a list and itself", "abca", "abca", [][2]int{{0, 0}, {1, 1}, {2, 2}, {3, 3}}, rows{{4, 0, 0}}},
	{"like ones alone, and itself", "aaa", "aaa", [][2]int{{0, 0}, {1, 1}, {2, 2}}, rows{{3, 0, 0}}},
	{"nothing in common", "abc", "xy", nil, rows{{0, 3, 2}}},
	{"the chapter's example", "abc", "axc", [][2]int{{0, 0}, {2, 2}}, rows{{1, 1, 1}, {1, 0, 0}}},
	{"more in front of a", "xyab", "ab", [][2]int{{2, 0}, {3, 1}}, rows{{0, 2, 0}, {2, 0, 0}}},
	{"more in front of b", "ab", "xyab", [][2]int{{0, 2}, {1, 3}}, rows{{0, 0, 2}, {2, 0, 0}}},
	{"others in front", "xab", "yzab", [][2]int{{1, 2}, {2, 3}}, rows{{0, 1, 2}, {2, 0, 0}}},
	{"more behind a", "abx", "ab", [][2]int{{0, 0}, {1, 1}}, rows{{2, 1, 0}}},
	{"more behind b", "ab", "abxy", [][2]int{{0, 0}, {1, 1}}, rows{{2, 0, 2}}},
	{"others behind", "abx", "abyz", [][2]int{{0, 0}, {1, 1}}, rows{{2, 1, 2}}},
	{"one left out within", "abc", "ac", [][2]int{{0, 0}, {2, 1}}, rows{{1, 1, 0}, {1, 0, 0}}},
	{"one put in within", "ac", "abc", [][2]int{{0, 0}, {1, 2}}, rows{{1, 0, 1}, {1, 0, 0}}},
	{"two that change places: a goes on", "ab", "ba", [][2]int{{1, 0}}, rows{{0, 1, 0}, {1, 0, 1}}},
	{"three turned round: a goes on to the end", "abc", "cba", [][2]int{{2, 0}}, rows{{0, 2, 0}, {1, 0, 2}}},
	{"like ones in a: the first", "aab", "ab", [][2]int{{0, 0}, {2, 1}}, rows{{1, 1, 0}, {1, 0, 0}}},
	{"like ones in b: the first", "ab", "aab", [][2]int{{0, 0}, {1, 2}}, rows{{1, 0, 1}, {1, 0, 0}}},
	{"fewer like ones in b", "aaaa", "aa", [][2]int{{0, 0}, {1, 1}}, rows{{2, 2, 0}}},
	{"fewer like ones in a", "aa", "aaaa", [][2]int{{0, 0}, {1, 1}}, rows{{2, 0, 2}}},
	{"b goes on, as a must not lose", "abx", "yab", [][2]int{{0, 1}, {1, 2}}, rows{{0, 0, 1}, {2, 1, 0}}},
	{"several ways of the same length", "abcabba", "cbabac", [][2]int{{2, 0}, {4, 1}, {5, 3}, {6, 4}}, rows{{0, 2, 0}, {1, 1, 0}, {1, 0, 1}, {2, 0, 1}}},
	{"blocks that change places", "abxy", "xyab", [][2]int{{2, 0}, {3, 1}}, rows{{0, 2, 0}, {2, 0, 2}}},
	{"pairs that follow in a alone", "ab", "xaybz", [][2]int{{0, 1}, {1, 3}}, rows{{0, 0, 1}, {1, 0, 1}, {1, 0, 1}}},
	{"pairs that follow in b alone", "xaybz", "ab", [][2]int{{1, 0}, {3, 1}}, rows{{0, 1, 0}, {1, 1, 0}, {1, 1, 0}}},
}

// texts answers a list of texts, one for each byte of s, numbers one of numbers.
func texts(s string) []string { return strings.Split(s, "") }

func numbers(s string) []int {
	all := make([]int, 0, len(s))
	for _, c := range []byte(s) {
		all = append(all, -int(c))
	}
	return all
}

// spread answers n numbers, of which no two are alike.
func spread(n int, from int) []int {
	all := make([]int, n)
	for i := range all {
		all[i] = from + i
	}
	return all
}

// wantTold holds what is told of a and b against what is to be.
func wantTold[T comparable](t *testing.T, what string, a, b []T, pairs [][2]int, steps rows) {
	t.Helper()
	if got := Length(a, b); got != len(pairs) {
		t.Errorf("Length of %s: %d, not %d", what, got, len(pairs))
	}
	if got := Pairs(a, b); !slices.Equal(got, pairs) {
		t.Errorf("Pairs of %s: %v, not %v", what, got, pairs)
	}
	if got := rowsOf(Steps(a, b)); !slices.Equal(got, steps) {
		t.Errorf("Steps of %s: %v, not %v", what, got, steps)
	}
	if got, ok := Apply(a, b, steps.steps()); !ok || !slices.Equal(got, b) {
		t.Errorf("Apply of %s: %v, %v", what, got, ok)
	}
}

func TestLists(t *testing.T) {
	for _, c := range lists {
		wantTold(t, c.what+", texts", texts(c.a), texts(c.b), c.pairs, c.steps)
		wantTold(t, c.what+", numbers", numbers(c.a), numbers(c.b), c.pairs, c.steps)
		wantTold(t, c.what+", bytes", []byte(c.a), []byte(c.b), c.pairs, c.steps)
	}
}

func TestNilListsAreEmptyOnes(t *testing.T) {
	wantTold[int](t, "nil and nil", nil, nil, nil, nil)
	wantTold(t, "nil and empty", nil, []int{}, nil, nil)
	wantTold(t, "one and nil", []int{7}, nil, nil, rows{{0, 1, 0}})
	wantTold(t, "nil and one", nil, []int{7}, nil, rows{{0, 0, 1}})
}

// longest works Length out from its words alone: one of the ends is left out, or both are taken.
func longest(a, b []byte) int {
	if len(a) == 0 || len(b) == 0 {
		return 0
	}
	n := max(longest(a[1:], b), longest(a, b[1:]))
	if a[0] == b[0] {
		n = max(n, 1+longest(a[1:], b[1:]))
	}
	return n
}

// walked works Pairs out from its words alone, from the places i and j on.
func walked(a, b []byte, i, j int) [][2]int {
	if i == len(a) || j == len(b) {
		return nil
	}
	if a[i] == b[j] {
		return append([][2]int{{i, j}}, walked(a, b, i+1, j+1)...)
	}
	if longest(a[i+1:], b[j:]) < longest(a[i:], b[j+1:]) {
		return walked(a, b, i, j+1)
	}
	return walked(a, b, i+1, j)
}

// wantSteps holds what P4.1 says of steps against the pairs: each pair once, in order, in runs.
func wantSteps(t *testing.T, a, b []byte, pairs [][2]int, steps []api.Step) {
	t.Helper()
	var told [][2]int
	i, j := 0, 0
	for k, s := range steps {
		if s.Same < 0 || s.Out < 0 || s.In < 0 || k > 0 && s.Same == 0 || k < len(steps)-1 && s.Out+s.In == 0 {
			t.Errorf("Steps of %q and %q: %v", a, b, steps)
		}
		for range s.Same {
			told = append(told, [2]int{i, j})
			i, j = i+1, j+1
		}
		i, j = i+s.Out, j+s.In
	}
	if i != len(a) || j != len(b) || !slices.Equal(told, pairs) || (len(a)+len(b) == 0) != (len(steps) == 0) {
		t.Errorf("Steps of %q and %q: %v, of the pairs %v", a, b, steps, pairs)
	}
}

// all answers all texts of at most n of the bytes of letters.
func all(letters string, n int) []string {
	found := []string{""}
	for from := 0; n > 0; n-- {
		to := len(found)
		for _, s := range found[from:to] {
			for _, c := range []byte(letters) {
				found = append(found, s+string(c))
			}
		}
		from = to
	}
	return found
}

func TestAllShortLists(t *testing.T) {
	short := append(all("ab", 4), all("abc", 3)...)
	for _, x := range short {
		for _, y := range short {
			a, b := []byte(x), []byte(y)
			pairs := walked(a, b, 0, 0)
			if got := longest(a, b); got != Length(a, b) || got != len(pairs) {
				t.Errorf("Length of %q and %q: %d, not %d", x, y, Length(a, b), got)
			}
			wantTold(t, x+" and "+y, a, b, pairs, rowsOf(Steps(a, b)))
			wantSteps(t, a, b, pairs, Steps(a, b))
		}
	}
}

// random answers a list of fewer than n of so many letters.
func random(source *rand.Rand, n, letters int) []byte {
	all := make([]byte, source.Intn(n))
	for i := range all {
		all[i] = 'a' + byte(source.Intn(letters))
	}
	return all
}

func TestRandomLists(t *testing.T) {
	source := rand.New(rand.NewSource(4))
	for round := range 600 {
		n := 8
		if round%10 == 0 {
			n = 120
		}
		letters := 1 + source.Intn(5)
		a, b := random(source, n, letters), random(source, n, letters)
		pairs := Pairs(a, b)
		// What goes by words alone takes too long where lists are long.
		if n == 8 {
			pairs = walked(a, b, 0, 0)
		}
		wantTold(t, string(a)+" and "+string(b), a, b, pairs, rowsOf(Steps(a, b)))
		wantSteps(t, a, b, pairs, Steps(a, b))
		if Length(a, b) != Length(b, a) {
			t.Errorf("Length of %q and %q hangs on their order", a, b)
		}
	}
}

func TestApply(t *testing.T) {
	a, b := []int{1, 2, 3}, []int{1, 3, 4}
	cases := []struct {
		what  string
		steps rows
		ok    bool
	}{
		{"those of Steps", rows{{1, 1, 0}, {1, 0, 1}}, true},
		{"all is left out and put in", rows{{0, 3, 3}}, true},
		{"left out ahead of what is put in", rows{{0, 3, 0}, {0, 0, 3}}, true},
		{"put in ahead of what is left out", rows{{0, 0, 3}, {0, 3, 0}}, true},
		{"fewer taken than may be", rows{{1, 2, 2}}, true},
		{"one by one", rows{{1, 0, 0}, {0, 1, 0}, {1, 0, 0}, {0, 0, 1}}, true},
		{"steps of nothing between", rows{{}, {1, 1, 0}, {}, {}, {1, 0, 1}, {}}, true},
		{"none at all", nil, false},
		{"an empty list of them", rows{}, false},
		{"steps of nothing alone", rows{{}, {}}, false},
		{"an end ahead of a's", rows{{1, 1, 3}}, false},
		{"an end ahead of b's", rows{{1, 1, 0}, {1, 0, 0}}, false},
		{"an end ahead of both", rows{{1, 0, 0}}, false},
		{"one taken too many", rows{{1, 1, 0}, {2, 0, 0}}, false},
		{"one left out too many", rows{{1, 1, 0}, {1, 1, 1}}, false},
		{"one put in too many", rows{{1, 1, 0}, {1, 0, 2}}, false},
		{"one taken behind both ends", rows{{0, 3, 3}, {1, 0, 0}}, false},
		{"one left out behind a's end", rows{{0, 3, 3}, {0, 1, 0}}, false},
		{"one put in behind b's end", rows{{0, 3, 3}, {0, 0, 1}}, false},
		{"taken behind a's end alone", rows{{0, 3, 2}, {1, 0, 0}}, false},
		{"taken behind b's end alone", rows{{0, 2, 3}, {1, 0, 0}}, false},
		{"one taken that does not stand in b", rows{{2, 1, 1}}, false},
		{"one taken that stands in b elsewhere", rows{{1, 1, 1}, {1, 0, 0}}, false},
		{"Same below 0", rows{{-1, 3, 3}}, false},
		{"Out below 0", rows{{1, -1, 2}}, false},
		{"In below 0", rows{{1, 2, -1}}, false},
		{"Same below 0, made good again", rows{{1, 0, 0}, {-1, 0, 0}, {1, 2, 2}}, false},
		{"Out below 0, made good again", rows{{1, 1, 0}, {0, -1, 0}, {0, 2, 2}}, false},
		{"In below 0, made good again", rows{{1, 0, 1}, {0, 0, -1}, {0, 2, 2}}, false},
		{"a number below 0 behind all that is to be done", rows{{0, 3, 3}, {0, 0, -1}}, false},
		{"the greatest Same", rows{{math.MaxInt, 0, 0}}, false},
		{"the greatest Out", rows{{1, math.MaxInt, 2}}, false},
		{"the greatest In", rows{{1, 2, math.MaxInt}}, false},
		{"the greatest all", rows{{math.MaxInt, math.MaxInt, math.MaxInt}}, false},
		{"the least all", rows{{math.MinInt, math.MinInt, math.MinInt}}, false},
		{"sums that wrap round to the ends", rows{{1, 2, 2}, {0, math.MaxInt, math.MaxInt}, {0, math.MaxInt, math.MaxInt}, {0, 2, 2}}, false},
	}
	for _, c := range cases {
		got, ok := Apply(a, b, c.steps.steps())
		if ok != c.ok || ok && !slices.Equal(got, b) || !ok && len(got) != 0 {
			t.Errorf("Apply by %s: %v, %v", c.what, got, ok)
		}
	}
}

func TestApplyOfEmptyLists(t *testing.T) {
	for _, c := range []struct {
		what  string
		a, b  []int
		steps rows
		ok    bool
	}{
		{"nothing by nothing", nil, nil, nil, true},
		{"nothing by a step of nothing", []int{}, nil, rows{{}}, true},
		{"nothing by one taken", nil, nil, rows{{1, 0, 0}}, false},
		{"nothing by one left out", nil, nil, rows{{0, 1, 0}}, false},
		{"nothing by one put in", nil, nil, rows{{0, 0, 1}}, false},
		{"an empty b by what leaves all out", []int{1, 2}, nil, rows{{0, 2, 0}}, true},
		{"an empty b by nothing", []int{1, 2}, nil, nil, false},
		{"an empty a by what puts all in", nil, []int{1, 2}, rows{{0, 0, 2}}, true},
		{"an empty a by nothing", nil, []int{1, 2}, nil, false},
	} {
		got, ok := Apply(c.a, c.b, c.steps.steps())
		if ok != c.ok || ok && !slices.Equal(got, c.b) || !ok && len(got) != 0 {
			t.Errorf("Apply of %s: %v, %v", c.what, got, ok)
		}
	}
}

// zeros are alike, yet can be told apart.
func zeros() (float64, float64) { return 0, math.Copysign(0, -1) }

func TestApplyTakesOfAAndPutsInOfB(t *testing.T) {
	plus, minus := zeros()
	a, b := []float64{plus, plus}, []float64{minus, minus}
	got, ok := Apply(a, b, rows{{1, 1, 1}}.steps())
	if !ok || len(got) != 2 || math.Signbit(got[0]) || !math.Signbit(got[1]) {
		t.Errorf("Apply: %v, %v", got, ok)
	}
}

func TestListsAtTheLimit(t *testing.T) {
	long, other := spread(400, 0), spread(400, 1000)
	own := make([][2]int, 400)
	for i := range own {
		own[i] = [2]int{i, i}
	}
	wantTold(t, "400 and themselves", long, slices.Clone(long), own, rows{{400, 0, 0}})
	wantTold(t, "400 and 400 others", long, other, nil, rows{{0, 400, 400}})
	wantTold(t, "400 and none", long, nil, nil, rows{{0, 400, 0}})
	wantTold(t, "none and 400", nil, long, nil, rows{{0, 0, 400}})
	wantTold(t, "400 like ones and themselves", make([]int, 400), make([]int, 400), own, rows{{400, 0, 0}})
	turned := slices.Clone(long)
	slices.Reverse(turned)
	wantTold(t, "400 turned round", long, turned, [][2]int{{399, 0}}, rows{{0, 399, 0}, {1, 0, 399}})
}

func TestListsBeyondTheLimit(t *testing.T) {
	long, much := spread(400, 0), spread(401, 0)
	for _, c := range []struct {
		what  string
		a, b  []int
		steps rows
	}{
		{"401 and 400", much, long, rows{{400, 1, 0}}},
		{"400 and 401", long, much, rows{{400, 0, 1}}},
		{"401 and 401", much, much, rows{{401, 0, 0}}},
		{"401 and none", much, nil, rows{{0, 401, 0}}},
		{"none and 401", nil, much, rows{{0, 0, 401}}},
		{"100000 and one", spread(100000, 0), long[:1], rows{{1, 99999, 0}}},
	} {
		if n, pairs, steps := Length(c.a, c.b), Pairs(c.a, c.b), Steps(c.a, c.b); n != 0 || len(pairs) != 0 || len(steps) != 0 {
			t.Errorf("of %s: %d, %v, %v", c.what, n, pairs, steps)
		}
		if got, ok := Apply(c.a, c.b, c.steps.steps()); ok || len(got) != 0 {
			t.Errorf("Apply of %s: %v, %v", c.what, got, ok)
		}
	}
}

func TestManySteps(t *testing.T) {
	steps := make([]api.Step, 100000)
	steps[50000] = api.Step{Same: 1, Out: 1, In: 1}
	if got, ok := Apply([]int{1, 2}, []int{1, 3}, steps); !ok || !slices.Equal(got, []int{1, 3}) {
		t.Errorf("Apply by many steps of nothing: %v, %v", got, ok)
	}
}

func TestWhatIsHandedInStays(t *testing.T) {
	roomA, roomB := []int{1, 2, 3, 8, 8}, []int{1, 4, 3, 5, 9, 9}
	room := rows{{1, 1, 1}, {1, 0, 1}, {7, 7, 7}}.steps()
	a, b, steps := roomA[:3], roomB[:4], room[:2]
	Length(a, b)
	Pairs(a, b)
	Steps(a, b)
	if got, ok := Apply(a, b, steps); !ok || !slices.Equal(got, b) {
		t.Errorf("Apply: %v, %v", got, ok)
	}
	if _, ok := Apply(a, b, room); ok {
		t.Error("Apply by steps that go too far")
	}
	if !slices.Equal(roomA, []int{1, 2, 3, 8, 8}) || !slices.Equal(roomB, []int{1, 4, 3, 5, 9, 9}) {
		t.Errorf("the lists that were handed in: %v, %v", roomA, roomB)
	}
	if !slices.Equal(rowsOf(room), rows{{1, 1, 1}, {1, 0, 1}, {7, 7, 7}}) {
		t.Errorf("the steps that were handed in: %v", room)
	}
}

func TestAnswersShareNothing(t *testing.T) {
	a, b := []int{1, 2, 3}, []int{1, 4, 3, 5}
	pairs, steps := Pairs(a, b), Steps(a, b)
	sample.Spoil(Pairs(a, b), [2]int{9, 9})
	sample.Spoil(Steps(a, b), api.Step{Same: 9})
	if !slices.Equal(pairs, [][2]int{{0, 0}, {2, 2}}) || !slices.Equal(rowsOf(steps), rows{{1, 1, 1}, {1, 0, 1}}) {
		t.Errorf("behind changed answers: %v, %v", pairs, steps)
	}
	first, _ := Apply(a, b, steps)
	for _, by := range []rows{rowsOf(steps), {{0, 3, 4}}, {{1, 2, 3}}} {
		second, ok := Apply(a, b, by.steps())
		if !ok {
			t.Errorf("Apply by %v", by)
		}
		sample.Spoil(second, 9)
	}
	own, _ := Apply(a, a, rows{{3, 0, 0}}.steps())
	sample.Spoil(own, 9)
	if !slices.Equal(first, b) || !slices.Equal(a, []int{1, 2, 3}) || !slices.Equal(b, []int{1, 4, 3, 5}) {
		t.Errorf("behind a changed answer: %v, of %v and %v", first, a, b)
	}
	a[0], b[1] = 9, 9
	if !slices.Equal(first, []int{1, 4, 3, 5}) {
		t.Errorf("behind changed lists: %v", first)
	}
}

func TestOneListAsBoth(t *testing.T) {
	room := []int{5, 6, 5, 6, 5}
	wantTold(t, "pieces of one list", room[:3], room[2:], [][2]int{{0, 0}, {1, 1}, {2, 2}}, rows{{3, 0, 0}})
	wantTold(t, "pieces of one list, shifted", room[:4], room[1:], [][2]int{{1, 0}, {2, 1}, {3, 2}}, rows{{0, 1, 0}, {3, 0, 1}})
	if !slices.Equal(room, []int{5, 6, 5, 6, 5}) {
		t.Errorf("the list: %v", room)
	}
}

func TestWhatIsNotLikeItself(t *testing.T) {
	nan := math.NaN()
	a := []float64{1, nan, 2}
	if n, pairs, steps := Length(a, a), Pairs(a, a), Steps(a, a); n != 2 || !slices.Equal(pairs, [][2]int{{0, 0}, {2, 2}}) || !slices.Equal(rowsOf(steps), rows{{1, 1, 1}, {1, 0, 0}}) {
		t.Errorf("a number that is none: %d, %v, %v", n, pairs, steps)
	}
	if got, ok := Apply(a, a, Steps(a, a)); !ok || len(got) != 3 || got[1] == got[1] {
		t.Errorf("Apply: %v, %v", got, ok)
	}
	if got, ok := Apply(a, a, rows{{3, 0, 0}}.steps()); ok || len(got) != 0 {
		t.Errorf("Apply by steps that take it: %v, %v", got, ok)
	}
}

func TestWhatCannotBeComparedIsLikeNothing(t *testing.T) {
	a := []any{1, []int{1}, "x", map[int]int{}, nil}
	b := []any{1, []int{1}, "x", func() {}, nil}
	if n, pairs, steps := Length(a, b), Pairs(a, b), Steps(a, b); n != 3 || !slices.Equal(pairs, [][2]int{{0, 0}, {2, 2}, {4, 4}}) || !slices.Equal(rowsOf(steps), rows{{1, 1, 1}, {1, 1, 1}, {1, 0, 0}}) {
		t.Errorf("of lists in lists: %d, %v, %v", n, pairs, steps)
	}
	if got, ok := Apply(a, b, Steps(a, b)); !ok || len(got) != 5 || got[2] != "x" {
		t.Errorf("Apply: %v, %v", got, ok)
	}
	if got, ok := Apply(a, a, rows{{5, 0, 0}}.steps()); ok || len(got) != 0 {
		t.Errorf("Apply by steps that take them: %v, %v", got, ok)
	}
	many := make([]any, 400)
	for i := range many {
		many[i] = []int{i}
	}
	if n := Length(many, many); n != 0 {
		t.Errorf("Length of 400 lists: %d", n)
	}
}

func TestOtherThingsThatCanBeCompared(t *testing.T) {
	one, other := new(int), new(int)
	wantTold(t, "pointers", []*int{one, other, nil}, []*int{other, nil, one}, [][2]int{{1, 0}, {2, 1}}, rows{{0, 1, 0}, {2, 0, 1}})
	wantTold(t, "structs", []api.File{{Path: "a"}, {Path: "a", Data: "b"}}, []api.File{{Path: "a", Data: "b"}}, [][2]int{{1, 0}}, rows{{0, 1, 0}, {1, 0, 0}})
	wantTold(t, "interfaces", []any{1, "1", int8(1)}, []any{"1", 1, int8(1)}, [][2]int{{1, 0}, {2, 2}}, rows{{0, 1, 0}, {1, 0, 1}, {1, 0, 0}})
	wantTold(t, "nothing in them", make([]struct{}, 2), make([]struct{}, 3), [][2]int{{0, 0}, {1, 1}}, rows{{2, 0, 1}})
}

func TestSeveralGoroutinesAtOneTime(t *testing.T) {
	a, b := texts("abcabba"), texts("cbabac")
	var done sync.WaitGroup
	for range 8 {
		done.Go(func() {
			for range 50 {
				if got, ok := Apply(a, b, Steps(a, b)); !ok || !slices.Equal(got, b) || Length(a, b) != 4 {
					t.Errorf("Apply: %v, %v", got, ok)
				}
			}
		})
	}
	done.Wait()
}
