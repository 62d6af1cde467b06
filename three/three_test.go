package three

import (
	"math"
	"math/rand"
	"slices"
	"strings"
	"sync"
	"testing"

	"cortege/api"
	"cortege/diff"
	"cortege/sample"
)

// lists are those that the chapter's edges name, a byte an element, each with its parts (base, a and b of each, and ! of a Conflict) and what it is merged to.
var lists = []struct {
	what       string
	base, a, b string
	parts      string
	merged     string
	ok         bool
}{
	{"all empty", "", "", "", "", "", true},
	{"a alone is not empty", "", "xy", "", ",xy,", "xy", true},
	{"b alone is not empty", "", "", "xy", ",,xy", "xy", true},
	{"base alone is not empty", "ab", "", "", "ab,,", "", true},
	{"base alone is empty, and a and b are alike", "", "xy", "xy", ",xy,xy", "xy", true},
	{"base alone is empty, and a and b are not alike", "", "x", "y", ",x,y!", "", false},
	{"a alone is empty", "ab", "", "ab", "ab,,ab", "", true},
	{"b alone is empty", "ab", "ab", "", "ab,ab,", "", true},
	{"a is empty, and b another one", "ab", "", "ax", "ab,,ax!", "", false},
	{"b is empty, and a another one", "ab", "ax", "", "ab,ax,!", "", false},
	{"one, three times", "a", "a", "a", "a,a,a", "a", true},
	{"three like lists", "abca", "abca", "abca", "abca,abca,abca", "abca", true},
	{"three lists of like ones", "aaa", "aaa", "aaa", "aaa,aaa,aaa", "aaa", true},
	{"three lists with nothing in common", "ab", "xy", "pq", "ab,xy,pq!", "", false},
	{"the chapter's example", "123", "1923", "124", "1,1,1 ,9, 2,2,2 3,3,4", "1924", true},

	{"one changed by a", "abc", "axc", "abc", "a,a,a b,x,b c,c,c", "axc", true},
	{"one changed by b", "abc", "abc", "axc", "a,a,a b,b,x c,c,c", "axc", true},
	{"one changed by both to the same", "abc", "axc", "axc", "a,a,a b,x,x c,c,c", "axc", true},
	{"one changed by both, not to the same", "abc", "axc", "ayc", "a,a,a b,x,y! c,c,c", "", false},
	{"one left out by a", "abc", "ac", "abc", "a,a,a b,,b c,c,c", "ac", true},
	{"one left out by b", "abc", "abc", "ac", "a,a,a b,b, c,c,c", "ac", true},
	{"one left out by both", "abc", "ac", "ac", "a,a,a b,, c,c,c", "ac", true},
	{"one left out by a, and changed by b", "abc", "ac", "ayc", "a,a,a b,,y! c,c,c", "", false},
	{"one changed by a, and left out by b", "abc", "axc", "ac", "a,a,a b,x,! c,c,c", "", false},
	{"one put in by a", "ab", "axb", "ab", "a,a,a ,x, b,b,b", "axb", true},
	{"one put in by b", "ab", "ab", "axb", "a,a,a ,,x b,b,b", "axb", true},
	{"one put in by both, the same", "ab", "axb", "axb", "a,a,a ,x,x b,b,b", "axb", true},
	{"one put in by both, not the same", "ab", "axb", "ayb", "a,a,a ,x,y! b,b,b", "", false},
	{"put in by both, by b more", "ab", "axb", "axyb", "a,a,a ,x,xy! b,b,b", "", false},

	{"one put in by a at the beginning", "ab", "xab", "ab", ",x, ab,ab,ab", "xab", true},
	{"one put in by b at the beginning", "ab", "ab", "xab", ",,x ab,ab,ab", "xab", true},
	{"one put in by both at the beginning, the same", "ab", "xab", "xab", ",x,x ab,ab,ab", "xab", true},
	{"one put in by both at the beginning, not the same", "ab", "xab", "yab", ",x,y! ab,ab,ab", "", false},
	{"one left out by a at the beginning", "ab", "b", "ab", "a,,a b,b,b", "b", true},
	{"one left out by b at the beginning", "ab", "ab", "b", "a,a, b,b,b", "b", true},
	{"one changed by both at the beginning", "ab", "xb", "yb", "a,x,y! b,b,b", "", false},
	{"one put in by a at the end", "ab", "abx", "ab", "ab,ab,ab ,x,", "abx", true},
	{"one put in by b at the end", "ab", "ab", "abx", "ab,ab,ab ,,x", "abx", true},
	{"one put in by both at the end, the same", "ab", "abx", "abx", "ab,ab,ab ,x,x", "abx", true},
	{"one put in by both at the end, not the same", "ab", "abx", "aby", "ab,ab,ab ,x,y!", "", false},
	{"one left out by a at the end", "ab", "a", "ab", "a,a,a b,,b", "a", true},
	{"one left out by b at the end", "ab", "ab", "a", "a,a,a b,b,", "a", true},
	{"one changed by both at the end", "ab", "ax", "ay", "a,a,a b,x,y!", "", false},
	{"put in by a at the beginning, by b at the end", "abc", "xabc", "abcy", ",x, abc,abc,abc ,,y", "xabcy", true},
	{"left out by a at the beginning, by b at the end", "abcd", "bcd", "abc", "a,,a bc,bc,bc d,d,", "bc", true},

	{"changes of places with one between", "abcde", "aXcde", "abcYe", "a,a,a b,X,b c,c,c d,d,Y e,e,e", "aXcYe", true},
	{"changes of places that touch", "abcd", "aXcd", "abYd", "a,a,a bc,Xc,bY! d,d,d", "", false},
	{"left out at places that touch", "abcd", "acd", "abd", "a,a,a bc,c,b! d,d,d", "", false},
	{"put in ahead of what is changed", "abc", "aXbc", "aYc", "a,a,a b,Xb,Y! c,c,c", "", false},
	{"put in behind what is changed", "abc", "abXc", "aYc", "a,a,a b,bX,Y! c,c,c", "", false},
	{"put in ahead of what is left out", "abc", "aXbc", "ac", "a,a,a b,Xb,! c,c,c", "", false},
	{"put in at both sides of one that stands", "abc", "aXbc", "abYc", "a,a,a ,X, b,b,b ,,Y c,c,c", "aXbYc", true},
	{"the same change by both, and one more by a", "abcde", "aXcYe", "aXcde", "a,a,a b,X,X c,c,c d,Y,d e,e,e", "aXcYe", true},
	{"two Conflicts, and a change between", "abcde", "XbRdY", "PbcdQ", "a,X,P! b,b,b c,R,c d,d,d e,Y,Q!", "", false},
	{"a Conflict behind a change", "abc", "Xbx", "aby", "a,X,a b,b,b c,x,y!", "", false},

	{"two that change places in a", "ab", "ba", "ab", "a,,a b,b,b ,a,", "ba", true},
	{"two that change places in both", "ab", "ba", "ba", "a,, b,b,b ,a,a", "ba", true},
	{"three turned round by a, one changed by b", "abc", "cba", "abx", "abc,cba,abx!", "", false},
	{"other ones stand in a than in b", "ab", "a", "b", "ab,a,b!", "", false},
	{"more like ones in a", "aa", "aaa", "aa", "aa,aa,aa ,a,", "aaa", true},
	{"more like ones in both", "aa", "aaa", "aaaa", "aa,aa,aa ,a,aa!", "", false},
	{"fewer like ones in a, more in b", "aa", "a", "aaa", "a,a,a a,,aa!", "", false},
	{"a like one is put in elsewhere", "ab", "aab", "ab", "a,a,a ,a, b,b,b", "aab", true},
}

// texts answers a list of texts, one for each byte of s, numbers one of numbers.
func texts(s string) []string { return strings.Split(s, "") }

func numbers(s string) []int {
	all := make([]int, 0, len(s))
	for _, c := range []byte(s) {
		all = append(all, -int(c))
	}
	return all
}

// partsOf reads parts from a text, each list of them made by list.
func partsOf[T comparable](s string, list func(string) []T) []Part[T] {
	var parts []Part[T]
	for _, f := range strings.Fields(s) {
		three, conflict := strings.CutSuffix(f, "!")
		l := strings.Split(three, ",")
		parts = append(parts, Part[T]{conflict, list(l[0]), list(l[1]), list(l[2])})
	}
	return parts
}

// like tells whether two parts are.
func like[T comparable](p, q Part[T]) bool {
	return p.Conflict == q.Conflict && slices.Equal(p.Base, q.Base) && slices.Equal(p.A, q.A) && slices.Equal(p.B, q.B)
}

// turned answers the parts with A and B in each other's place.
func turned[T comparable](parts []Part[T]) []Part[T] {
	var all []Part[T]
	for _, p := range parts {
		all = append(all, Part[T]{p.Conflict, p.Base, p.B, p.A})
	}
	return all
}

// wantMerge holds Merge against what is to be.
func wantMerge[T comparable](t *testing.T, what string, base, a, b, merged []T, ok bool) {
	t.Helper()
	got, is := Merge(base, a, b)
	if is != ok || !slices.Equal(got, merged) {
		t.Errorf("Merge of %s: %v, %v, not %v, %v", what, got, is, merged, ok)
	}
}

// wantTold holds what is told of the three lists against what is to be, and P5.3 with it.
func wantTold[T comparable](t *testing.T, what string, base, a, b []T, parts []Part[T], merged []T, ok bool) {
	t.Helper()
	if got := Parts(base, a, b); !slices.EqualFunc(got, parts, like) {
		t.Errorf("Parts of %s: %v, not %v", what, got, parts)
	}
	if got := Parts(base, b, a); !slices.EqualFunc(turned(got), parts, like) {
		t.Errorf("Parts of %s, turned: %v, not %v", what, got, turned(parts))
	}
	wantMerge(t, what, base, a, b, merged, ok)
	wantMerge(t, what+", turned", base, b, a, merged, ok)
	wantMerge(t, what+": base, a, a", base, a, a, a, true)
	wantMerge(t, what+": base, b, b", base, b, b, b, true)
	wantMerge(t, what+": base, base, b", base, base, b, b, true)
	wantMerge(t, what+": base, a, base", base, a, base, a, true)
}

func TestLists(t *testing.T) {
	bytes := func(s string) []byte { return []byte(s) }
	for _, c := range lists {
		wantTold(t, c.what+", texts", texts(c.base), texts(c.a), texts(c.b), partsOf(c.parts, texts), texts(c.merged), c.ok)
		wantTold(t, c.what+", numbers", numbers(c.base), numbers(c.a), numbers(c.b), partsOf(c.parts, numbers), numbers(c.merged), c.ok)
		wantTold(t, c.what+", bytes", bytes(c.base), bytes(c.a), bytes(c.b), partsOf(c.parts, bytes), bytes(c.merged), c.ok)
		wantLawful(t, bytes(c.base), bytes(c.a), bytes(c.b))
	}
}

func TestNilListsAreEmptyOnes(t *testing.T) {
	seven := []int{7}
	wantTold[int](t, "nil ones", nil, nil, nil, nil, nil, true)
	wantTold(t, "nil and empty ones", nil, []int{}, nil, nil, nil, true)
	wantTold(t, "nil, one, empty", nil, seven, []int{}, []Part[int]{{A: seven}}, seven, true)
	wantTold(t, "one, nil, empty", seven, nil, []int{}, []Part[int]{{Base: seven}}, nil, true)
	wantTold(t, "one, one, nil", seven, seven, nil, []Part[int]{{Base: seven, A: seven}}, nil, true)
}

// pairedWith answers for each place in base its place in the other list, and -1 where it is in no pair.
func pairedWith(base, other []byte) []int {
	with := make([]int, len(base))
	for i := range with {
		with[i] = -1
	}
	for _, p := range diff.Pairs(base, other) {
		with[p[0]] = p[1]
	}
	return with
}

// isFast tells whether all of a part that begins at i, j and k stand, one behind the other in all three lists.
func isFast(p Part[byte], withA, withB []int, i, j, k int) bool {
	if len(p.Base) == 0 || len(p.A) != len(p.Base) || len(p.B) != len(p.Base) {
		return false
	}
	for n := range p.Base {
		if withA[i+n] != j+n || withB[i+n] != k+n {
			return false
		}
	}
	return true
}

// stands tells whether one of the places from i on to the one ahead of end does.
func stands(withA, withB []int, i, end int) bool {
	for ; i < end; i++ {
		if withA[i] >= 0 && withB[i] >= 0 {
			return true
		}
	}
	return false
}

// wantLawful holds Parts and Merge against the chapter's words, one by one: no others than these parts keep all of them.
func wantLawful(t *testing.T, base, a, b []byte) {
	t.Helper()
	withA, withB := pairedWith(base, a), pairedWith(base, b)
	parts := Parts(base, a, b)
	var merged []byte
	ok, before := true, ""
	i, j, k := 0, 0, 0
	for _, p := range parts {
		x, y, z := string(p.Base), string(p.A), string(p.B)
		// Held against where it is to lie, so that all pieces, one behind the other, are the lists.
		if !strings.HasPrefix(string(base[i:]), x) || !strings.HasPrefix(string(a[j:]), y) || !strings.HasPrefix(string(b[k:]), z) {
			t.Errorf("Parts of %q, %q, %q: not where it lies: %v", base, a, b, parts)
			return
		}
		kind := "loose"
		if isFast(p, withA, withB, i, j, k) {
			kind = "fast"
		} else if stands(withA, withB, i, i+len(x)) {
			t.Errorf("Parts of %q, %q, %q: one stands in a loose part: %v", base, a, b, parts)
		}
		if x+y+z == "" || kind == before || p.Conflict != (x != y && y != z && x != z) {
			t.Errorf("Parts of %q, %q, %q: %v", base, a, b, parts)
		}
		switch {
		case y == z || z == x:
			merged = append(merged, y...)
		case y == x:
			merged = append(merged, z...)
		default:
			ok = false
		}
		before = kind
		i, j, k = i+len(x), j+len(y), k+len(z)
	}
	if i != len(base) || j != len(a) || k != len(b) {
		t.Errorf("Parts of %q, %q, %q: not to the ends: %v", base, a, b, parts)
	}
	if !ok {
		merged = nil
	}
	wantTold(t, string(base)+", "+string(a)+", "+string(b), base, a, b, parts, merged, ok)
}

// all answers all texts of at most n of the bytes of letters.
func all(letters string, n int) []string {
	found := []string{""}
	for from := 0; n > 0; n-- {
		to := len(found)
		for _, s := range found[from:to] {
			for _, c := range []byte(letters) {
				found = append(found, s+string(c))
			}
		}
		from = to
	}
	return found
}

func TestAllShortLists(t *testing.T) {
	for _, short := range [][]string{all("ab", 3), all("abc", 2)} {
		for _, x := range short {
			for _, y := range short {
				for _, z := range short {
					wantLawful(t, []byte(x), []byte(y), []byte(z))
				}
			}
		}
	}
}

// letter answers one of so many letters.
func letter(source *rand.Rand, letters int) byte {
	return 'a' + byte(source.Intn(letters))
}

// changed answers list with a few changes of it, by so many letters.
func changed(source *rand.Rand, list []byte, letters int) []byte {
	made := slices.Clone(list)
	for range source.Intn(4) {
		at := source.Intn(len(made) + 1)
		switch kind := source.Intn(3); {
		case kind == 0 || at == len(made):
			made = slices.Insert(made, at, letter(source, letters))
		case kind == 1:
			made = slices.Delete(made, at, at+1)
		default:
			made[at] = letter(source, letters)
		}
	}
	return made
}

func TestRandomLists(t *testing.T) {
	source := rand.New(rand.NewSource(5))
	conflicts, merges := 0, 0
	for round := range 800 {
		n := 8
		if round%10 == 0 {
			n = 90
		}
		letters := 1 + source.Intn(20)
		base := make([]byte, source.Intn(n))
		for i := range base {
			base[i] = letter(source, letters)
		}
		a, b := changed(source, base, letters), changed(source, base, letters)
		wantLawful(t, base, a, b)
		if _, ok := Merge(base, a, b); ok {
			merges++
		} else {
			conflicts++
		}
	}
	if conflicts < 50 || merges < 50 {
		t.Errorf("the lists are no trial of both: %d conflicts, %d merges", conflicts, merges)
	}
}

// spread answers n numbers, of which no two are alike.
func spread(n int, from int) []int {
	all := make([]int, n)
	for i := range all {
		all[i] = from + i
	}
	return all
}

func TestListsAtTheLimit(t *testing.T) {
	long, other, third := spread(400, 0), spread(400, 1000), spread(400, 2000)
	same := make([]int, 400)
	wantTold(t, "400, thrice", long, long, long, []Part[int]{{false, long, long, long}}, long, true)
	wantTold(t, "400 like ones, thrice", same, same, same, []Part[int]{{false, same, same, same}}, same, true)
	wantTold(t, "400 in a alone", nil, long, nil, []Part[int]{{A: long}}, long, true)
	wantTold(t, "400 in b alone", nil, nil, long, []Part[int]{{B: long}}, long, true)
	wantTold(t, "400 in base alone", long, nil, nil, []Part[int]{{Base: long}}, nil, true)
	wantTold(t, "400 others by a", long, other, long, []Part[int]{{false, long, other, long}}, other, true)
	wantTold(t, "400 others by each", long, other, third, []Part[int]{{true, long, other, third}}, nil, false)
}

func TestManyParts(t *testing.T) {
	base := spread(400, 0)
	a, b := slices.Clone(base), slices.Clone(base)
	for i := 0; i < 400; i += 4 {
		a[i] += 1000
		b[i+2] += 2000
	}
	merged, ok := Merge(base, a, b)
	if len(merged) != 400 || !ok || len(Parts(base, a, b)) != 400 {
		t.Fatalf("400 parts: %d, %v", len(merged), ok)
	}
	for i, x := range merged {
		if x != max(a[i], b[i]) {
			t.Errorf("at %d: %d", i, x)
		}
	}
}

func TestWhatIsMergedMayBeLongerThanTheLimit(t *testing.T) {
	front, back, base := spread(399, 1000), spread(399, 2000), []int{1}
	a, b := append(slices.Clone(front), 1), append([]int{1}, back...)
	parts := []Part[int]{{A: front}, {Base: base, A: base, B: base}, {B: back}}
	wantTold(t, "399 put in at each side", base, a, b, parts, slices.Concat(front, base, back), true)
}

func TestListsBeyondTheLimit(t *testing.T) {
	long, much, most := spread(400, 0), spread(401, 0), spread(100000, 0)
	for _, c := range []struct {
		what       string
		base, a, b []int
	}{
		{"401 in base", much, long, long},
		{"401 in a", long, much, long},
		{"401 in b", long, long, much},
		{"401 in a and b", nil, much, much},
		{"401 in base and a", much, much, nil},
		{"401 in base and b", much, nil, much},
		{"401, thrice", much, much, much},
		{"401 in base alone", much, nil, nil},
		{"401 in a alone", nil, much, nil},
		{"401 in b alone", nil, nil, much},
		{"100000 in each", most, most, most},
	} {
		if parts := Parts(c.base, c.a, c.b); len(parts) != 0 {
			t.Errorf("Parts of %s: %d", c.what, len(parts))
		}
		if merged, ok := Merge(c.base, c.a, c.b); ok || len(merged) != 0 {
			t.Errorf("Merge of %s: %d, %v", c.what, len(merged), ok)
		}
	}
}

// roomy answers list with spare room behind it, and the whole of that room.
func roomy(list ...int) ([]int, []int) {
	room := append(slices.Clone(list), 77, 78, 79)
	return room[:len(list)], room
}

func TestListsStayAsTheyWere(t *testing.T) {
	for _, c := range lists {
		base, roomBase := roomy(numbers(c.base)...)
		a, roomA := roomy(numbers(c.a)...)
		b, roomB := roomy(numbers(c.b)...)
		for range 2 {
			Parts(base, a, b)
			Merge(base, a, b)
		}
		for _, x := range []struct {
			room []int
			list string
		}{{roomBase, c.base}, {roomA, c.a}, {roomB, c.b}} {
			if !slices.Equal(x.room, append(numbers(x.list), 77, 78, 79)) {
				t.Errorf("%s: a list is now %v", c.what, x.room)
			}
		}
	}
}

// wantApart spoils each of the lists with a number of its own, and then looks for another's in it.
func wantApart(t *testing.T, what string, all [][]int) {
	t.Helper()
	for i, l := range all {
		sample.Spoil(l, 1000+i)
	}
	for i, l := range all {
		for _, x := range l[:cap(l)] {
			if x != 1000+i {
				t.Errorf("%s: list %d shares memory with list %d", what, i, x-1000)
			}
		}
	}
}

// pieces answers all lists of the parts.
func pieces(parts []Part[int]) [][]int {
	var all [][]int
	for _, p := range parts {
		all = append(all, p.Base, p.A, p.B)
	}
	return all
}

func TestAnswersShareNothing(t *testing.T) {
	for _, c := range lists {
		base, a, b := numbers(c.base), numbers(c.a), numbers(c.b)
		apart := [][]int{base, a, b}
		for range 2 {
			merged, _ := Merge(base, a, b)
			apart = append(apart, merged)
			apart = append(apart, pieces(Parts(base, a, b))...)
		}
		wantApart(t, c.what, apart)
	}
}

func TestAnswersOfOneListShareNothing(t *testing.T) {
	room := []int{5, 6, 7, 5, 6, 7}
	for _, c := range []struct {
		what       string
		base, a, b []int
		merged     []int
	}{
		{"one list thrice", room, room, room, []int{5, 6, 7, 5, 6, 7}},
		{"pieces of one list", room[:3], room[3:], room[:3], []int{5, 6, 7}},
		{"pieces that lie over one another", room[1:3], room[:3], room[1:], []int{5, 6, 7, 5, 6, 7}},
	} {
		wantMerge(t, c.what, c.base, c.a, c.b, c.merged, true)
		merged, _ := Merge(c.base, c.a, c.b)
		apart := append(pieces(Parts(c.base, c.a, c.b)), merged)
		wantApart(t, c.what, apart)
		if !slices.Equal(room, []int{5, 6, 7, 5, 6, 7}) {
			t.Fatalf("%s: the list is now %v", c.what, room)
		}
	}
}

func TestChangedAnswersAreNotToldAgain(t *testing.T) {
	base, a, b := numbers("abc"), numbers("xabc"), numbers("abcy")
	want := partsOf(",x, abc,abc,abc ,,y", numbers)
	for range 2 {
		parts := Parts(base, a, b)
		if !slices.EqualFunc(parts, want, like) {
			t.Errorf("Parts: %v", parts)
		}
		for _, l := range pieces(parts) {
			sample.Spoil(l, 9)
		}
		clear(parts)
		merged, ok := Merge(base, a, b)
		if !ok || !slices.Equal(merged, numbers("xabcy")) {
			t.Errorf("Merge: %v, %v", merged, ok)
		}
		sample.Spoil(merged, 9)
	}
}

func TestEachPieceIsOfItsOwnList(t *testing.T) {
	// The two are alike, yet can be told apart.
	plus, minus := 0.0, math.Copysign(0, -1)
	base, a, b := []float64{plus}, []float64{minus}, []float64{plus}
	parts := Parts(base, a, b)
	if len(parts) != 1 || parts[0].Conflict || math.Signbit(parts[0].Base[0]) || !math.Signbit(parts[0].A[0]) || math.Signbit(parts[0].B[0]) {
		t.Errorf("Parts: %v", parts)
	}
	if merged, ok := Merge(base, a, b); !ok || len(merged) != 1 || !math.Signbit(merged[0]) {
		t.Errorf("Merge takes A, where all are alike: %v, %v", merged, ok)
	}
	if merged, ok := Merge([]float64{1}, a, b); !ok || len(merged) != 1 || !math.Signbit(merged[0]) {
		t.Errorf("Merge takes A, where A and B are alike: %v, %v", merged, ok)
	}
}

func TestWhatIsNotLikeItself(t *testing.T) {
	nan := math.NaN()
	list := []float64{1, nan, 2}
	parts := Parts(list, list, list)
	if len(parts) != 3 || parts[0].Conflict || !parts[1].Conflict || parts[2].Conflict {
		t.Errorf("Parts: %v", parts)
	}
	if merged, ok := Merge(list, list, list); ok || len(merged) != 0 {
		t.Errorf("Merge: %v, %v", merged, ok)
	}
}

func TestWhatCannotBeComparedIsLikeNothing(t *testing.T) {
	base := []any{1, []int{1}, "x", nil}
	a := []any{1, []int{1}, "x", nil, map[int]int{}}
	b := []any{1, func() {}, "x", nil}
	parts := Parts(base, a, b)
	if len(parts) != 4 || parts[0].Conflict || !parts[1].Conflict || parts[2].Conflict || parts[3].Conflict {
		t.Errorf("Parts: %v", parts)
	}
	if merged, ok := Merge(base, a, b); ok || len(merged) != 0 {
		t.Errorf("Merge: %v, %v", merged, ok)
	}
	if merged, ok := Merge(base[2:], a[2:], base[2:]); !ok || len(merged) != 3 || merged[0] != "x" {
		t.Errorf("Merge where it is put in by the one alone: %v, %v", merged, ok)
	}
	many := make([]any, 400)
	for i := range many {
		many[i] = []int{i}
	}
	if parts := Parts(many, many, many); len(parts) != 1 || !parts[0].Conflict {
		t.Errorf("Parts of 400 lists: %d", len(parts))
	}
}

func TestOtherThingsThatCanBeCompared(t *testing.T) {
	one, other := new(int), new(int)
	pointers := []*int{one, nil}
	wantTold(t, "pointers", pointers, []*int{one, other, nil}, []*int{one},
		[]Part[*int]{{false, pointers[:1], pointers[:1], pointers[:1]}, {true, pointers[1:], []*int{other, nil}, nil}}, nil, false)
	file, more := []api.File{{Path: "a"}}, api.File{Path: "a", Data: "b"}
	wantTold(t, "structs", file, append([]api.File{more}, file...), file,
		[]Part[api.File]{{A: []api.File{more}}, {false, file, file, file}}, []api.File{more, {Path: "a"}}, true)
	wantTold(t, "interfaces", []any{1}, []any{1, "1"}, []any{int8(1), 1},
		[]Part[any]{{B: []any{int8(1)}}, {false, []any{1}, []any{1}, []any{1}}, {A: []any{"1"}}}, []any{int8(1), 1, "1"}, true)
	two := make([]struct{}, 2)
	wantTold(t, "nothing in them", two, two[:1], two, []Part[struct{}]{{false, two[:1], two[:1], two[:1]}, {false, two[:1], nil, two[:1]}}, two[:1], true)
}

func TestSeveralGoroutinesAtOneTime(t *testing.T) {
	base, a, b := texts("abcdef"), texts("abXdef"), texts("abcdYf")
	want := partsOf("ab,ab,ab c,X,c d,d,d e,e,Y f,f,f", texts)
	var done sync.WaitGroup
	for range 8 {
		done.Go(func() {
			for range 50 {
				merged, ok := Merge(base, a, b)
				if !ok || !slices.Equal(merged, texts("abXdYf")) || !slices.EqualFunc(Parts(base, a, b), want, like) {
					t.Errorf("Merge: %v, %v", merged, ok)
				}
			}
		})
	}
	done.Wait()
}
