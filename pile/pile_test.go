package pile

import (
	"iter"
	"math/rand"
	"slices"
	"testing"

	"cortege/seq"
)

// thing has a key that orders it, and a name that does not.
type thing struct {
	key  int
	name string
}

func byKey(a, b thing) bool { return a.key < b.key }

func byKeyOrAlike(a, b thing) bool { return a.key <= b.key }

func lesser(a, b int) bool { return a < b }

func greater(a, b int) bool { return a > b }

func never(thing) bool { return false }

func always(thing) bool { return true }

func names(s iter.Seq[thing]) string {
	return seq.Fold(s, "", func(all string, x thing) string { return all + x.name })
}

// five answers a pile in whose order the names are bdcae.
func five() *Pile[thing] {
	p := New(byKey)
	p.Put(thing{3, "a"}, thing{1, "b"}, thing{2, "c"}, thing{1, "d"}, thing{3, "e"})
	return p
}

// want holds against the names that are wanted what All tells, and Len, and First, and Pop to the last one.
func want(t *testing.T, what string, p *Pile[thing], all string) {
	t.Helper()
	for round := range 2 {
		if got := names(p.All()); got != all {
			t.Errorf("%s, round %d: All: %q, not %q", what, round, got, all)
		}
	}
	for i := range all {
		if n := p.Len(); n != len(all)-i {
			t.Errorf("%s: Len: %d, not %d", what, n, len(all)-i)
		}
		first, there := p.First()
		popped, was := p.Pop()
		if first != popped || first.name != all[i:i+1] || !there || !was {
			t.Errorf("%s: First: %v, %v; Pop: %v, %v; not %q", what, first, there, popped, was, all[i:i+1])
		}
	}
	wantNone(t, what, p)
}

// wantNone looks for an empty pile, or a nil one.
func wantNone(t *testing.T, what string, p *Pile[thing]) {
	t.Helper()
	if n := p.Len(); n != 0 {
		t.Errorf("%s: Len: %d, not 0", what, n)
	}
	if x, ok := p.First(); x != (thing{}) || ok {
		t.Errorf("%s: First of none: %v, %v", what, x, ok)
	}
	if x, ok := p.Pop(); x != (thing{}) || ok {
		t.Errorf("%s: Pop of none: %v, %v", what, x, ok)
	}
	if all := names(p.All()); all != "" {
		t.Errorf("%s: All of none: %q", what, all)
	}
	if n := p.Remove(always); n != 0 {
		t.Errorf("%s: Remove of none: %d", what, n)
	}
	if n := p.Remove(nil); n != 0 {
		t.Errorf("%s: Remove by nil of none: %d", what, n)
	}
}

func TestNew(t *testing.T) {
	if New[thing](nil) != nil {
		t.Error("New of nil is not nil")
	}
	p := New(byKey)
	if p == nil {
		t.Fatal("New is nil")
	}
	wantNone(t, "New", p)
	want(t, "New, behind calls of an empty pile", p, "")
	p.Put(thing{1, "a"})
	wantNone(t, "another pile", New(byKey))
	want(t, "Put on an empty pile", p, "a")
}

func TestNilPile(t *testing.T) {
	var p *Pile[thing]
	wantNone(t, "nil", p)
	all := p.All()
	p.Put(thing{1, "a"}, thing{2, "b"})
	p.Put()
	wantNone(t, "nil, behind Put", p)
	if got := names(all); got != "" {
		t.Errorf("All of nil, behind Put: %q", got)
	}
}

func TestTheChaptersExample(t *testing.T) {
	p := New(lesser)
	p.Put(3, 1, 2)
	if x, ok := p.Pop(); x != 1 || !ok || p.Len() != 2 {
		t.Errorf("Pop: %d, %v; Len: %d", x, ok, p.Len())
	}
}

func TestPut(t *testing.T) {
	want(t, "Put of five", five(), "bdcae")
	p := five()
	p.Put()
	p.Put([]thing(nil)...)
	want(t, "Put of nothing", p, "bdcae")
	p.Put(thing{2, "x"})
	p.Put()
	p.Put(thing{3, "y"}, thing{2, "z"})
	want(t, "Put behind the last Pop", p, "xzy")
	p = five()
	p.Put(thing{2, "x"})
	p.Put(thing{0, "y"}, thing{1, "z"})
	want(t, "Put one by one", p, "ybdzcxae")
}

func TestPutTakesTheListAsItWas(t *testing.T) {
	room := []thing{{3, "a"}, {1, "b"}, {2, "c"}, {0, "d"}}
	was := slices.Clone(room)
	p := New(byKey)
	p.Put(room[:3]...)
	p.Put(thing{5, "x"})
	if !slices.Equal(room, was) {
		t.Errorf("the list that was handed in: %v", room)
	}
	room[0], room[1] = thing{7, "y"}, thing{8, "z"}
	want(t, "Put of a list that changed", p, "bcax")
	if !slices.Equal(room, []thing{{7, "y"}, {8, "z"}, {2, "c"}, {0, "d"}}) {
		t.Errorf("the list, behind Pop: %v", room)
	}
}

func TestFirst(t *testing.T) {
	p := five()
	for range 2 {
		if x, ok := p.First(); x != (thing{1, "b"}) || !ok {
			t.Errorf("First: %v, %v", x, ok)
		}
	}
	p.Put(thing{1, "x"})
	if x, _ := p.First(); x.name != "b" {
		t.Errorf("First, behind Put of one that is alike: %v", x)
	}
	p.Put(thing{0, "y"})
	if x, _ := p.First(); x.name != "y" {
		t.Errorf("First, behind Put of a lesser one: %v", x)
	}
	want(t, "First", p, "ybdxcae")
}

func TestAlike(t *testing.T) {
	for what, less := range map[string]func(a, b thing) bool{"byKey": byKey, "byKeyOrAlike": byKeyOrAlike} {
		p := New(less)
		for _, name := range "abcdefghij" {
			p.Put(thing{1, string(name)})
		}
		for range 4 {
			p.Pop()
		}
		p.Put(thing{1, "k"}, thing{0, "x"}, thing{1, "l"})
		p.Pop()
		p.Remove(func(x thing) bool { return x.name == "f" || x.name == "i" })
		p.Put(thing{1, "m"}, thing{2, "y"}, thing{1, "n"})
		p.Pop()
		want(t, what, p, "ghjklmny")
	}
}

func TestAllIsGoneThroughAgain(t *testing.T) {
	p := five()
	all := p.All()
	for round := range 3 {
		told := ""
		for x := range all {
			told += x.name
			if len(told) == round {
				break
			}
		}
		if told != []string{"bdcae", "b", "bd"}[round] {
			t.Errorf("All, left behind %d: %q", round, told)
		}
	}
	pairs := ""
	for x := range all {
		pairs += x.name + names(all)
	}
	if pairs != "bbdcaedbdcaecbdcaeabdcaeebdcae" {
		t.Errorf("All inside All: %q", pairs)
	}
	want(t, "behind All", p, "bdcae")
}

func TestAllTellsWhatThereIsWhenItIsGoneThrough(t *testing.T) {
	p := New(byKey)
	all := p.All()
	steps := []struct {
		what string
		do   func()
		told string
	}{
		{"at first", func() {}, ""},
		{"Put", func() { p.Put(thing{2, "a"}, thing{1, "b"}, thing{2, "c"}) }, "bac"},
		{"Put again", func() { p.Put(thing{0, "d"}, thing{2, "e"}) }, "dbace"},
		{"Pop", func() { p.Pop() }, "bace"},
		{"Remove", func() { p.Remove(func(x thing) bool { return x.name == "a" }) }, "bce"},
		{"Remove of all", func() { p.Remove(always) }, ""},
		{"Put behind all", func() { p.Put(thing{1, "f"}) }, "f"},
	}
	for _, step := range steps {
		step.do()
		if got := names(all); got != step.told {
			t.Errorf("All, behind %s: %q, not %q", step.what, got, step.told)
		}
	}
}

func TestAllOfAPileThatChangesInsideTheLoop(t *testing.T) {
	changes := []struct {
		what string
		do   func(*Pile[thing])
		left string
	}{
		{"Pop", func(p *Pile[thing]) { p.Pop() }, ""},
		{"Put", func(p *Pile[thing]) { p.Put(thing{0, "x"}) }, "xxxxxbdcae"},
		{"Remove of all", func(p *Pile[thing]) { p.Remove(always) }, ""},
		{"Pop and Put", func(p *Pile[thing]) { p.Pop(); p.Put(thing{4, "x"}) }, "xxxxx"},
	}
	for _, change := range changes {
		p, told := five(), ""
		for x := range p.All() {
			told += x.name
			change.do(p)
		}
		if told != "bdcae" {
			t.Errorf("%s inside the loop: %q", change.what, told)
		}
		want(t, change.what, p, change.left)
	}
}

func TestRemove(t *testing.T) {
	cases := []struct {
		what string
		gone string
		n    int
		left string
	}{
		{"none", "", 0, "bdcae"},
		{"the first", "b", 1, "dcae"},
		{"the last", "e", 1, "bdca"},
		{"one of the middle", "c", 1, "bdae"},
		{"some", "dae", 3, "bc"},
		{"all", "abcde", 5, ""},
		{"none that is there", "xyz", 0, "bdcae"},
	}
	for _, c := range cases {
		p, asked := five(), ""
		n := p.Remove(func(x thing) bool {
			asked += x.name
			return slices.Contains([]byte(c.gone), x.name[0])
		})
		if n != c.n || asked != "bdcae" {
			t.Errorf("Remove of %s: %d, asked %q", c.what, n, asked)
		}
		want(t, "Remove of "+c.what, p, c.left)
		p.Put(thing{1, "f"}, thing{1, "g"}, thing{0, "h"})
		want(t, "Put behind Remove of "+c.what, p, "hfg")
	}
}

func TestRemoveOfNothing(t *testing.T) {
	p := five()
	if n := p.Remove(nil); n != 0 {
		t.Errorf("Remove by nil: %d", n)
	}
	if n := p.Remove(never); n != 0 {
		t.Errorf("Remove of none: %d", n)
	}
	p.Put(thing{1, "x"}, thing{3, "y"})
	want(t, "Remove of nothing", p, "bdxcaey")
}

func TestRemoveLooksAtThePileWhileItAsks(t *testing.T) {
	p := five()
	n := p.Remove(func(x thing) bool {
		if p.Len() != 5 || names(p.All()) != "bdcae" {
			t.Errorf("at %v: %q", x, names(p.All()))
		}
		return x.key == 1
	})
	if n != 2 {
		t.Errorf("Remove: %d", n)
	}
	want(t, "Remove", p, "cae")
}

// slow is a pile that a test can see through: a list that is sorted whenever it is asked.
type slow struct{ list []thing }

func (s *slow) put(x thing) {
	s.list = append(s.list, x)
	slices.SortStableFunc(s.list, func(a, b thing) int { return a.key - b.key })
}

func TestAgainstASortedList(t *testing.T) {
	random := rand.New(rand.NewSource(2))
	for range 200 {
		p, s := New(byKey), &slow{}
		for step := range 60 {
			switch random.Intn(8) {
			case 0, 1:
				x, ok := p.Pop()
				if ok != (len(s.list) > 0) || ok && x != s.list[0] {
					t.Fatalf("Pop: %v, %v of %v", x, ok, s.list)
				}
				s.list = s.list[min(1, len(s.list)):]
			case 2:
				key, all := random.Intn(6), len(s.list)
				has := func(x thing) bool { return x.key == key }
				s.list = slices.DeleteFunc(s.list, has)
				if n := p.Remove(has); n != all-len(s.list) {
					t.Fatalf("Remove: %d, not %d", n, all-len(s.list))
				}
			default:
				x := thing{random.Intn(6), string(rune('0' + step))}
				p.Put(x)
				s.put(x)
			}
			if all := seq.List(p.All()); !slices.Equal(all, s.list) || p.Len() != len(s.list) {
				t.Fatalf("All: %v, not %v", all, s.list)
			}
		}
	}
}

func TestMany(t *testing.T) {
	const many = 100000
	p := New(greater)
	for i := range many {
		p.Put(i * 7919 % many)
	}
	if n := p.Remove(func(n int) bool { return n%2 == 1 }); n != many/2 || p.Len() != many/2 {
		t.Errorf("Remove: %d, Len: %d", n, p.Len())
	}
	for i := many - 2; i >= 0; i -= 2 {
		if x, ok := p.Pop(); x != i || !ok {
			t.Fatalf("Pop: %d, %v, not %d", x, ok, i)
		}
	}
	if p.Len() != 0 {
		t.Errorf("Len: %d", p.Len())
	}
}

func TestPopHoldsNothingBack(t *testing.T) {
	p := New(func(a, b *int) bool { return *a < *b })
	for n := range 9 {
		p.Put(&n)
	}
	for range 4 {
		p.Pop()
	}
	for _, it := range p.items[:cap(p.items)][len(p.items):] {
		if it.thing != nil {
			t.Errorf("the pile still holds %d", *it.thing)
		}
	}
}
