package tests

import (
	"fmt"
	"math"
	"slices"
	"testing"

	"loop.example/g00081/impl"
)

func TestForestConstants(t *testing.T) {
	if impl.MaxForest != 1000 {
		t.Errorf("MaxForest is %d", impl.MaxForest)
	}
}

func wantZeroForest(t *testing.T, what string, f impl.Forest) {
	t.Helper()
	if f.Size != 0 || len(f.Links) != 0 {
		t.Fatalf("%s: %v, want the zero value", what, f)
	}
}

func wantForest(t *testing.T, what string, got, want impl.Forest) {
	t.Helper()
	if !sameForest(got, want) {
		t.Fatalf("%s: %v, want %v", what, got, want)
	}
}

// checkForest holds all that is told of one forest against the web of it.
func checkForest(t *testing.T, f impl.Forest) {
	t.Helper()
	w := webOf(f)
	if impl.ForestOk(f) != (w != nil) {
		t.Fatalf("%v is told %v", f, impl.ForestOk(f))
	}
	if w == nil {
		checkWrongForest(t, f)
		return
	}
	if got := impl.GroupsOf(f); !sameLists(got, w.groups()) {
		t.Fatalf("the groups of %v are %v, want %v", f, got, w.groups())
	}
	for a := range f.Size {
		if got := impl.Root(f, a); got != w.least(a) {
			t.Fatalf("the root of %d in %v is %d, want %d", a, f, got, w.least(a))
		}
		for b := range f.Size {
			checkPair(t, f, w, a, b)
		}
	}
	for n := range len(f.Links) + 1 {
		wantForest(t, fmt.Sprint("undone to ", n), impl.Undo(f, int64(n)), impl.Forest{Size: f.Size, Links: f.Links[:n]})
	}
	checkNoNodes(t, f)
}

func checkPair(t *testing.T, f impl.Forest, w *web, a, b int64) {
	t.Helper()
	got, ok := impl.Reasons(f, a, b)
	if ok != w.joined(a, b) {
		t.Fatalf("%d and %d in %v: %v", a, b, f, ok)
	}
	g, isNew, done := impl.Join(f, a, b, 77)
	if !done || isNew == ok {
		t.Fatalf("%d and %d in %v are joined with %v, %v", a, b, f, isNew, done)
	}
	if !ok {
		if len(got) != 0 {
			t.Fatalf("%d and %d in %v: not joined by %v", a, b, f, got)
		}
		wantForest(t, "joined", g, impl.Forest{Size: f.Size, Links: append(slices.Clone(f.Links), link(a, b, 77))})
		return
	}
	wantForest(t, "joined again", g, f)
	if !slices.Equal(got, w.whys(a, b)) {
		t.Fatalf("%d and %d in %v by %v, want %v", a, b, f, got, w.whys(a, b))
	}
}

// checkNoNodes asks a right forest for what is outside of it.
func checkNoNodes(t *testing.T, f impl.Forest) {
	t.Helper()
	none := []int64{math.MinInt64, math.MinInt64 + 1, -2, -1, f.Size, f.Size + 1, 1 << 32, math.MaxInt64 - 1, math.MaxInt64}
	for _, a := range none {
		if got := impl.Root(f, a); got != -1 {
			t.Fatalf("the root of %d in %v is %d", a, f, got)
		}
		for _, b := range append([]int64{0, f.Size - 1}, none...) {
			for _, pair := range [][2]int64{{a, b}, {b, a}} {
				if got, ok := impl.Reasons(f, pair[0], pair[1]); ok || len(got) != 0 {
					t.Fatalf("%v in %v: %v, %v", pair, f, got, ok)
				}
				wantNotJoined(t, f, pair[0], pair[1], 0)
			}
		}
	}
	count := int64(len(f.Links))
	for _, n := range []int64{math.MinInt64, -1, count + 1, count + 2, 1 << 32, math.MaxInt64} {
		wantZeroForest(t, fmt.Sprint("undone to ", n), impl.Undo(f, n))
	}
	for _, why := range []int64{math.MinInt64, -1, 1000001, math.MaxInt64} {
		for a := range min(f.Size, 4) {
			wantNotJoined(t, f, a, 0, why)
			wantNotJoined(t, f, a, f.Size-1, why)
		}
	}
}

func wantNotJoined(t *testing.T, f impl.Forest, a, b, why int64) {
	t.Helper()
	g, isNew, ok := impl.Join(f, a, b, why)
	if isNew || ok {
		t.Fatalf("%d and %d by %d in %v: %v, %v", a, b, why, f, isNew, ok)
	}
	wantZeroForest(t, "not joined", g)
}

func checkWrongForest(t *testing.T, f impl.Forest) {
	t.Helper()
	for _, a := range []int64{-1, 0, 1, f.Size - 1} {
		if got := impl.Root(f, a); got != -1 {
			t.Fatalf("the root of %d in a wrong forest %v is %d", a, f, got)
		}
		for _, b := range []int64{0, 1} {
			if got, ok := impl.Reasons(f, a, b); ok || len(got) != 0 {
				t.Fatalf("%d and %d in a wrong forest %v: %v, %v", a, b, f, got, ok)
			}
			wantNotJoined(t, f, a, b, 0)
		}
	}
	for n := range len(f.Links) + 2 {
		wantZeroForest(t, "a wrong forest undone", impl.Undo(f, int64(n)))
	}
	if got := impl.GroupsOf(f); len(got) != 0 {
		t.Fatalf("the groups of a wrong forest %v are %v", f, got)
	}
}

func TestForestOkByHand(t *testing.T) {
	const least, most = math.MinInt64, math.MaxInt64
	for _, c := range []struct {
		what string
		f    impl.Forest
		want bool
	}{
		{"nothing", impl.Forest{}, true}, {"an empty list", impl.Forest{Links: []impl.Link{}}, true}, {"one node", forest(1), true}, {"two", forest(2), true},
		{"a Size of -1", forest(-1), false}, {"the least Size", forest(least), false}, {"the greatest Size", forest(most), false}, {"a Size of 2 to the 32", forest(1 << 32), false},
		{"a link", forest(2, link(0, 1, 0)), true}, {"the other way round", forest(2, link(1, 0, 0)), true}, {"the first and the last", forest(9, link(0, 8, 1)), true}, {"the last and the first", forest(9, link(8, 0, 1)), true},
		{"a Why of 1000000", forest(2, link(0, 1, 1000000)), true}, {"a Why of 1000001", forest(2, link(0, 1, 1000001)), false}, {"a Why of -1", forest(2, link(0, 1, -1)), false}, {"the least Why", forest(2, link(0, 1, least)), false}, {"the greatest Why", forest(2, link(0, 1, most)), false}, {"a Why that stands twice", forest(3, link(0, 1, 4), link(1, 2, 4)), true},
		{"a node and itself", forest(2, link(1, 1, 0)), false}, {"one node and itself", forest(1, link(0, 0, 0)), false}, {"itself behind others", forest(3, link(0, 1, 0), link(2, 2, 0)), false},
		{"a link in no nodes", forest(0, link(0, 0, 0)), false}, {"a link in no nodes", forest(0, link(0, 1, 0)), false}, {"a link in one node", forest(1, link(0, 1, 0)), false},
		{"the Size as A", forest(2, link(2, 1, 0)), false}, {"the Size as B", forest(2, link(1, 2, 0)), false}, {"A of -1", forest(2, link(-1, 1, 0)), false}, {"B of -1", forest(2, link(1, -1, 0)), false}, {"the least A", forest(2, link(least, 1, 0)), false}, {"the greatest A", forest(2, link(most, 1, 0)), false}, {"the least B", forest(2, link(1, least, 0)), false}, {"the greatest B", forest(2, link(1, most, 0)), false}, {"both the greatest", forest(most, link(most, most, most)), false}, {"both the least", forest(least, link(least, least, least)), false},
		{"twice", forest(3, link(0, 1, 0), link(0, 1, 0)), false}, {"twice, turned", forest(3, link(0, 1, 0), link(1, 0, 5)), false}, {"by way of one", forest(3, link(0, 1, 0), link(1, 2, 0), link(0, 2, 0)), false}, {"by way of one, turned", forest(3, link(1, 0, 0), link(1, 2, 0), link(2, 0, 0)), false}, {"by way of others", forest(5, link(0, 1, 0), link(2, 3, 0), link(4, 3, 0), link(1, 4, 0), link(0, 2, 0)), false}, {"joined later only", forest(5, link(0, 1, 0), link(2, 3, 0), link(0, 2, 0), link(4, 3, 0)), true},
		{"a wrong one in the end", forest(4, link(0, 1, 0), link(1, 2, 0), link(2, 4, 0)), false}, {"a wrong one first", forest(4, link(0, 4, 0), link(1, 2, 0)), false}, {"as many as nodes", forest(3, link(0, 1, 0), link(1, 2, 0), link(2, 0, 0)), false},
	} {
		if impl.ForestOk(c.f) != c.want {
			t.Errorf("%s: want %v", c.what, c.want)
		}
		checkForest(t, c.f)
	}
}

func TestForestsAtTheirSizes(t *testing.T) {
	for _, size := range []int64{0, 1, 2, 999, 1000} {
		f := forest(size)
		if !impl.ForestOk(f) || len(impl.GroupsOf(f)) != 0 {
			t.Errorf("a Size of %d: %v", size, impl.GroupsOf(f))
		}
		wantForest(t, "nothing undone", impl.Undo(f, 0), f)
		checkNoNodes(t, f)
		if size == 0 {
			continue
		}
		for _, a := range []int64{0, size / 2, size - 1} {
			if got := impl.Root(f, a); got != a {
				t.Errorf("the root of %d of %d is %d", a, size, got)
			}
			if got, ok := impl.Reasons(f, a, a); !ok || len(got) != 0 {
				t.Errorf("%d of %d and itself: %v, %v", a, size, got, ok)
			}
			for _, why := range []int64{0, 1000000} {
				g, isNew, ok := impl.Join(f, a, a, why)
				if isNew || !ok {
					t.Errorf("%d of %d and itself: %v, %v", a, size, isNew, ok)
				}
				wantForest(t, "itself", g, f)
			}
		}
	}
	for _, size := range []int64{-1, -1000, 1001, 1002, math.MinInt64, math.MaxInt64} {
		f := forest(size)
		if impl.ForestOk(f) {
			t.Errorf("a Size of %d is right", size)
		}
		checkWrongForest(t, f)
		checkWrongForest(t, forest(size, link(0, 1, 1)))
	}
}

// All links of all nodes, and of those just outside, in each order.
func TestForestsOfAllFewLinks(t *testing.T) {
	for size := range int64(4) {
		var links []impl.Link
		for a := int64(-1); a <= size; a++ {
			for b := int64(-1); b <= size; b++ {
				links = append(links, link(a, b, (a+1)*5+b))
			}
		}
		for _, first := range links {
			checkForest(t, forest(size, first))
			for _, second := range links {
				checkForest(t, forest(size, first, second))
				if webOf(forest(size, first, second)) == nil {
					continue
				}
				for _, third := range links {
					checkForest(t, forest(size, first, second, third))
				}
			}
		}
	}
}

func TestThrownForests(t *testing.T) {
	d := dice{state: 91}
	joined := 0
	for range 150 {
		size := 1 + d.below(25)
		f := thrownForest(&d, size, d.below(2*size+1), 1+d.below(20))
		checkForest(t, f)
		joined += len(f.Links)
		if len(f.Links) > 0 {
			f.Links[d.below(len(f.Links))] = link(int64(d.below(size)), int64(d.below(size)), 0)
			checkForest(t, f)
		}
	}
	if joined < 1000 {
		t.Errorf("%d links in all: too few", joined)
	}
}

// checkReasonsByThemselves asks for the links of the told Whys alone: they join the two.
func checkReasonsByThemselves(t *testing.T, f impl.Forest, a, b int64) {
	t.Helper()
	whys, ok := impl.Reasons(f, a, b)
	if !ok {
		return
	}
	back, _ := impl.Reasons(f, b, a)
	if !slices.Equal(whys, back) {
		t.Fatalf("%d and %d in %v: %v, and back %v", a, b, f, whys, back)
	}
	alone := impl.Forest{Size: f.Size}
	for _, l := range f.Links {
		if slices.Contains(whys, l.Why) {
			alone.Links = append(alone.Links, l)
		}
	}
	if impl.Root(alone, a) != impl.Root(alone, b) {
		t.Fatalf("%d and %d in %v are not joined by %v alone", a, b, f, whys)
	}
	for _, why := range whys {
		without := impl.Forest{Size: f.Size}
		for _, l := range f.Links {
			if l.Why != why {
				without.Links = append(without.Links, l)
			}
		}
		if impl.Root(without, a) == impl.Root(without, b) {
			t.Fatalf("%d and %d in %v are joined without %d of %v", a, b, f, why, whys)
		}
	}
}

func TestReasonsJoinByThemselves(t *testing.T) {
	d := dice{state: 92}
	for range 120 {
		size := 2 + d.below(12)
		f := thrownForest(&d, size, 3*size, 1+d.below(9))
		for a := range int64(size) {
			for b := range int64(size) {
				checkReasonsByThemselves(t, f, a, b)
			}
		}
	}
}

func TestReasonsByHand(t *testing.T) {
	// 0 - 1 - 2 - 3 - 4, with 5 beside 2 and 6 beside 5; 7 and 8 apart; 9 alone
	f := forest(10, link(1, 2, 4), link(3, 4, 2), link(2, 3, 4), link(7, 8, 9), link(5, 2, 1), link(1, 0, 0), link(6, 5, 1000000))
	for _, c := range []struct {
		a, b int64
		want []int64
	}{
		{0, 4, []int64{0, 2, 4}}, {4, 0, []int64{0, 2, 4}}, {1, 3, []int64{4}}, {3, 1, []int64{4}}, {1, 2, []int64{4}}, {0, 1, []int64{0}}, {0, 6, []int64{0, 1, 4, 1000000}}, {6, 4, []int64{1, 2, 4, 1000000}}, {6, 5, []int64{1000000}}, {5, 3, []int64{1, 4}}, {7, 8, []int64{9}}, {8, 8, nil}, {9, 9, nil},
	} {
		got, ok := impl.Reasons(f, c.a, c.b)
		if !ok || !slices.Equal(got, c.want) {
			t.Errorf("%d and %d: %v, %v, want %v", c.a, c.b, got, ok, c.want)
		}
	}
	for _, pair := range [][2]int64{{0, 7}, {8, 6}, {9, 0}, {0, 9}, {7, 9}} {
		if got, ok := impl.Reasons(f, pair[0], pair[1]); ok || len(got) != 0 {
			t.Errorf("%v: %v, %v", pair, got, ok)
		}
	}
	if got := impl.GroupsOf(f); !sameLists(got, [][]int64{{0, 1, 2, 3, 4, 5, 6}, {7, 8}}) {
		t.Errorf("groups %v", got)
	}
	checkForest(t, f)
}

// What is undone is as it was, whatever was joined since.
func TestUndoneIsAsItWas(t *testing.T) {
	d := dice{state: 93}
	for range 60 {
		size := int64(1 + d.below(15))
		f := forest(size)
		was := []impl.Forest{f}
		for range 3 * size {
			a, b, why := int64(d.below(int(size))), int64(d.below(int(size))), int64(d.below(5))
			g, isNew, ok := impl.Join(f, a, b, why)
			if !ok || impl.Root(g, a) != impl.Root(g, b) {
				t.Fatalf("%d and %d are not joined in %v", a, b, g)
			}
			if _, ok := impl.Reasons(g, a, b); !ok {
				t.Fatalf("%d and %d have no reasons in %v", a, b, g)
			}
			if !isNew {
				wantForest(t, "joined already", g, f)
				continue
			}
			wantForest(t, "the last one undone", impl.Undo(g, int64(len(f.Links))), f)
			f = g
			was = append(was, f)
		}
		for n, then := range was {
			u := impl.Undo(f, int64(n))
			wantForest(t, "undone", u, then)
			for a := range size {
				if impl.Root(u, a) != impl.Root(then, a) {
					t.Fatalf("%v is not as %v was", u, then)
				}
			}
			// and it grows again as it did
			for _, l := range f.Links[n:] {
				u, _, _ = impl.Join(u, l.A, l.B, l.Why)
			}
			wantForest(t, "joined once more", u, f)
		}
	}
}

// bigForests have 1000 nodes and as many links as there can be.
func bigForests() map[string]impl.Forest {
	all := make(map[string]impl.Forest)
	put := func(name string, by func(i int64) impl.Link) {
		f := impl.Forest{Size: 1000}
		for i := range int64(999) {
			f.Links = append(f.Links, by(i))
		}
		all[name] = f
	}
	put("a row", func(i int64) impl.Link { return link(i, i+1, i) })
	put("a row from its end", func(i int64) impl.Link { return link(998-i, 999-i, 998-i) })
	put("a row, turned", func(i int64) impl.Link { return link(i+1, i, 7) })
	put("a star", func(i int64) impl.Link { return link(500, (i+501)%1000, i) })
	put("a tree", func(i int64) impl.Link { return link(i/2, i+1, i%2) })
	put("every other one first", func(i int64) impl.Link {
		if i < 500 {
			return link(2*i, 2*i+1, 2*i)
		}
		return link(2*i-998, 2*i-999, 2*i-999)
	})
	return all
}

func TestBigForests(t *testing.T) {
	for name, f := range bigForests() {
		if !impl.ForestOk(f) {
			t.Fatalf("%s is right", name)
		}
		if got := impl.GroupsOf(f); len(got) != 1 || len(got[0]) != 1000 || got[0][0] != 0 || got[0][999] != 999 {
			t.Errorf("%s has groups %v", name, got)
		}
		w := webOf(f)
		for _, pair := range [][2]int64{{0, 999}, {999, 0}, {500, 999}, {1, 998}, {500, 500}} {
			got, ok := impl.Reasons(f, pair[0], pair[1])
			if want := w.whys(pair[0], pair[1]); !ok || !slices.Equal(got, want) {
				t.Errorf("%s: %v by %v, %v, want %v", name, pair, got, ok, want)
			}
			if got := impl.Root(f, pair[0]); got != 0 {
				t.Errorf("%s: the root of %d is %d", name, pair[0], got)
			}
			g, isNew, ok := impl.Join(f, pair[0], pair[1], 0)
			if isNew || !ok {
				t.Errorf("%s: %v joined, %v, %v", name, pair, isNew, ok)
			}
			wantForest(t, name, g, f)
		}
		for _, n := range []int64{0, 1, 500, 998, 999} {
			u := impl.Undo(f, n)
			wantForest(t, name, u, impl.Forest{Size: 1000, Links: f.Links[:n]})
			if n < 999 {
				l := f.Links[n]
				if impl.Root(u, l.A) == impl.Root(u, l.B) {
					t.Errorf("%s: %v is still joined", name, l)
				}
			}
		}
		checkNoNodes(t, f)
		f.Links = append(f.Links, link(0, 999, 0))
		if impl.ForestOk(f) {
			t.Errorf("%s: 1000 links are right", name)
		}
		wantZeroForest(t, name, impl.Undo(f, 999))
		f.Links = slices.Repeat(f.Links, 100)
		if impl.ForestOk(f) {
			t.Errorf("%s: 100000 links are right", name)
		}
	}
	if got, ok := impl.Reasons(bigForests()["a row, turned"], 0, 999); !ok || !slices.Equal(got, []int64{7}) {
		t.Errorf("999 links of one Why: %v, %v", got, ok)
	}
}

func TestForestsKeep(t *testing.T) {
	d := dice{state: 94}
	for range 200 {
		size := 1 + d.below(12)
		f := thrownForest(&d, size, 2*size, 4)
		wrong := impl.Forest{Size: f.Size, Links: append(slices.Clone(f.Links), link(0, 0, 0))}
		a, b := int64(d.below(size)), int64(d.below(size))
		for _, g := range []impl.Forest{f, wrong, forest(int64(size)), {}} {
			keeps(t, impl.ForestOk, g)
			keeps(t, impl.Join, g, a, b, int64(3))
			keeps(t, impl.Join, g, a, a, int64(3))
			keeps(t, impl.Root, g, a)
			keeps(t, impl.Reasons, g, a, b)
			keeps(t, impl.GroupsOf, g)
			for n := range len(g.Links) + 2 {
				keeps(t, impl.Undo, g, int64(n))
			}
		}
	}
}
