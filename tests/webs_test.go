package tests

import (
	"slices"

	"loop.example/g00081/impl"
)

// A web is the test's own picture of what is joined: each node has a colour,
// and two that are joined the same one.
type web struct {
	colours []int
	links   []impl.Link
}

func newWeb(size int64) *web {
	w := &web{}
	for range size {
		w.add()
	}
	return w
}

func (w *web) add() int64 {
	w.colours = append(w.colours, len(w.colours))
	return int64(len(w.colours) - 1)
}

func (w *web) joined(a, b int64) bool { return w.colours[a] == w.colours[b] }

// join is false of two that have one colour already.
func (w *web) join(l impl.Link) bool {
	from, to := w.colours[l.A], w.colours[l.B]
	if from == to {
		return false
	}
	for i, colour := range w.colours {
		if colour == from {
			w.colours[i] = to
		}
	}
	w.links = append(w.links, l)
	return true
}

func (w *web) least(a int64) int64 { return int64(slices.Index(w.colours, w.colours[a])) }

// groups are those of two and more, by their least nodes.
func (w *web) groups() [][]int64 {
	var list [][]int64
	for a := range w.colours {
		var group []int64
		for b := range w.colours {
			if w.joined(int64(a), int64(b)) {
				group = append(group, int64(b))
			}
		}
		if len(group) > 1 && group[0] == int64(a) {
			list = append(list, group)
		}
	}
	return list
}

// whys are those of the way between two nodes that are joined: links are taken
// away at every loose end but these two, until there is none.
func (w *web) whys(a, b int64) []int64 {
	links := slices.Clone(w.links)
	for more := true; more; {
		ends := make([]int, len(w.colours))
		for _, l := range links {
			ends[l.A]++
			ends[l.B]++
		}
		loose := func(n int64) bool { return n != a && n != b && ends[n] == 1 }
		count := len(links)
		links = slices.DeleteFunc(links, func(l impl.Link) bool { return loose(l.A) || loose(l.B) })
		more = len(links) < count
	}
	var whys []int64
	for _, l := range links {
		whys = append(whys, l.Why)
	}
	slices.Sort(whys)
	return slices.Compact(whys)
}

// webOf is nil of a forest that is not right.
func webOf(f impl.Forest) *web {
	if f.Size < 0 || f.Size > 1000 {
		return nil
	}
	w := newWeb(f.Size)
	for _, l := range f.Links {
		if l.A < 0 || l.A >= f.Size || l.B < 0 || l.B >= f.Size || l.Why < 0 || l.Why > 1000000 || !w.join(l) {
			return nil
		}
	}
	return w
}

func link(a, b, why int64) impl.Link { return impl.Link{A: a, B: b, Why: why} }

func forest(size int64, links ...impl.Link) impl.Forest {
	return impl.Forest{Size: size, Links: links}
}

func sameForest(f, g impl.Forest) bool { return f.Size == g.Size && slices.Equal(f.Links, g.Links) }

func sameLists(a, b [][]int64) bool { return slices.EqualFunc(a, b, slices.Equal[[]int64]) }

// thrownForest is right; the fewer whys there are, the more often one stands twice.
func thrownForest(d *dice, size, tries, whys int) impl.Forest {
	w := newWeb(int64(size))
	for range tries {
		w.join(link(int64(d.below(size)), int64(d.below(size)), int64(d.below(whys))))
	}
	return impl.Forest{Size: int64(size), Links: w.links}
}
