package index_test

import (
	"math/rand"
	"slices"
	"strconv"
	"testing"

	"planisphere/api"
	"planisphere/index"
)

// bound is the greatest coordinate of a box or a point.
const bound = 2097152

func pt(x, y int) api.Point      { return api.Point{X: x, Y: y} }
func box(a, b, c, d int) api.Box { return api.Box{Min: pt(a, b), Max: pt(c, d)} }
func ids(l ...string) []string   { return l }
func within(a, v, b int) bool    { return a <= v && v <= b }
func has(b api.Box, p api.Point) bool {
	return within(b.Min.X, p.X, b.Max.X) && within(b.Min.Y, p.Y, b.Max.Y)
}

// boxes returns the boxes with these coordinates, four for each.
func boxes(l ...int) []api.Box {
	var list []api.Box
	for c := range slices.Chunk(l, 4) {
		list = append(list, box(c[0], c[1], c[2], c[3]))
	}
	return list
}

// plain is an index that asks each box.
type plain map[string]api.Box

// isValid reports whether a box may be put.
func isValid(b api.Box) bool {
	all := box(-bound, -bound, bound, bound)
	return b.Min.X <= b.Max.X && b.Min.Y <= b.Max.Y && has(all, b.Min) && has(all, b.Max)
}

// put adds a box to an index that is not full.
func (x plain) put(id string, b api.Box) api.Errno {
	if !isValid(b) {
		return api.ErrArg
	}
	if _, found := x[id]; found {
		return api.ErrTwice
	}
	x[id] = b
	return api.OK
}

// drop removes an Id.
func (x plain) drop(id string) api.Errno {
	if _, found := x[id]; !found {
		return api.ErrNone
	}
	delete(x, id)
	return api.OK
}

// sorted returns the Ids for which a function answers true, in order.
func (x plain) sorted(choose func(b api.Box) bool) []string {
	var list []string
	for id, b := range x {
		if choose(b) {
			list = append(list, id)
		}
	}
	slices.Sort(list)
	return list
}

// in returns the Ids of the boxes that meet a box.
func (x plain) in(b api.Box) []string {
	if !isValid(b) {
		return nil
	}
	return x.sorted(func(c api.Box) bool { return meet(b, c) })
}

// near returns the Ids of the first n boxes in the order of their squared distances and Ids.
func (x plain) near(p api.Point, n int) []string {
	if n <= 0 || !isValid(api.Box{Min: p, Max: p}) {
		return nil
	}
	list := x.sorted(func(api.Box) bool { return true })
	slices.SortStableFunc(list, func(a, b string) int { return far(x[a], p) - far(x[b], p) })
	return list[:min(n, len(list))]
}

// meet reports whether two boxes have a common point; if they do, the point of one that is the nearest one to the least corner of the other is such a point.
func meet(a, b api.Box) bool { return has(b, nearest(a, b.Min)) }

// nearest returns the point of a box that is the nearest one to a point.
func nearest(b api.Box, p api.Point) api.Point {
	return pt(min(max(p.X, b.Min.X), b.Max.X), min(max(p.Y, b.Min.Y), b.Max.Y))
}

// far returns the squared distance of a box from a point.
func far(b api.Box, p api.Point) int {
	q := nearest(b, p)
	return (q.X-p.X)*(q.X-p.X) + (q.Y-p.Y)*(q.Y-p.Y)
}

// between returns a number that chance chooses, from a to b.
func between(r *rand.Rand, a, b int) int { return a + r.Intn(b-a+1) }

// someBox returns a box that chance chooses: a small or great one, a point or a line, all within k.
func someBox(r *rand.Rand, k int) api.Box {
	reach := []int{0, 1, k / 10, k}[r.Intn(4)]
	a := pt(between(r, -k, k), between(r, -k, k))
	b := api.Box{Min: a, Max: pt(min(k, a.X+r.Intn(reach+1)), min(k, a.Y+r.Intn(reach+1)))}
	switch r.Intn(8) {
	case 0:
		b.Max.X = b.Min.X
	case 1:
		b.Max.Y = b.Min.Y
	}
	return b
}

// somePoint returns a point that chance chooses.
func somePoint(r *rand.Rand, k int) api.Point { return pt(between(r, -k, k), between(r, -k, k)) }

// someSize returns a size of a part of the plane that chance chooses.
func someSize(r *rand.Rand) int { return []int{1, 4, 30, 5000, bound}[r.Intn(5)] }

// someId returns one of count Ids.
func someId(r *rand.Rand, count int) string { return strconv.Itoa(r.Intn(count)) }

// filled returns a plain index that chance fills, some boxes repeated.
func filled(r *rand.Rand, count, k int) plain {
	p := plain{}
	b := someBox(r, k)
	for i := range count {
		if r.Intn(4) > 0 {
			b = someBox(r, k)
		}
		p["n"+strconv.Itoa(i)] = b
	}
	return p
}

// indexOf returns an index with the boxes of a plain one.
func indexOf(t *testing.T, p plain) *index.Index {
	t.Helper()
	x := index.New()
	for _, id := range p.sorted(func(api.Box) bool { return true }) {
		put(t, x, id, p[id])
	}
	return x
}

// put adds a box that may be added.
func put(t *testing.T, x *index.Index, id string, b api.Box) {
	t.Helper()
	if e := x.Put(id, b); e != api.OK {
		t.Fatalf("Put(%q, %v) = %d", id, b, e)
	}
}

// drop removes an Id that is there.
func drop(t *testing.T, x *index.Index, id string) {
	t.Helper()
	if e := x.Drop(id); e != api.OK {
		t.Fatalf("Drop(%q) = %d", id, e)
	}
}

// same fails unless two lists are equal.
func same(t *testing.T, what string, got, want []string) {
	t.Helper()
	if !slices.Equal(got, want) {
		t.Fatalf("%s: %q, want %q", what, got, want)
	}
}

// compare asks an index and a plain one the same, about places that chance chooses.
func compare(t *testing.T, r *rand.Rand, x *index.Index, p plain, k int) {
	t.Helper()
	b, at, n := someBox(r, k), somePoint(r, k), r.Intn(len(p)+3)
	same(t, "In", x.In(b), p.in(b))
	same(t, "Near", x.Near(at, n), p.near(at, n))
	for _, id := range []string{someId(r, 40), "n" + someId(r, len(p)+1)} {
		want, there := p[id]
		if got, found := x.Box(id); got != want || found != there {
			t.Fatalf("Box(%q) = %v, %t, want %v, %t", id, got, found, want, there)
		}
	}
}
