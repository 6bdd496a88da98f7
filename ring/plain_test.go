package ring_test

import (
	"cmp"
	"math/rand"
	"slices"

	"planisphere/api"
	"planisphere/geom"
)

// bound is the greatest coordinate of a point that is near.
const bound = 2097152

// pts returns the points with these coordinates.
func pts(l ...int) []api.Point {
	var list []api.Point
	for i := 0; i+1 < len(l); i += 2 {
		list = append(list, api.Point{X: l[i], Y: l[i+1]})
	}
	return list
}

// plainSides returns the sides of a list of points, in order.
func plainSides(r []api.Point) []api.Segment {
	var list []api.Segment
	for i := range r {
		list = append(list, api.Segment{A: r[i], B: r[(i+1)%len(r)]})
	}
	return list
}

// plainFits says whether there are from 3 to 2000 points, all with coordinates up to the bound.
func plainFits(r []api.Point) bool {
	for _, p := range r {
		if p.X < -bound || p.X > bound || p.Y < -bound || p.Y > bound {
			return false
		}
	}
	return len(r) >= 3 && len(r) <= 2000
}

// plainTwice adds the terms of all sides.
func plainTwice(r []api.Point) int {
	if !plainFits(r) {
		return 0
	}
	sum := 0
	for i := range r {
		a, b := r[i], r[(i+1)%len(r)]
		sum += a.X*b.Y - b.X*a.Y
	}
	return sum
}

// plainSimple asks for each two sides.
func plainSimple(r []api.Point) bool {
	if !plainFits(r) {
		return false
	}
	list := plainSides(r)
	for j := range list {
		for i := range j {
			want := api.MeetNone
			if j-i == 1 || i == 0 && j == len(r)-1 {
				want = api.MeetEnd
			}
			if geom.Meets(list[i], list[j]) != want {
				return false
			}
		}
	}
	return true
}

// plainSide counts the sides that a steep way out of a simple ring crosses; the ring is so small that the way passes no corner.
func plainSide(r []api.Point, p api.Point) int {
	way := api.Segment{A: p, B: api.Point{X: p.X + 1, Y: p.Y + 1000}}
	crossed := 0
	for _, s := range plainSides(r) {
		if geom.On(s, p) {
			return 0
		}
		if geom.Meets(s, way) == api.MeetCross {
			crossed++
		}
	}
	return 2*(crossed%2) - 1
}

// thrice returns points whose coordinates are three times as great.
func thrice(r []api.Point) []api.Point {
	return moved(r, func(p api.Point) api.Point { return api.Point{X: 3 * p.X, Y: 3 * p.Y} })
}

// moved returns the points to which a function moves those of a ring.
func moved(r []api.Point, to func(api.Point) api.Point) []api.Point {
	list := make([]api.Point, len(r))
	for i, p := range r {
		list[i] = to(p)
	}
	return list
}

// by returns a function that moves points by a distance.
func by(x, y int) func(api.Point) api.Point {
	return func(p api.Point) api.Point { return api.Point{X: p.X + x, Y: p.Y + y} }
}

// shape is a simple ring with corners from (0, 0) to (k - 1, k - 1), and the side of each third of a step in this square.
type shape struct {
	ring   []api.Point
	places []int
}

// shapeOf asks for the side of all points of a grid of thirds. Each face between two rings that meet only in corners and sides has a triangle of corners inside, whose middle is a point of that grid.
func shapeOf(r []api.Point, k int) shape {
	s := shape{ring: r}
	large := thrice(r)
	for _, p := range square(3*k - 2) {
		s.places = append(s.places, plainSide(large, p))
	}
	return s
}

// plainRelation compares the insides of two shapes as sets of points.
func plainRelation(a, b shape) int {
	for _, s := range plainSides(a.ring) {
		for _, t := range plainSides(b.ring) {
			if slices.Contains([]int{api.MeetTouch, api.MeetCross, api.MeetOverlap}, geom.Meets(s, t)) {
				return api.RelCross
			}
		}
	}
	both, first, second := false, false, false
	for i, at := range a.places {
		other := b.places[i]
		both = both || at == 1 && other == 1
		first = first || at == 1 && other == -1
		second = second || at == -1 && other == 1
	}
	switch {
	case !first && !second:
		return api.RelSame
	case !first:
		return api.RelInside
	case !second:
		return api.RelAround
	case !both:
		return api.RelApart
	}
	return api.RelCross
}

// square returns the points from (0, 0) to (k - 1, k - 1).
func square(k int) []api.Point {
	var list []api.Point
	for x := range k {
		for y := range k {
			list = append(list, api.Point{X: x, Y: y})
		}
	}
	return list
}

// allSimple returns the simple rings with corners among the points of a square, each once: its least corner is the first one, and the direction is that of its two neighbours.
func allSimple(k int) [][]api.Point {
	var list [][]api.Point
	points := square(k)
	var grow func(r []api.Point)
	grow = func(r []api.Point) {
		if len(r) > 2 && geom.Compare(r[1], r[len(r)-1]) < 0 && plainSimple(r) {
			list = append(list, slices.Clone(r))
		}
		for _, p := range points {
			if geom.Compare(r[0], p) < 0 && !slices.Contains(r, p) && goesOn(r, p) {
				grow(append(slices.Clone(r), p))
			}
		}
	}
	for _, p := range points {
		grow([]api.Point{p})
	}
	return list
}

// goesOn says whether a side to p crosses or touches none of those that are there.
func goesOn(r []api.Point, p api.Point) bool {
	next := api.Segment{A: r[len(r)-1], B: p}
	for i := range len(r) - 1 {
		want := api.MeetNone
		if i == len(r)-2 {
			want = api.MeetEnd
		}
		if geom.Meets(api.Segment{A: r[i], B: r[i+1]}, next) != want {
			return false
		}
	}
	return true
}

// someSimple returns simple rings that chance chose among the points of a square.
func someSimple(r *rand.Rand, k, count int) [][]api.Point {
	var list [][]api.Point
	for len(list) < count {
		points := square(k)
		r.Shuffle(len(points), func(i, j int) { points[i], points[j] = points[j], points[i] })
		ring := points[:1]
		for _, p := range points[1:] {
			if r.Intn(4) > 0 && goesOn(ring, p) {
				ring = append(slices.Clone(ring), p)
			}
		}
		if plainSimple(ring) {
			list = append(list, ring)
		}
	}
	return list
}

// turnedBy returns the same ring with another first corner.
func turnedBy(r []api.Point, n int) []api.Point {
	return slices.Concat(r[n:], r[:n])
}

// opposite returns the same ring in the other direction.
func opposite(r []api.Point) []api.Point {
	list := slices.Clone(r)
	slices.Reverse(list)
	return list
}

// exchanged returns the relation of two rings that are exchanged.
func exchanged(relation int) int {
	return []int{api.RelCross, api.RelApart, api.RelAround, api.RelInside, api.RelSame}[relation]
}

// star returns a simple ring with n corners, each in another direction from (x, y), at distances that chance chooses up to a size.
func star(r *rand.Rand, n, x, y, size int) []api.Point {
	found := map[[2]int]api.Point{}
	for len(found) < n {
		p := api.Point{X: r.Intn(2*size+1) - size, Y: r.Intn(2*size+1) - size}
		if p == (api.Point{}) {
			continue
		}
		d := divisor(p.X, p.Y)
		found[[2]int{p.X / d, p.Y / d}] = api.Point{X: p.X + x, Y: p.Y + y}
	}
	center := api.Point{X: x, Y: y}
	var list []api.Point
	for _, p := range found {
		list = append(list, p)
	}
	slices.SortFunc(list, func(a, b api.Point) int {
		if c := cmp.Compare(half(center, a), half(center, b)); c != 0 {
			return c
		}
		return -geom.Orient(center, a, b)
	})
	return list
}

// half returns 0 for directions that go upwards, or straight to the right, and 1 for others.
func half(center, p api.Point) int {
	if p.Y > center.Y || p.Y == center.Y && p.X > center.X {
		return 0
	}
	return 1
}

// divisor returns the greatest common divisor of two numbers.
func divisor(a, b int) int {
	for b != 0 {
		a, b = b, a%b
	}
	return max(a, -a)
}

// comb returns a ring whose n teeth are long and lie above each other.
func comb(n, length int) []api.Point {
	var list []api.Point
	for i := range n {
		list = append(list, pts(0, 2*i, length, 2*i, length, 2*i+1, 1, 2*i+1)...)
	}
	return append(list, pts(1, 2*n, -1, 2*n, -1, 0)...)
}
