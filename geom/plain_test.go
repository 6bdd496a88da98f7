package geom_test

import (
	"math"
	"math/big"
	"math/rand"

	"planisphere/api"
)

// bound is the greatest coordinate of a point that is near.
const bound = 2097152

func pt(x, y int) api.Point          { return api.Point{X: x, Y: y} }
func seg(a, b, c, d int) api.Segment { return api.Segment{A: pt(a, b), B: pt(c, d)} }

// turned returns the same segment with its ends exchanged.
func turned(s api.Segment) api.Segment { return api.Segment{A: s.B, B: s.A} }

// line returns the segment between two points.
func line(a, b api.Point) api.Segment { return api.Segment{A: a, B: b} }

// rat returns an integer as a rational number.
func rat(n int) *big.Rat { return new(big.Rat).SetInt64(int64(n)) }

func sum(a, b *big.Rat) *big.Rat     { return new(big.Rat).Add(a, b) }
func less(a, b *big.Rat) *big.Rat    { return new(big.Rat).Sub(a, b) }
func product(a, b *big.Rat) *big.Rat { return new(big.Rat).Mul(a, b) }

// spot is a point with rational coordinates.
type spot struct{ x, y *big.Rat }

// spotOf returns a point as a spot.
func spotOf(p api.Point) spot { return spot{rat(p.X), rat(p.Y)} }

// far returns the squared distance of two spots.
func (s spot) far(t spot) *big.Rat {
	dx, dy := less(s.x, t.x), less(s.y, t.y)
	return sum(product(dx, dx), product(dy, dy))
}

// along returns the spot of a segment that has gone the part u of the way from A to B.
func along(s api.Segment, u *big.Rat) spot {
	return spot{
		sum(rat(s.A.X), product(u, rat(s.B.X-s.A.X))),
		sum(rat(s.A.Y), product(u, rat(s.B.Y-s.A.Y))),
	}
}

// plainDistance returns the squared distance of a point from the nearest point of a segment: a parabola in the part of the way, whose least value lies between the ends or at one of them.
func plainDistance(s api.Segment, p api.Point) *big.Rat {
	at := spotOf(p)
	best := along(s, rat(0)).far(at)
	if d := along(s, rat(1)).far(at); d.Cmp(best) < 0 {
		best = d
	}
	dx, dy := rat(s.B.X-s.A.X), rat(s.B.Y-s.A.Y)
	length := sum(product(dx, dx), product(dy, dy))
	if length.Sign() == 0 {
		return best
	}
	way := sum(product(dx, rat(p.X-s.A.X)), product(dy, rat(p.Y-s.A.Y)))
	u := new(big.Rat).Quo(way, length)
	if u.Sign() > 0 && u.Cmp(rat(1)) < 0 {
		if d := along(s, u).far(at); d.Cmp(best) < 0 {
			best = d
		}
	}
	return best
}

// plainNear returns a squared distance, rounded down.
func plainNear(s api.Segment, p api.Point) int {
	d := plainDistance(s, p)
	return int(new(big.Int).Quo(d.Num(), d.Denom()).Int64())
}

// plainOn reports whether a point has no distance from a segment.
func plainOn(s api.Segment, p api.Point) bool {
	return plainDistance(s, p).Sign() == 0
}

// plainOrient returns the sign of the turn of three points, from the Y that the line has at the X of the third one.
func plainOrient(a, b, c api.Point) int {
	switch {
	case a == b:
		return 0
	case a.X > b.X:
		return -plainOrient(b, a, c)
	case a.X == b.X && a.Y < b.Y:
		return rat(a.X).Cmp(rat(c.X))
	case a.X == b.X:
		return rat(c.X).Cmp(rat(a.X))
	}
	u := new(big.Rat).Quo(rat(c.X-a.X), rat(b.X-a.X))
	return rat(c.Y).Cmp(along(line(a, b), u).y)
}

// plainMeets returns how two segments meet, from their ends that are points of the other one, and otherwise from a solution of the two equations.
func plainMeets(s, t api.Segment) int {
	if s == t || s == turned(t) {
		return api.MeetSame
	}
	common := map[api.Point]int{}
	for _, p := range []api.Point{s.A, s.B, t.A, t.B} {
		if plainOn(s, p) && plainOn(t, p) {
			common[p]++
		}
	}
	switch {
	case len(common) > 1:
		return api.MeetOverlap
	case len(common) == 1 && (common[s.A] > 0 || common[s.B] > 0) && (common[t.A] > 0 || common[t.B] > 0):
		return api.MeetEnd
	case len(common) == 1:
		return api.MeetTouch
	case plainCross(s, t):
		return api.MeetCross
	}
	return api.MeetNone
}

// plainCross reports whether the insides of two segments have a common point, by Cramer's rule.
func plainCross(s, t api.Segment) bool {
	a, b := rat(s.B.X-s.A.X), rat(t.A.X-t.B.X)
	c, d := rat(s.B.Y-s.A.Y), rat(t.A.Y-t.B.Y)
	e, f := rat(t.A.X-s.A.X), rat(t.A.Y-s.A.Y)
	whole := less(product(a, d), product(b, c))
	if whole.Sign() == 0 {
		return false
	}
	u := new(big.Rat).Quo(less(product(e, d), product(b, f)), whole)
	v := new(big.Rat).Quo(less(product(a, f), product(e, c)), whole)
	return inside(u) && inside(v)
}

// inside reports whether a part of a way is between its ends.
func inside(u *big.Rat) bool { return u.Sign() > 0 && u.Cmp(rat(1)) < 0 }

// square returns all points with coordinates from 0 to n.
func square(n int) []api.Point {
	var l []api.Point
	for x := range n + 1 {
		for y := range n + 1 {
			l = append(l, pt(x, y))
		}
	}
	return l
}

// allSegments returns the segments between all pairs of points, in both directions, and those of one point.
func allSegments(points []api.Point) []api.Segment {
	var l []api.Segment
	for _, a := range points {
		for _, b := range points {
			l = append(l, line(a, b))
		}
	}
	return l
}

// chosen returns points by chance, but always the same ones: a few with small coordinates, and more up to the bound, also near it.
func chosen(r *rand.Rand, n int) []api.Point {
	var l []api.Point
	for i := range n {
		size := []int{2, 9, 1000, bound, bound}[i%5]
		p := pt(r.Intn(2*size+1)-size, r.Intn(2*size+1)-size)
		if i%7 == 0 {
			p.X = bound - r.Intn(3)
		}
		if i%11 == 0 {
			p.Y = r.Intn(3) - bound
		}
		l = append(l, p)
	}
	return l
}

// outside returns points that are not near, each by one coordinate alone or by both.
func outside() []api.Point {
	var l []api.Point
	for _, n := range []int{bound + 1, -bound - 1, 1 << 22, 1 << 32, -1 << 32, 1<<32 + 5, 1 << 62, math.MaxInt, math.MinInt, math.MinInt + 1} {
		l = append(l, pt(n, 0), pt(0, n), pt(n, n), pt(n, -n), pt(3, n))
	}
	return l
}
