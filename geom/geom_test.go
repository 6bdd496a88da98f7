package geom_test

import (
	"math"
	"math/big"
	"math/rand"
	"slices"
	"testing"

	"planisphere/api"
	"planisphere/geom"
)

// P3.1, C1: the side of a line on which a point is; the values come from another program.
func TestOrientKnown(t *testing.T) {
	for _, x := range []struct {
		a, b, c api.Point
		want    int
	}{
		{pt(0, 0), pt(2, 0), pt(1, 1), 1},
		{pt(0, 0), pt(2, 0), pt(1, -1), -1},
		{pt(0, 0), pt(2, 0), pt(7, 0), 0},
		{pt(0, 0), pt(2, 0), pt(-7, 0), 0},
		{pt(0, 0), pt(0, 5), pt(-1, 2), 1},
		{pt(0, 0), pt(0, 5), pt(1, 2), -1},
		{pt(4, 4), pt(4, 4), pt(9, 1), 0},
		{pt(-2, 4), pt(3, -3), pt(0, 4), 1},
		{pt(2, 5), pt(4, -4), pt(4, -5), -1},
		{pt(3, 3), pt(2, 1), pt(5, -3), 1},
		{pt(-526, 300), pt(-690, 777), pt(896, 71), -1},
		{pt(597, -937), pt(686, 772), pt(-449, -32), 1},
		{pt(1154344, 1484237), pt(1216041, 1632599), pt(-971828, 969049), 1},
		{pt(-1279646, -1796114), pt(-956563, 2054230), pt(-276934, 66951), -1},
		{pt(-2097144, -2097143), pt(2097143, 2097151), pt(-326108, -326107), -1},
		{pt(-2097143, -2097148), pt(2097148, 2097151), pt(-1564807, -1564807), 1},
		{pt(-2097145, -2097151), pt(2097147, 2097151), pt(1346051, 1346050), -1},
		{pt(-bound, -bound), pt(bound, bound), pt(bound-1, bound), 1},
		{pt(-bound, -bound), pt(bound, bound), pt(bound, bound-1), -1},
		{pt(-bound, -bound), pt(bound, bound), pt(7, 7), 0},
	} {
		if got := geom.Orient(x.a, x.b, x.c); got != x.want {
			t.Errorf("Orient(%v, %v, %v) = %d, want %d", x.a, x.b, x.c, got, x.want)
		}
	}
}

// P3.1, C1: the side of a line, computed with rational numbers.
func TestOrientPlain(t *testing.T) {
	r := rand.New(rand.NewSource(1))
	points := append(square(3), chosen(r, 16)...)
	for _, a := range points {
		for _, b := range points {
			for _, c := range points {
				if got, want := geom.Orient(a, b, c), plainOrient(a, b, c); got != want {
					t.Fatalf("Orient(%v, %v, %v) = %d, want %d", a, b, c, got, want)
				}
			}
		}
	}
}

// P3.1, C1: points are compared by X, then by Y, also those that are not near.
func TestCompare(t *testing.T) {
	for _, x := range []struct {
		a, b api.Point
		want int
	}{
		{pt(1, 9), pt(2, 0), -1},
		{pt(2, 0), pt(1, 9), 1},
		{pt(1, 3), pt(1, 4), -1},
		{pt(1, 4), pt(1, 3), 1},
		{pt(1, 4), pt(1, 4), 0},
		{pt(-1, 0), pt(0, -5), -1},
		{pt(bound+1, 0), pt(bound+2, 0), -1},
		{pt(math.MinInt, 0), pt(math.MaxInt, 0), -1},
		{pt(math.MaxInt, 0), pt(math.MinInt, 0), 1},
		{pt(0, math.MinInt), pt(0, math.MaxInt), -1},
		{pt(0, math.MaxInt), pt(0, math.MinInt), 1},
		{pt(math.MinInt, math.MaxInt), pt(math.MinInt, math.MaxInt), 0},
		{pt(math.MaxInt, math.MinInt), pt(math.MaxInt, math.MinInt+1), -1},
	} {
		if got := geom.Compare(x.a, x.b); got != x.want {
			t.Errorf("Compare(%v, %v) = %d, want %d", x.a, x.b, got, x.want)
		}
	}
}

// P3.1, C3: how segments meet; the values come from another program.
func TestMeetsKnown(t *testing.T) {
	for _, x := range []struct {
		s, t api.Segment
		want int
	}{
		{seg(0, 0, 2, 2), seg(0, 2, 2, 0), api.MeetCross},
		{seg(0, 0, 4, 0), seg(2, 0, 2, 3), api.MeetTouch},
		{seg(0, 0, 4, 0), seg(2, 0, 6, 0), api.MeetOverlap},
		{seg(-2, 0, 1, 1), seg(-2, -2, 2, 2), api.MeetTouch},
		{seg(-2, 1, 2, 0), seg(2, 0, 2, -1), api.MeetEnd},
		{seg(-2, 0, -2, -2), seg(-2, 2, 2, -2), api.MeetNone},
		{seg(0, 1, 0, 2), seg(0, 2, 0, -2), api.MeetOverlap},
		{seg(3, 1, -1, -1), seg(3, 0, -3, 3), api.MeetCross},
		{seg(3, -3, 1, 2), seg(2, -2, -1, 1), api.MeetNone},
		{seg(3, -3, -3, 1), seg(-2, -1, 3, 3), api.MeetCross},
		{seg(-1, 1, 3, 3), seg(-1, 0, -1, 2), api.MeetTouch},
		{seg(0, -2, 0, 3), seg(0, -6, 0, -4), api.MeetNone},
		{seg(6, 6, -6, -1), seg(-3, -3, -5, 2), api.MeetCross},
		{seg(-1, 4, 1, 6), seg(5, -1, 0, 5), api.MeetTouch},
		{seg(414247, -1352368, -1792904, -98103), seg(-1201721, -1259018, -1584277, 622827), api.MeetCross},
		{seg(-583661, -1448396, -66052, -589112), seg(-285, 1712459, 1205694, 24293), api.MeetNone},
		{seg(1951153, -892463, 1412783, 1925939), seg(-371137, 1829160, -1864199, 1940279), api.MeetNone},
		{seg(-bound, -bound, bound, bound), seg(-bound, bound, bound, -bound), api.MeetCross},
		{seg(-bound, -bound, bound, bound), seg(bound, bound-1, bound-1, bound), api.MeetCross},
		{seg(-bound, -bound, bound, bound), seg(bound, bound-1, bound, bound-2), api.MeetNone},
		{seg(-bound, -bound, bound, bound), seg(bound, bound, -bound, -bound), api.MeetSame},
		{seg(-bound, -bound, bound, bound), seg(bound, bound, 0, 0), api.MeetOverlap},
	} {
		if got := geom.Meets(x.s, x.t); got != x.want {
			t.Errorf("Meets(%v, %v) = %d, want %d", x.s, x.t, got, x.want)
		}
	}
}

// P3.1, C3: segments of one point, which are both ends of them.
func TestMeetsOfOnePoint(t *testing.T) {
	dot := seg(2, 2, 2, 2)
	for _, x := range []struct {
		s    api.Segment
		want int
	}{
		{dot, api.MeetSame},
		{seg(2, 3, 2, 3), api.MeetNone},
		{seg(2, 2, 5, 7), api.MeetEnd},
		{seg(0, 0, 2, 2), api.MeetEnd},
		{seg(0, 0, 4, 4), api.MeetTouch},
		{seg(2, 0, 2, 9), api.MeetTouch},
		{seg(0, 2, 9, 2), api.MeetTouch},
		{seg(0, 0, 1, 1), api.MeetNone},
		{seg(3, 3, 4, 4), api.MeetNone},
		{seg(0, 0, 4, 5), api.MeetNone},
	} {
		for _, s := range []api.Segment{x.s, turned(x.s)} {
			if a, b := geom.Meets(dot, s), geom.Meets(s, dot); a != x.want || b != x.want {
				t.Errorf("Meets(%v, %v) = %d, exchanged %d, want %d", dot, s, a, b, x.want)
			}
		}
	}
}

// P3.1, C2, C3 and C4: all segments and points of a small square, computed with rational numbers.
func TestSmallPlain(t *testing.T) {
	points := square(3)
	segments := allSegments(points)
	for i, s := range segments {
		for _, p := range points {
			if got, want := geom.On(s, p), plainOn(s, p); got != want {
				t.Fatalf("On(%v, %v) = %v, want %v", s, p, got, want)
			}
			if got, want := geom.Near(s, p), plainNear(s, p); got != want {
				t.Fatalf("Near(%v, %v) = %d, want %d", s, p, got, want)
			}
		}
		for j := i % 3; j < len(segments); j += 3 {
			if got, want := geom.Meets(s, segments[j]), plainMeets(s, segments[j]); got != want {
				t.Fatalf("Meets(%v, %v) = %d, want %d", s, segments[j], got, want)
			}
		}
	}
}

// P3.1, C2, C3 and C4: segments and points of all sizes, computed with rational numbers.
func TestGreatPlain(t *testing.T) {
	r := rand.New(rand.NewSource(2))
	for range 4000 {
		l := chosen(r, 20)
		i, j, k, m := r.Intn(20), r.Intn(20), r.Intn(20), r.Intn(20)
		s, u, p := line(l[i], l[j]), line(l[k], l[m]), l[r.Intn(20)]
		if got, want := geom.Meets(s, u), plainMeets(s, u); got != want {
			t.Fatalf("Meets(%v, %v) = %d, want %d", s, u, got, want)
		}
		if got, want := geom.On(s, p), plainOn(s, p); got != want {
			t.Fatalf("On(%v, %v) = %v, want %v", s, p, got, want)
		}
		if got, want := geom.Near(s, p), plainNear(s, p); got != want {
			t.Fatalf("Near(%v, %v) = %d, want %d", s, p, got, want)
		}
	}
}

// P3.1, C2 and C4: points on and beside segments; the values come from another program.
func TestNearKnown(t *testing.T) {
	for _, x := range []struct {
		s    api.Segment
		p    api.Point
		want int
		on   bool
	}{
		{seg(0, 0, 2, 1), pt(0, 1), 0, false},
		{seg(0, 0, 1, 1), pt(0, 1), 0, false},
		{seg(0, 0, 7, 1), pt(3, 0), 0, false},
		{seg(0, 0, 7, 3), pt(2, 3), 3, false},
		{seg(5, 5, 5, 5), pt(5, 5), 0, true},
		{seg(5, 5, 5, 5), pt(6, 7), 5, false},
		{seg(0, 0, 6, 3), pt(4, 2), 0, true},
		{seg(0, 0, 6, 3), pt(0, 0), 0, true},
		{seg(0, 0, 6, 3), pt(6, 3), 0, true},
		{seg(0, 0, 6, 3), pt(8, 4), 5, false},
		{seg(0, 0, 6, 3), pt(-2, -1), 5, false},
		{seg(0, 0, 6, 0), pt(0, 4), 16, false},
		{seg(0, 0, 6, 0), pt(6, -4), 16, false},
		{seg(2, -3, 3, 0), pt(3, 2), 4, false},
		{seg(-3, 0, -2, -2), pt(2, 2), 28, false},
		{seg(3, 2, -3, -2), pt(3, -1), 6, false},
		{seg(-2, -2, 3, -1), pt(-2, -2), 0, true},
		{seg(-3, -7, 2, -3), pt(5, -6), 18, false},
		{seg(3, 6, 2, -8), pt(-8, 2), 114, false},
		{seg(-844, 362, -115, -770), pt(-103, 816), 754816, false},
		{seg(435, -234, 389, 581), pt(-246, 550), 404186, false},
		{seg(-78, -395, 357, 384), pt(372, 339), 1227, false},
		{seg(742646, -1146756, 2045819, 856961), pt(-1597836, 372652), 7786456662788, false},
		{seg(-570595, -842704, -594716, 1013170), pt(1713270, -1064256), 5265124626929, false},
		{seg(-576827, 1189959, 916223, -1259511), pt(132926, 174845), 6037794467, false},
		{seg(-2097152, -2097152, 2097152, 2097152), pt(2097151, 2097152), 0, false},
		{seg(-2097152, -2097152, 2097152, 2097151), pt(-2097152, 2097152), 8796095119360, false},
		{seg(-2097152, 2097152, 2097152, -2097152), pt(1, 2097145), 2199010672658, false},
		{seg(-2097152, -2097152, 2097152, 2097151), pt(0, 0), 0, false},
		{seg(-2097152, 0, 2097152, 1), pt(5, 2097152), 4398044413947, false},
		{seg(-2097152, -2097152, 2097152, 2097152), pt(-1, -1), 0, true},
	} {
		for _, s := range []api.Segment{x.s, turned(x.s)} {
			if got, on := geom.Near(s, x.p), geom.On(s, x.p); got != x.want || on != x.on {
				t.Errorf("%v and %v: Near %d, On %v, want %d, %v", s, x.p, got, on, x.want, x.on)
			}
		}
	}
}

// P3.1, C4: squared distances of two points.
func TestDistance(t *testing.T) {
	for _, x := range []struct {
		a, b api.Point
		want int
	}{
		{pt(0, 0), pt(0, 0), 0},
		{pt(0, 0), pt(3, 4), 25},
		{pt(-1, 2), pt(2, -2), 25},
		{pt(7, 1), pt(7, 3), 4},
		{pt(-bound, -bound), pt(bound, bound), 1 << 45},
		{pt(-bound, 0), pt(bound, 1), 1<<44 + 1},
	} {
		if a, b := geom.Distance(x.a, x.b), geom.Distance(x.b, x.a); a != x.want || b != x.want {
			t.Errorf("Distance(%v, %v) = %d, exchanged %d, want %d", x.a, x.b, a, b, x.want)
		}
	}
}

// P3.1, C5: roots; the values come from another program.
func TestRootKnown(t *testing.T) {
	for _, x := range [][2]int{
		{0, 0}, {1, 1}, {2, 1}, {3, 1}, {4, 2}, {8, 2}, {9, 3}, {15, 3}, {16, 4}, {24, 4}, {25, 5},
		{4611686018427387903, 2147483647},
		{4611686018427387904, 2147483648},
		{9223372030926249001, 3037000499},
		{9223372030926249000, 3037000498},
		{9223372036854775807, 3037000499},
		{1000000000000000000, 1000000000},
		{999999999999999999, 999999999},
		{999999999999, 999999},
		{35184372088832, 5931641},
		{986399619823250398, 993176530},
		{2518419704857414441, 1586952962},
		{8830437865810282085, 2971605267},
		{-1, 0}, {-4, 0}, {-1 << 62, 0}, {math.MinInt, 0},
	} {
		if got := geom.Root(x[0]); got != x[1] {
			t.Errorf("Root(%d) = %d, want %d", x[0], got, x[1])
		}
	}
}

// P1, P3.1: a point that is not near, in any place, yields 0 or false; a point on the bound is near.
func TestNotNear(t *testing.T) {
	for _, p := range outside() {
		for _, l := range [][]api.Point{{p, pt(0, 0), pt(0, 9)}, {pt(0, 0), p, pt(0, 9)}, {pt(0, 0), pt(0, 9), p}, {p, p, pt(1, 1)}, {p, p, p}} {
			s := line(l[0], l[1])
			if n := geom.Orient(l[0], l[1], l[2]); n != 0 {
				t.Errorf("Orient(%v) = %d", l, n)
			}
			if geom.On(s, l[2]) || geom.Near(s, l[2]) != 0 {
				t.Errorf("On or Near (%v)", l)
			}
			for _, other := range []api.Segment{line(l[1], l[2]), line(l[2], l[2]), seg(0, 0, 0, 9)} {
				checkNoMeeting(t, line(l[0], p), other)
			}
		}
		for _, l := range [][2]api.Point{{p, pt(0, 0)}, {pt(0, 0), p}, {p, p}} {
			if n := geom.Distance(l[0], l[1]); n != 0 {
				t.Errorf("Distance(%v) = %d", l, n)
			}
		}
	}
	if geom.Distance(pt(bound, -bound), pt(0, 0)) == 0 || !geom.On(seg(bound, bound, -bound, -bound), pt(bound, bound)) {
		t.Error("a point on the bound is not taken as near")
	}
}

// checkNoMeeting checks that a segment with an end that is not near meets no other one, nor itself.
func checkNoMeeting(t *testing.T, s, other api.Segment) {
	t.Helper()
	for _, x := range [][2]api.Segment{{s, other}, {other, s}, {turned(s), other}, {other, turned(s)}, {s, s}} {
		if n := geom.Meets(x[0], x[1]); n != api.MeetNone {
			t.Errorf("Meets(%v, %v) = %d", x[0], x[1], n)
		}
	}
}

// P3.2: the sign of Orient changes with an exchange, stays with a move, and is 0 for equal points.
func TestOrientation(t *testing.T) {
	r := rand.New(rand.NewSource(3))
	for range 5000 {
		l := chosen(r, 15)
		a, b, c := l[r.Intn(15)], l[r.Intn(15)], l[r.Intn(15)]
		n := geom.Orient(a, b, c)
		if geom.Orient(b, a, c) != -n || geom.Orient(a, c, b) != -n || geom.Orient(c, b, a) != -n {
			t.Fatalf("an exchange in %v, %v, %v does not change the sign", a, b, c)
		}
		if geom.Orient(a, a, c) != 0 || geom.Orient(a, b, b) != 0 || geom.Orient(a, b, a) != 0 {
			t.Fatalf("two of %v, %v, %v are equal, but Orient is not 0", a, b, c)
		}
		halves := []api.Point{pt(a.X/2, a.Y/2), pt(b.X/2, b.Y/2), pt(c.X/2, c.Y/2)}
		dx, dy := r.Intn(bound)-bound/2, r.Intn(bound)-bound/2
		n = geom.Orient(halves[0], halves[1], halves[2])
		for i := range halves {
			halves[i] = pt(halves[i].X+dx, halves[i].Y+dy)
		}
		if geom.Orient(halves[0], halves[1], halves[2]) != n {
			t.Fatalf("a move to %v changes Orient", halves)
		}
	}
}

// P3.3: Compare is a total order: of each two points that differ, one comes before the other, and it agrees with a sorted list.
func TestOrder(t *testing.T) {
	r := rand.New(rand.NewSource(4))
	l := append(append(square(3), outside()...), chosen(r, 30)...)
	slices.SortFunc(l, func(a, b api.Point) int {
		if a.X != b.X {
			return big.NewInt(int64(a.X)).Cmp(big.NewInt(int64(b.X)))
		}
		return big.NewInt(int64(a.Y)).Cmp(big.NewInt(int64(b.Y)))
	})
	l = slices.Compact(l)
	for i, a := range l {
		for j, b := range l {
			want := 0
			if i < j {
				want = -1
			} else if i > j {
				want = 1
			}
			if got := geom.Compare(a, b); got != want {
				t.Fatalf("Compare(%v, %v) = %d, want %d", a, b, got, want)
			}
		}
	}
}

// P3.4, P3.5: the order of segments and of their ends makes no difference, and common points and sides fit to the meeting.
func TestMeetings(t *testing.T) {
	points := square(3)
	for i, s := range allSegments(points) {
		if geom.Meets(s, s) != api.MeetSame || geom.Meets(s, turned(s)) != api.MeetSame {
			t.Fatalf("%v does not meet itself", s)
		}
		if s.A != s.B && (geom.Meets(s, line(s.A, s.A)) != api.MeetEnd || geom.Meets(line(s.B, s.B), s) != api.MeetEnd) {
			t.Fatalf("%v does not meet its ends", s)
		}
		for j, u := range allSegments(points) {
			if (i+j)%3 == 0 {
				checkMeeting(t, s, u, points)
			}
		}
	}
	r := rand.New(rand.NewSource(5))
	for range 2000 {
		l := chosen(r, 20)
		checkMeeting(t, line(l[r.Intn(20)], l[r.Intn(20)]), line(l[r.Intn(20)], l[r.Intn(20)]), l)
	}
}

// checkMeeting checks P3.4 and P3.5 for two segments and some points.
func checkMeeting(t *testing.T, s, u api.Segment, points []api.Point) {
	t.Helper()
	n := geom.Meets(s, u)
	for _, other := range []int{geom.Meets(u, s), geom.Meets(turned(s), u), geom.Meets(s, turned(u)), geom.Meets(turned(u), turned(s))} {
		if other != n {
			t.Fatalf("%v and %v meet by %d, and exchanged by %d", s, u, n, other)
		}
	}
	common := map[api.Point]bool{}
	for _, p := range points {
		if geom.On(s, p) && geom.On(u, p) {
			common[p] = true
		}
	}
	if len(common) > 0 && n == api.MeetNone || len(common) > 1 && n != api.MeetSame && n != api.MeetOverlap {
		t.Fatalf("%v and %v have the common points %v and meet by %d", s, u, common, n)
	}
	if n == api.MeetCross {
		if geom.Orient(s.A, s.B, u.A)*geom.Orient(s.A, s.B, u.B) != -1 || geom.Orient(u.A, u.B, s.A)*geom.Orient(u.A, u.B, s.B) != -1 {
			t.Fatalf("%v and %v cross, but ends are on one side", s, u)
		}
	}
}

// P3.6: no point of a segment is nearer than Near says; it is 0 on the segment, and not greater than the distance of an end.
func TestNearest(t *testing.T) {
	r := rand.New(rand.NewSource(6))
	for range 3000 {
		l := chosen(r, 20)
		s, p := line(l[r.Intn(20)], l[r.Intn(20)]), l[r.Intn(20)]
		n := geom.Near(s, p)
		if n < 0 || n > geom.Distance(s.A, p) || n > geom.Distance(s.B, p) {
			t.Fatalf("Near(%v, %v) = %d is greater than the distance of an end", s, p, n)
		}
		for i := range 9 {
			u := big.NewRat(int64(i), 8)
			if along(s, u).far(spotOf(p)).Cmp(rat(n)) < 0 {
				t.Fatalf("Near(%v, %v) = %d, but the point at %v is nearer", s, p, n, u)
			}
		}
		middle := pt((s.A.X+s.B.X)/2, (s.A.Y+s.B.Y)/2)
		if geom.On(s, middle) && geom.Near(s, middle) != 0 || geom.Near(s, s.A) != 0 || geom.Near(s, s.B) != 0 {
			t.Fatalf("Near of a point of %v is not 0", s)
		}
	}
}

// P3.7, C5: the root of a square is its number, greater numbers have no lesser roots, and no greater number has such a square.
func TestRoots(t *testing.T) {
	last := 0
	for n := range 70000 {
		root := geom.Root(n)
		if root < last || root*root > n || (root+1)*(root+1) <= n {
			t.Fatalf("Root(%d) = %d after %d", n, root, last)
		}
		last = root
	}
	r := rand.New(rand.NewSource(7))
	for range 20000 {
		n := int(r.Int63n(3037000500))
		if geom.Root(n*n) != n || n > 0 && geom.Root(n*n-1) != n-1 {
			t.Fatalf("the roots of the square of %d, or of the number before it", n)
		}
		m := int(r.Int63()) >> r.Intn(63)
		root := big.NewInt(0).Sqrt(big.NewInt(int64(m)))
		if geom.Root(m) != int(root.Int64()) {
			t.Fatalf("Root(%d) = %d, want %v", m, geom.Root(m), root)
		}
	}
}

// P3: equal arguments yield equal results, whatever was asked before.
func TestEqualResults(t *testing.T) {
	ask := func() [6]int {
		on := 0
		if geom.On(seg(0, 0, 4, 2), pt(2, 1)) {
			on = 1
		}
		return [6]int{geom.Orient(pt(0, 0), pt(2, 0), pt(1, 1)), geom.Compare(pt(1, 2), pt(1, 3)), geom.Meets(seg(0, 0, 2, 2), seg(0, 2, 2, 0)), geom.Near(seg(0, 0, 6, 0), pt(3, 5)), geom.Root(99), on}
	}
	first := ask()
	geom.Near(seg(-bound, 3, bound, 9), pt(17, bound))
	geom.Meets(seg(0, 0, math.MaxInt, 1), seg(math.MinInt, 0, 1, 1))
	if first != ask() || first != [6]int{1, -1, api.MeetCross, 25, 9, 1} {
		t.Errorf("first %v, then %v", first, ask())
	}
}
