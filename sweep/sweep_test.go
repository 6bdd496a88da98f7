package sweep_test

import (
	"math"
	"math/rand"
	"slices"
	"testing"

	"planisphere/api"
	"planisphere/geom"
	"planisphere/sweep"
)

// all returns the meetings of a list that is not too long.
func all(t *testing.T, l []api.Segment) []api.Meet {
	t.Helper()
	got, e := sweep.All(l)
	if e != api.OK {
		t.Fatalf("All of %d segments: %d", len(l), e)
	}
	return got
}

// P5.1: the chapter's examples.
func TestExamples(t *testing.T) {
	for _, x := range []struct {
		l    []api.Segment
		want []api.Meet
	}{
		{segs(0, 0, 4, 4, 0, 4, 4, 0, 9, 9, 9, 9), meets(0, 1, api.MeetCross)},
		{segs(0, 0, 4, 0, 4, 0, 4, 4, 2, 0, 2, 5, 4, 0, 0, 0), meets(0, 1, api.MeetEnd, 0, 2, api.MeetTouch, 0, 3, api.MeetSame, 1, 3, api.MeetEnd, 2, 3, api.MeetTouch)},
	} {
		if got := all(t, x.l); !slices.Equal(got, x.want) {
			t.Errorf("All(%v) = %v, want %v", x.l, got, x.want)
		}
	}
}

// P5.1, E1: meetings of all kinds; the values come from another program.
func TestKnown(t *testing.T) {
	for _, x := range []struct {
		l    []api.Segment
		want []api.Meet
	}{
		{nil, nil},
		{[]api.Segment{}, nil},
		{segs(1, 2, 3, 4), nil},
		{segs(1, 2, 1, 2), nil},
		{segs(1, 0, -1, 1, -1, -2, -1, 2, 2, 1, -1, -1, -2, -2, -1, -1, -1, -1, 0, 0), meets(0, 1, api.MeetTouch, 0, 2, api.MeetCross, 1, 2, api.MeetTouch, 1, 3, api.MeetTouch, 1, 4, api.MeetTouch, 2, 3, api.MeetEnd, 2, 4, api.MeetEnd, 3, 4, api.MeetEnd)},
		{segs(-2, 1, 2, 2, -2, -2, 2, -2, 0, -1, -3, -1, 0, -2, -2, -1, -3, -1, -1, 3, 1, 1, -3, 1), meets(0, 4, api.MeetTouch, 0, 5, api.MeetTouch, 1, 3, api.MeetTouch, 2, 3, api.MeetTouch, 2, 4, api.MeetEnd, 4, 5, api.MeetCross)},
		{segs(3, 0, 0, 1, -2, -4, 3, 4, 0, 1, 0, 3, 0, 4, 1, 1, 0, 1, 2, 1, -2, 3, 1, 1), meets(0, 1, api.MeetCross, 0, 2, api.MeetEnd, 0, 4, api.MeetEnd, 1, 4, api.MeetCross, 2, 4, api.MeetEnd, 2, 5, api.MeetCross, 3, 4, api.MeetTouch, 3, 5, api.MeetEnd, 4, 5, api.MeetTouch)},
		{segs(-1, -6, -4, 3, 3, -4, 5, -5, -2, 2, 3, -4, 4, 5, -4, 1, 6, 0, 6, 0, -5, -1, -1, 1, -3, 1, 3, 0), meets(0, 3, api.MeetCross, 0, 5, api.MeetCross, 1, 2, api.MeetEnd, 2, 3, api.MeetTouch, 2, 5, api.MeetCross, 2, 6, api.MeetCross, 5, 6, api.MeetCross)},
		{segs(-325, -48, -451, 285, 184, 458, -336, 45, -16, 492, 3, 110, -499, -394, -371, 333, 370, -71, 201, -447, -288, -499, -467, 430), meets(0, 3, api.MeetCross, 0, 5, api.MeetCross, 1, 2, api.MeetCross, 3, 5, api.MeetCross)},
		{segs(-118911, 1946109, 874820, 1197204, 1796755, -288403, -408301, 226867, -409730, 446496, 897490, -70815, 978529, 853716, -14771, -1576508, 2049978, 1265483, 831927, -897127, -899040, -97912, 2014213, 1103713), meets(1, 3, api.MeetCross, 1, 4, api.MeetCross, 1, 5, api.MeetCross, 2, 3, api.MeetCross, 2, 5, api.MeetCross, 3, 5, api.MeetCross, 4, 5, api.MeetCross)},
		{segs(1, -3, 1, 3, 1, 0, 1, 5, 1, 4, 1, 4, 1, 5, 1, 6, 0, 6, 2, 6, 1, 3, 1, -3), meets(0, 1, api.MeetOverlap, 0, 5, api.MeetSame, 1, 2, api.MeetTouch, 1, 3, api.MeetEnd, 1, 5, api.MeetOverlap, 3, 4, api.MeetTouch)},
		{segs(2097152, 2097152, -2097152, -2097152, -2097152, 2097152, 2097152, -2097152, 0, 0, 0, 0, 2097152, 0, -2097152, 0, 2097153, 0, -2097152, 0, 2097152, 2097152, 2097152, -2097152), meets(0, 1, api.MeetCross, 0, 2, api.MeetTouch, 0, 3, api.MeetCross, 0, 5, api.MeetEnd, 1, 2, api.MeetTouch, 1, 3, api.MeetCross, 1, 5, api.MeetEnd, 2, 3, api.MeetTouch, 3, 5, api.MeetTouch)},
	} {
		if got := all(t, x.l); !slices.Equal(got, x.want) {
			t.Errorf("All(%v) = %v, want %v", x.l, got, x.want)
		}
	}
}

// P5.1, E1: segments that share only the greatest X of one and the least X of the other, or only such a Y, in either order.
func TestEdgesOfBoxes(t *testing.T) {
	for _, x := range []struct {
		s, t []api.Segment
		kind int
	}{
		{segs(0, 0, 4, 4), segs(4, 4, 8, 0), api.MeetEnd},
		{segs(0, 0, 4, 4), segs(8, 8, 4, 4), api.MeetEnd},
		{segs(0, 0, 4, 0), segs(4, -3, 4, 3), api.MeetTouch},
		{segs(0, 0, 0, 4), segs(-3, 4, 3, 4), api.MeetTouch},
		{segs(0, 0, 0, 4), segs(-3, 0, 3, 0), api.MeetTouch},
		{segs(0, 0, 0, 4), segs(0, 4, 0, 9), api.MeetEnd},
		{segs(0, 0, 0, 4), segs(0, 3, 0, 9), api.MeetOverlap},
		{segs(0, 0, 4, 0), segs(4, 0, 4, 0), api.MeetEnd},
		{segs(0, 0, 4, 0), segs(2, 0, 2, 0), api.MeetTouch},
		{segs(0, 0, 4, 0), segs(5, 0, 9, 0), api.MeetNone},
		{segs(0, 0, 0, 4), segs(0, 5, 0, 9), api.MeetNone},
		{segs(0, 0, 4, 4), segs(3, 0, 4, 3), api.MeetNone},
	} {
		for _, l := range [][]api.Segment{slices.Concat(x.s, x.t), slices.Concat(x.t, x.s)} {
			var want []api.Meet
			if x.kind != api.MeetNone {
				want = meets(0, 1, x.kind)
			}
			if got := all(t, l); !slices.Equal(got, want) {
				t.Errorf("All(%v) = %v, want %v", l, got, want)
			}
		}
	}
}

// P5.1, P1: segments with a point that is not near meet nothing, not even themselves; the others meet as if these were not there.
func TestFar(t *testing.T) {
	near := segs(0, 0, 4, 4, 0, 4, 4, 0, 2, 2, 2, 2, bound, bound, -bound, -bound)
	for _, far := range [][]api.Segment{
		segs(0, 0, bound+1, 0),
		segs(0, 0, 4, -bound-1),
		segs(-bound-1, 2, 4, 2),
		segs(2, bound+1, 2, 2),
		segs(math.MinInt, math.MinInt, math.MaxInt, math.MaxInt),
		segs(math.MaxInt, math.MinInt, math.MinInt, math.MaxInt),
		segs(math.MaxInt, 2, 2, math.MaxInt),
		segs(math.MinInt, 2, 2, math.MinInt),
		segs(math.MaxInt, math.MaxInt, math.MaxInt, math.MaxInt),
	} {
		if got := all(t, slices.Concat(far, far)); len(got) != 0 {
			t.Errorf("%v meets itself: %v", far, got)
		}
		var want []api.Meet
		for _, m := range plainAll(near) {
			want = append(want, api.Meet{A: m.A + 1, B: m.B + 1, Kind: m.Kind})
		}
		if got := all(t, slices.Concat(far, near, far)); !slices.Equal(got, want) {
			t.Errorf("with %v: %v, want %v", far, got, want)
		}
	}
}

// P5.1, P5.2: all lists of two segments and many of three among the points of a small square.
func TestFew(t *testing.T) {
	var possible []api.Segment
	for i := range 81 {
		possible = append(possible, segs(i%3, i/3%3, i/9%3, i/27)...)
	}
	for i, a := range possible {
		for j, b := range possible {
			c := possible[(7*i+11*j)%len(possible)]
			for _, l := range [][]api.Segment{{a, b}, {a, b, c}} {
				if got := all(t, l); !slices.Equal(got, plainAll(l)) {
					t.Fatalf("All(%v) = %v, want %v", l, got, plainAll(l))
				}
			}
		}
	}
}

// P5.1, P5.2: lists that chance chooses have exactly the pairs that meet, in a strict order.
func TestPairs(t *testing.T) {
	r := rand.New(rand.NewSource(5))
	kinds := map[int]int{}
	for range 3000 {
		l := chosen(r, r.Intn(40))
		got := all(t, l)
		if !slices.Equal(got, plainAll(l)) {
			t.Fatalf("All(%v) = %v, want %v", l, got, plainAll(l))
		}
		for i, m := range got {
			kinds[m.Kind]++
			if m.A < 0 || m.A >= m.B || m.B >= len(l) || m.Kind != geom.Meets(l[m.A], l[m.B]) {
				t.Fatalf("All(%v) has %v", l, m)
			}
			if i > 0 && (got[i-1].A > m.A || got[i-1].A == m.A && got[i-1].B >= m.B) {
				t.Fatalf("All(%v) has %v before %v", l, got[i-1], m)
			}
		}
	}
	for kind := api.MeetEnd; kind <= api.MeetOverlap; kind++ {
		if kinds[kind] < 500 {
			t.Errorf("only %d meetings of kind %d", kinds[kind], kind)
		}
	}
	if len(kinds) != api.MeetOverlap {
		t.Error(kinds)
	}
}

// P5.1, P5.2: a longer list, in which the segments open and end at many places.
func TestPairsMany(t *testing.T) {
	r := rand.New(rand.NewSource(6))
	for range 3 {
		l := chosen(r, 1500)
		if got := all(t, l); !slices.Equal(got, plainAll(l)) {
			t.Fatal("meetings differ")
		}
	}
}

// P5.3: with the segments in another order, the same pairs meet in the same way.
func TestOrder(t *testing.T) {
	r := rand.New(rand.NewSource(7))
	for range 1000 {
		l := chosen(r, r.Intn(30))
		order := r.Perm(len(l))
		other := make([]api.Segment, len(l))
		for i, k := range order {
			other[i] = l[k]
		}
		kinds := map[[2]int]int{}
		for _, m := range all(t, l) {
			kinds[[2]int{m.A, m.B}] = m.Kind
		}
		found := all(t, other)
		for _, m := range found {
			a, b := order[m.A], order[m.B]
			if kinds[[2]int{min(a, b), max(a, b)}] != m.Kind {
				t.Fatalf("%v and %v meet otherwise in another order", l[a], l[b])
			}
		}
		if len(found) != len(kinds) {
			t.Fatal(len(found), len(kinds))
		}
	}
}

// P5.4: the meetings of the first segments are those of all whose indices are among theirs.
func TestParts(t *testing.T) {
	r := rand.New(rand.NewSource(8))
	for range 300 {
		l := chosen(r, r.Intn(30))
		whole := all(t, l)
		for count := range len(l) + 1 {
			want := slices.DeleteFunc(slices.Clone(whole), func(m api.Meet) bool { return m.B >= count })
			if got := all(t, l[:count]); !slices.Equal(got, want) {
				t.Fatalf("the first %d of %v: %v, want %v", count, l, got, want)
			}
		}
	}
}

// P5.5: moved by the same amount, or with the ends exchanged, the segments meet in the same way.
func TestMoving(t *testing.T) {
	r := rand.New(rand.NewSource(9))
	for range 1000 {
		l := chosen(r, r.Intn(30))
		// What is left of the list stays among the near points wherever it is moved.
		l = slices.DeleteFunc(l, func(s api.Segment) bool {
			return max(s.A.X, s.A.Y, s.B.X, s.B.Y) > 1000000 || min(s.A.X, s.A.Y, s.B.X, s.B.Y) < -1000000
		})
		want := all(t, l)
		x, y := r.Intn(2000001)-1000000, r.Intn(2000001)-1000000
		if got := all(t, moved(l, x, y)); !slices.Equal(got, want) {
			t.Fatalf("%v moved by %d, %d: %v, want %v", l, x, y, got, want)
		}
		for _, turn := range []func(int) bool{
			func(int) bool { return true },
			func(int) bool { return r.Intn(2) == 0 },
		} {
			if got := all(t, turned(l, turn)); !slices.Equal(got, want) {
				t.Fatalf("%v with ends exchanged: %v, want %v", l, got, want)
			}
		}
	}
	edge := segs(0, 0, 4, 4, 0, 4, 4, 0, 4, 0, 4, 4)
	for _, x := range []int{-bound, bound - 4} {
		for _, y := range []int{-bound, bound - 4} {
			if got := all(t, moved(edge, x, y)); !slices.Equal(got, meets(0, 1, api.MeetCross, 0, 2, api.MeetEnd, 1, 2, api.MeetEnd)) {
				t.Errorf("moved to the corner %d, %d: %v", x, y, got)
			}
		}
	}
}

// P5.6: 20000 segments are possible, and not more: with more there are no meetings.
func TestLimit(t *testing.T) {
	steps := make([]api.Segment, 0, 20001)
	var want []api.Meet
	for i := range 19999 {
		// The list is not in the order of X, and every other step is too high to be crossed.
		k := 7 * i % 20000
		steps = append(steps, segs(100*k-1000000, k%2*10, 100*k-999900, k%2*10+2)...)
		if k%2 == 0 {
			want = append(want, api.Meet{A: i, B: 19999, Kind: api.MeetCross})
		}
	}
	steps = append(steps, segs(-1000000, 1, 1000000, 1)...)
	if got, e := sweep.All(steps); e != api.OK || len(got) != 10000 || !slices.Equal(got, want) {
		t.Errorf("20000 segments: %d meetings, error %d", len(got), e)
	}
	if got, e := sweep.All(append(steps, segs(0, 0, 0, 0)...)); e != api.ErrLimit || len(got) != 0 {
		t.Errorf("20001 segments: %d meetings, error %d", len(got), e)
	}
	if got, e := sweep.All(make([]api.Segment, 100000)); e != api.ErrLimit || len(got) != 0 {
		t.Errorf("100000 segments: %d meetings, error %d", len(got), e)
	}
}

// P5.6, P1: 20000 segments that are all open at the same time, and many that meet.
func TestLimitOpen(t *testing.T) {
	var rows []api.Segment
	for i := range 19990 {
		rows = append(rows, segs(-1000000, 2*i, 1000000, 2*i)...)
	}
	for i := range 10 {
		rows = append(rows, segs(i, 0, i, 39978)...)
	}
	got := all(t, rows)
	if len(got) != 199900 {
		t.Fatal(len(got), "meetings")
	}
	for i, m := range got {
		want := api.Meet{A: i / 10, B: 19990 + i%10, Kind: api.MeetCross}
		if m.A == 0 || m.A == 19989 {
			want.Kind = api.MeetTouch
		}
		if m != want {
			t.Fatalf("meeting %d is %v, want %v", i, m, want)
		}
	}
}

// P3: equal arguments yield equal results; a list is not modified, and shares no memory with the result.
func TestIndependence(t *testing.T) {
	r := rand.New(rand.NewSource(10))
	for range 200 {
		l := chosen(r, 30)
		before := slices.Clone(l)
		first := all(t, l)
		if !slices.Equal(l, before) {
			t.Fatal("the list is modified")
		}
		kept := slices.Clone(first)
		second := all(t, l)
		for i := range first {
			first[i] = api.Meet{}
		}
		if !slices.Equal(second, kept) || !slices.Equal(all(t, l), kept) {
			t.Fatal("equal lists have different meetings")
		}
	}
}
