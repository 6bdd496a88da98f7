package ring_test

import (
	"math"
	"math/rand"
	"slices"
	"testing"

	"planisphere/api"
	"planisphere/geom"
	"planisphere/ring"
)

// The rings of the chapter's examples.
var (
	exampleR = pts(0, 0, 4, 0, 4, 4, 0, 4)
	exampleS = pts(1, 1, 2, 1, 1, 2)
	exampleT = pts(0, 0, 4, 0, 2, -3)
	exampleU = pts(4, 4, 0, 4, 0, 0, 2, 2)
)

// P4.1: the chapter's examples.
func TestExamples(t *testing.T) {
	if a, b := ring.Twice(exampleR), ring.Twice(exampleS); a != 32 || b != 1 {
		t.Error("Twice", a, b)
	}
	for i, p := range pts(4, 2, 1, 1, 5, 5) {
		if got, want := ring.Side(exampleR, p), []int{0, 1, -1}[i]; got != want {
			t.Errorf("Side of %v is %d, want %d", p, got, want)
		}
	}
	if got := ring.Relation(exampleS, exampleR); got != api.RelInside {
		t.Error("s and r", got)
	}
	if got := ring.Relation(exampleR, exampleT); got != api.RelApart {
		t.Error("r and t", got)
	}
	if got := ring.Relation(exampleU, exampleR); got != api.RelInside {
		t.Error("u and r", got)
	}
	if ring.Simple(pts(0, 0, 4, 0, 2, 0)) {
		t.Error("three corners on a line are simple")
	}
}

// P4.1, D1: areas, and which rings are simple; the values come from another program.
func TestAreasKnown(t *testing.T) {
	for _, x := range []struct {
		r      []api.Point
		twice  int
		simple bool
	}{
		{pts(1793477, 333330, -278515, -689533, 538412, -1234207, 893139, 422302, -280416, -670855, -1717149, -1400041), 1599318137942, false},
		{pts(118, 356, -475, 46, -730, -145, 374, 360, 507, -263, 11, -115, 301, -299), -94117, false},
		{pts(7, 9, -1, -9, 8, -8, 1, -1), 42, false},
		{pts(10, 8, 2, -3, -8, 5, -9, -2, -4, 3), -96, false},
		{pts(924337, 1134853, -340784, -249459, -1750675, 288062, -100548, -146407), -72235653948, false},
		{pts(429, -458, 447, -92, 464, 714, 115, 748, 248, -606), 683262, true},
		{pts(5, -7, -25, -38, -31, -36, -12, -48, 25, -12, 39, 38), 2712, true},
		{pts(2150, -816, -1177, -2079, -2103, 216, -801, 2551, -1237, 611, -1569, 250, 1183, -891), -9880252, true},
		{pts(2, -4, 2, -6, -1, -5, 0, -5, 0, 2), -19, true},
		{pts(2, 5, 1, 5, -6, -3, -1, 1, 4, 3), 30, true},
		{pts(40, -8, -20, 43, -42, 31, -19, 1, 13, 8, -4, -44, 36, -35), 5424, true},
		{pts(-38, -22, -50, 27, 4, -12, -17, 32, -14, 28, 34, -8, -14, -19), -3750, true},
	} {
		if got := ring.Twice(x.r); got != x.twice {
			t.Errorf("Twice(%v) = %d, want %d", x.r, got, x.twice)
		}
		if got := ring.Simple(x.r); got != x.simple {
			t.Errorf("Simple(%v) = %v, want %v", x.r, got, x.simple)
		}
	}
}

// P4.1, D1: what keeps a ring from being simple, each alone.
func TestSimpleKnown(t *testing.T) {
	for _, x := range []struct {
		why  string
		r    []api.Point
		want bool
	}{
		{"no corner", nil, false},
		{"one corner", pts(1, 1), false},
		{"two corners", pts(0, 0, 4, 0), false},
		{"a triangle", pts(0, 0, 4, 0, 0, 4), true},
		{"a triangle to the right", pts(0, 0, 0, 4, 4, 0), true},
		{"three equal corners", pts(1, 1, 1, 1, 1, 1), false},
		{"two equal corners of three", pts(0, 0, 4, 0, 4, 0), false},
		{"the last corner is the first one", pts(0, 0, 4, 0, 0, 4, 0, 0), false},
		{"a corner twice in a row", pts(0, 0, 4, 0, 4, 0, 0, 4), false},
		{"a corner twice, apart", pts(0, 0, 2, 2, 4, 0, 4, 4, 2, 2, 0, 4), false},
		{"a side twice", pts(0, 0, 4, 0, 4, 4, 4, 0, 0, 4), false},
		{"sides that cross", pts(0, 0, 4, 4, 4, 0, 0, 4), false},
		{"a corner on a side", pts(0, 0, 4, 0, 4, 4, 2, 0, 0, 4), false},
		{"sides that overlap", pts(0, 0, 6, 0, 6, 2, 4, 0, 2, 0, 0, 2), false},
		{"back on the same side", pts(0, 0, 4, 0, 2, 0, 2, 4), false},
		{"back on the last side", pts(2, 0, 2, 4, 0, 0, 4, 0), false},
		{"a straight corner", pts(0, 0, 2, 0, 4, 0, 4, 4), true},
		{"a straight first corner", pts(2, 0, 4, 0, 4, 4, 0, 0), true},
		{"four corners on a line", pts(0, 0, 3, 3, 1, 1, 2, 2), false},
		{"a bend inwards", pts(4, 4, 0, 4, 0, 0, 2, 2), true},
		{"the greatest square", pts(-bound, -bound, bound, -bound, bound, bound, -bound, bound), true},
		{"X too great", pts(0, 0, bound+1, 0, 0, 4), false},
		{"X too small", pts(0, 0, 4, 0, -bound-1, 4), false},
		{"Y too great", pts(0, bound+1, 4, 0, 0, 4), false},
		{"Y too small", pts(0, 0, 4, -bound-1, 0, 4), false},
		{"a thin triangle", pts(-bound, -bound, bound, bound, bound-1, bound-1), false},
		{"a thinner one", pts(-bound, -bound, bound, bound, bound, bound-1), true},
		{"a far corner that would cross nothing", pts(0, 0, 4, 0, math.MaxInt, math.MinInt), false},
	} {
		if got := ring.Simple(x.r); got != x.want || got != plainSimple(x.r) {
			t.Errorf("%s: Simple(%v) = %v", x.why, x.r, got)
		}
	}
}

// P4.1, D1: Twice is 0 for few or many corners, or a far one; it is not for rings that are not simple.
func TestTwiceEdges(t *testing.T) {
	for _, x := range []struct {
		r    []api.Point
		want int
	}{
		{nil, 0},
		{pts(3, 4), 0},
		{pts(3, 4, 5, 7), 0},
		{pts(0, 0, 4, 0, 4, 0, 0, 4), 16},
		{pts(0, 0, 4, 0, 4, 4, 4, 0, 0, 4), 16},
		{pts(0, 0, 4, 4, 4, 0, 0, 4), 0},
		{pts(0, 0, 9, 0, 9, 9, 4, -1), 36},
		{pts(-bound, -bound, bound, -bound, bound, bound, -bound, bound), 8 * bound * bound},
		{pts(0, 0, bound+1, 0, 0, 4), 0},
		{pts(0, 0, 4, 0, 0, -bound-1), 0},
		{pts(math.MinInt, math.MinInt, 4, 0, 0, 4), 0},
	} {
		if got := ring.Twice(x.r); got != x.want || got != plainTwice(x.r) {
			t.Errorf("Twice(%v) = %d, want %d", x.r, got, x.want)
		}
	}
}

// P4.1, D1: 2000 corners are possible, and not more.
func TestLimit(t *testing.T) {
	var long []api.Point
	for i := range 1000 {
		long = append(long, api.Point{X: i, Y: 0})
	}
	for i := range 1001 {
		long = append(long, api.Point{X: 999 - i, Y: 1})
	}
	most, inside := long[:2000], api.Point{X: 7, Y: 1}
	if !ring.Simple(most) || ring.Twice(most) != 2*999 || ring.Side(most, inside) != 0 || ring.Relation(most, most) != api.RelSame {
		t.Error("2000 corners are too many")
	}
	if ring.Simple(long) || ring.Twice(long) != 0 || ring.Side(long, inside) != -1 || ring.Relation(long, long) != api.RelCross {
		t.Error("2001 corners are not too many")
	}
}

// P4.1, D1: all lists of three and four points of a small square, whose corners may be equal.
func TestSimplePlainFew(t *testing.T) {
	points, count := square(3), 0
	check := func(r []api.Point) {
		if got := ring.Simple(r); got != plainSimple(r) {
			t.Fatalf("Simple(%v) = %v", r, got)
		}
		if got := ring.Twice(r); got != plainTwice(r) {
			t.Fatalf("Twice(%v) = %d", r, got)
		}
		count++
	}
	for _, a := range points {
		for _, b := range points {
			for _, c := range points {
				check([]api.Point{a, b, c})
				for _, d := range points {
					check([]api.Point{a, b, c, d})
				}
			}
		}
	}
	if count != 9*9*9*10 {
		t.Error(count)
	}
}

// P4.1, D1: lists of points that chance chooses, most of which are not simple, and a few that are, but for one corner.
func TestSimplePlainChosen(t *testing.T) {
	r := rand.New(rand.NewSource(1))
	found := map[bool]int{}
	for range 20000 {
		list := make([]api.Point, 3+r.Intn(6))
		k := []int{4, 9, bound + 2}[r.Intn(3)]
		for i := range list {
			list[i] = api.Point{X: r.Intn(2*k+1) - k, Y: r.Intn(2*k+1) - k}
		}
		if got := ring.Twice(list); got != plainTwice(list) {
			t.Fatalf("Twice(%v) = %d", list, got)
		}
		got := ring.Simple(list)
		if found[got]++; got != plainSimple(list) {
			t.Fatalf("Simple(%v) = %v", list, got)
		}
	}
	for _, base := range someSimple(r, 6, 3000) {
		i, p := r.Intn(len(base)), square(6)[r.Intn(36)]
		list := slices.Concat(base[:i], []api.Point{p}, base[i+r.Intn(2):])
		got := ring.Simple(list)
		if found[got]++; got != plainSimple(list) {
			t.Fatalf("Simple(%v) = %v", list, got)
		}
	}
	if found[true] < 500 || found[false] < 500 {
		t.Error(found)
	}
}

// P4.1, D1: large rings, and the same with two corners exchanged.
func TestSimpleLarge(t *testing.T) {
	r := rand.New(rand.NewSource(2))
	for _, n := range []int{3, 17, 60, 500, 2000} {
		list := star(r, n, 5, -9, 2000000)
		if n > 5 && !ring.Simple(list) {
			t.Error("star", n)
		}
		other := slices.Clone(list)
		i, j := r.Intn(n), r.Intn(n)
		other[i], other[j] = other[j], other[i]
		if got := ring.Simple(other); got != plainSimple(other) {
			t.Error("exchanged", n, i, j, got)
		}
	}
	for _, n := range []int{1, 7, 499} {
		list := comb(n, 900)
		if !ring.Simple(list) || !plainSimple(list) || ring.Twice(list) != plainTwice(list) {
			t.Error("comb", n)
		}
		list[len(list)-1].X = 0
		if ring.Simple(list) || plainSimple(list) {
			t.Error("comb with a corner twice", n)
		}
	}
}

// P4.1, D2: sides of points; the values come from another program.
func TestSideKnown(t *testing.T) {
	for _, x := range []struct {
		r, points []api.Point
		want      []int
	}{
		{pts(1048033, -1212074, -1192502, -6607, -504996, -61147, 581522, -130446, 1471653, 68710, -876037, 1242449, -1301987, -413731), pts(-460492, -321609, -405243, -64837, 532425, -63333, 662197, 312355, -395602, 534969, -607995, -199272, -99606, -711122, -504996, -61147, 1048033, 793452), []int{-1, 1, 1, 1, 1, -1, 1, 0, -1}},
		{pts(-425288, -640728, 939379, 366268, 1076582, 42848, -715877, -1440057, -918449, 673617, 261473, 1034908, 541253, 494959), pts(632513, 33664, 594166, -247024, -318406, -540913, -572826, 235521, 36437, 809598, 229672, 346024, 157514, -105058, 1076582, 42848, -425288, 880505), []int{1, 1, -1, 1, 1, 1, -1, 0, -1}},
		{pts(-248786, 1137949, -1146305, 336420, 313111, -979731, 1370748, -911575, 249516, -286906, -348034, -374813), pts(-557072, 207764, 212666, -633655, 826030, -772447, 380436, -465050, -173835, 25354, -497978, 559376, 313111, -979731, -248786, 1133394), []int{1, 1, 1, 1, -1, 1, 0, -1}},
	} {
		for i, p := range x.points {
			if got := ring.Side(x.r, p); got != x.want[i] {
				t.Errorf("Side(%v, %v) = %d, want %d", x.r, p, got, x.want[i])
			}
		}
	}
}

// P4.1, D2: points at the height of corners and of sides that are level, left and right of them.
func TestSideLevel(t *testing.T) {
	// A ring with level sides below and above, corners that point down and up, and a straight one.
	r := pts(0, 0, 2, 0, 3, 2, 4, 0, 8, 0, 8, 4, 6, 4, 6, 2, 5, 4, 4, 4, 2, 6, 0, 4, 0, 2)
	want := []string{
		".............",
		".............",
		"....b........",
		"...bib.......",
		"..biiibbbbb..",
		"..biiiiibib..",
		"..biibiibib..",
		"..bii.iiiib..",
		"..bbb.bbbbb..",
		".............",
		".............",
	}
	for i, line := range want {
		for j, letter := range line {
			p := api.Point{X: j - 2, Y: 8 - i}
			for _, list := range [][]api.Point{r, opposite(r), turnedBy(r, 4)} {
				if got := ring.Side(list, p); got != map[rune]int{'.': -1, 'b': 0, 'i': 1}[letter] {
					t.Errorf("Side of %v is %d", p, got)
				}
			}
		}
	}
}

// P4.1, D2: -1 for rings that are not simple, and for points that are not near.
func TestSideInvalid(t *testing.T) {
	most := pts(-bound, -bound, bound, -bound, bound, bound, -bound, bound)
	for _, x := range []struct {
		r    []api.Point
		p    api.Point
		want int
	}{
		{most, api.Point{}, 1},
		{most, api.Point{X: bound, Y: bound}, 0},
		{most, api.Point{X: bound - 1, Y: 1 - bound}, 1},
		{most, api.Point{X: bound + 1}, -1},
		{most, api.Point{X: -bound - 1}, -1},
		{most, api.Point{Y: bound + 1}, -1},
		{most, api.Point{Y: -bound - 1}, -1},
		{most, api.Point{X: math.MinInt, Y: math.MaxInt}, -1},
		{nil, api.Point{}, -1},
		{pts(0, 0), api.Point{}, -1},
		{pts(0, 0, 4, 0), api.Point{X: 2}, -1},
		{pts(0, 0, 4, 0, 2, 0), api.Point{X: 2}, -1},
		{pts(0, 0, 4, 4, 4, 0, 0, 4), api.Point{X: 1, Y: 2}, -1},
		{pts(0, 0, 4, 4, 4, 0, 0, 4), api.Point{}, -1},
		{pts(0, 0, 9, 0, 9, 0, 0, 9), api.Point{X: 1, Y: 1}, -1},
		{pts(0, 0, 9, 0, bound+1, 9, 0, 9), api.Point{X: 1, Y: 1}, -1},
		{pts(0, 0, math.MaxInt, 0, 9, 9), api.Point{X: 1, Y: 1}, -1},
	} {
		if got := ring.Side(x.r, x.p); got != x.want {
			t.Errorf("Side(%v, %v) = %d, want %d", x.r, x.p, got, x.want)
		}
	}
}

// P4.1, D2: all points in and around rings that chance chooses.
func TestSidePlain(t *testing.T) {
	r := rand.New(rand.NewSource(3))
	for _, list := range append(someSimple(r, 6, 500), allSimple(3)...) {
		for _, p := range square(9) {
			p = by(-1, -1)(p)
			if got, want := ring.Side(list, p), plainSide(list, p); got != want {
				t.Fatalf("Side(%v, %v) = %d, want %d", list, p, got, want)
			}
		}
	}
}

// P4.1, D3: relations of rings; the values come from another program.
func TestRelationKnown(t *testing.T) {
	for _, x := range []struct {
		r, s []api.Point
		want int
	}{
		{pts(1, 2, 0, 0, 4, 3, 1, 1, 2, 3), pts(3, 4, 2, 4, 0, 4, 0, 0, 1, 1), api.RelCross},
		{pts(-1, 9, -1, 8, -1, 7, 0, 9), pts(-2, 7, -1, 8, 0, 9, -1, 9, -2, 9), api.RelCross},
		{pts(-1198980, -1100418, -1497974, -800014, -1500000, -1400000, -1199993, -1400411, -899986, -1400822, -897960, -800836), pts(-1198980, -1100418, -1197967, -800425, -1497974, -800014, -1500000, -1400000), api.RelCross},
		{pts(1000001, -1449987, 700079, -1149931, 1000155, -849901, 1300154, -849914, 1000078, -1149944), pts(1000001, -1449987, 1300154, -849914, 700079, -1149931), api.RelCross},
		{pts(1199997, 1300001, 1399995, 1100007, 1599996, 1100012, 1600002, 1500010), pts(1400001, 1500005, 1199997, 1300001, 1399998, 1300006, 1599996, 1100012, 1600002, 1500010), api.RelCross},
		{pts(3, 0, 2, 0, 1, 1), pts(4, 3, 3, 3, 0, 4, 4, 0), api.RelApart},
		{pts(0, 8, -1, 8, 0, 9, -2, 9, 1, 10), pts(1, 10, 0, 7, 1, 7), api.RelApart},
		{pts(-898973, -1100829, -1199993, -1400411, -1498987, -1100007), pts(-1497974, -800014, -1498987, -1100007, -897960, -800836), api.RelApart},
		{pts(100158, -849862, 1300154, -849914, 100235, -549819), pts(1300077, -1149957, 1300154, -849914, 100158, -849862), api.RelApart},
		{pts(1799994, 900018, 1399998, 1300006, 1599999, 1300011), pts(1799994, 900018, 2000001, 1300021, 1600002, 1500010), api.RelApart},
		{pts(1, 1, 1, 2, 3, 3), pts(3, 3, 3, 1, 1, 1, 1, 2), api.RelInside},
		{pts(1, 7, 0, 9, 0, 8, -2, 8), pts(1, 7, 0, 9, 0, 8, -2, 9, -2, 8), api.RelInside},
		{pts(-599979, -1401233, -1498987, -1100007, -1198980, -1100418), pts(-1198980, -1100418, -1498987, -1100007, -599979, -1401233, -896947, -500843), api.RelInside},
		{pts(1300154, -849914, 1300231, -549871, 700310, -249802, 1000232, -549858, 700079, -1149931, 700002, -1449974), pts(1300231, -549871, 1300154, -849914, 700002, -1449974, 100235, -549819, 700079, -1149931, 1000232, -549858, 700310, -249802), api.RelInside},
		{pts(1199997, 1300001, 1600002, 1500010, 1599999, 1300011, 1799994, 900018, 1599993, 900013, 1399998, 1300006), pts(1399995, 1100007, 1599993, 900013, 1799994, 900018, 1599999, 1300011, 1600002, 1500010, 1199997, 1300001, 1399998, 1300006), api.RelInside},
		{pts(1, 1, 1, 2, 0, 2, 0, 1, 0, 0, 2, 1), pts(0, 2, 1, 2, 1, 1, 0, 0, 0, 1), api.RelAround},
		{pts(0, 7, -1, 10, 1, 10, 1, 7), pts(-1, 10, 1, 10, 1, 7), api.RelAround},
		{pts(-897960, -800836, -898973, -1100829, -899986, -1400822, -1500000, -1400000, -1498987, -1100007), pts(-1498987, -1100007, -897960, -800836, -898973, -1100829, -1500000, -1400000), api.RelAround},
		{pts(1300308, -249828, 1300231, -549871, 1300154, -849914, 1000155, -849901, 700002, -1449974, 700079, -1149931), pts(1300231, -549871, 1300308, -249828, 700079, -1149931, 1000155, -849901, 1300154, -849914), api.RelAround},
		{pts(1999992, 700024, 1199997, 1300001, 1800003, 1500015, 1999995, 900023), pts(1999992, 700024, 1999995, 900023, 1800003, 1500015), api.RelAround},
		{pts(2, 1, 1, 1, 2, 2), pts(0, 1, 1, 2, 2, 1, 1, 1, 0, 0), api.RelCross},
		{pts(-1, 8, 1, 8, 1, 9, 0, 10, -1, 10), pts(1, 9, 0, 8, 0, 9, -2, 9, -2, 10), api.RelCross},
		{pts(-898973, -1100829, -899986, -1400822, -597953, -801247), pts(-599979, -1401233, -898973, -1100829, -1196954, -500432, -1496961, -500021, -1497974, -800014), api.RelCross},
		{pts(700079, -1149931, 1000078, -1149944, 700002, -1449974, 1300077, -1149957, 1300154, -849914), pts(1300077, -1149957, 1300000, -1450000, 700002, -1449974, 700156, -849888, 1300154, -849914), api.RelCross},
		{pts(1999998, 1100022, 1399995, 1100007, 1399989, 700009), pts(1999998, 1100022, 1399989, 700009, 1800003, 1500015, 1599993, 900013), api.RelCross},
	} {
		if got := ring.Relation(x.r, x.s); got != x.want {
			t.Errorf("Relation(%v, %v) = %d, want %d", x.r, x.s, got, x.want)
		}
		if got := ring.Relation(x.s, x.r); got != exchanged(x.want) {
			t.Errorf("Relation(%v, %v) = %d, want %d", x.s, x.r, got, exchanged(x.want))
		}
	}
}

// P4.1, D3: the ways in which two rings can lie.
func TestRelationEdges(t *testing.T) {
	r := exampleR
	for _, x := range []struct {
		why  string
		a, b []api.Point
		want int
	}{
		{"itself", r, r, api.RelSame},
		{"the other direction", r, opposite(r), api.RelSame},
		{"far from each other", r, pts(9, 9, 12, 9, 9, 12), api.RelApart},
		{"boxes that overlap", pts(0, 0, 9, 0, 0, 9), pts(9, 9, 9, 5, 5, 9), api.RelApart},
		{"a common corner, apart", r, pts(4, 4, 8, 4, 8, 8), api.RelApart},
		{"a common side, apart", r, exampleT, api.RelApart},
		{"two common corners, apart", pts(0, 0, 4, 0, 4, 4, 2, 2), pts(0, 0, 2, 2, 4, 4, 0, 4), api.RelApart},
		{"in a bay", pts(0, 0, 8, 0, 8, 8, 4, 1, 0, 8), pts(3, 7, 5, 7, 4, 3), api.RelApart},
		{"in a bay, with its corner", pts(0, 0, 8, 0, 8, 8, 4, 1, 0, 8), pts(3, 7, 5, 7, 4, 1), api.RelApart},
		{"inside, nothing in common", pts(1, 1, 2, 1, 1, 2), r, api.RelInside},
		{"inside, with a common corner", pts(0, 0, 2, 1, 1, 2), r, api.RelInside},
		{"inside, with a common side", pts(0, 0, 4, 0, 2, 2), r, api.RelInside},
		{"inside, cut off", pts(0, 0, 4, 4, 0, 4), r, api.RelInside},
		{"inside, with all corners in common", pts(0, 0, 8, 0, 8, 8, 4, 1), pts(0, 0, 8, 0, 8, 8, 0, 8, 4, 1), api.RelInside},
		{"a side inside, and one outside", pts(0, 0, 3, 0, 4, 4, 0, 3), pts(0, 0, 4, 4, 9, 0, 4, -9), api.RelCross},
		{"one corner crosses", pts(0, 0, 3, 1, 1, 3), pts(0, 0, 3, 1, 0, 3), api.RelCross},
		{"common corners, with both parts", pts(0, 0, 8, 0, 8, 8, 4, 3), pts(0, 0, 8, 0, 4, 3, 8, 8, 0, 8), api.RelCross},
		{"a side is a part of a side", r, pts(0, 0, 2, 0, 2, -2), api.RelCross},
		{"one more corner on a side", pts(0, 0, 2, 0, 4, 0, 4, 4, 0, 4), r, api.RelCross},
		{"the same straight corner", pts(0, 0, 2, 0, 4, 0, 4, 4, 0, 4), pts(0, 0, 0, 4, 4, 4, 4, 0, 2, 0), api.RelSame},
		{"a corner on a side", r, pts(4, 1, 8, 1, 8, 2), api.RelCross},
		{"a corner on a side, inside", pts(4, 1, 2, 1, 2, 2), r, api.RelCross},
		{"sides that cross", r, pts(2, 2, 6, 2, 6, 6, 2, 6), api.RelCross},
		{"the first one is not simple", pts(0, 0, 4, 4, 4, 0, 0, 4), r, api.RelCross},
		{"neither is simple", pts(0, 0, 4, 4, 4, 0, 0, 4), pts(0, 0, 4, 4, 4, 0, 0, 4), api.RelCross},
		{"not simple, and far", pts(90, 90, 94, 94, 94, 90, 90, 94), r, api.RelCross},
		{"no corners", nil, r, api.RelCross},
		{"no corners at all", nil, nil, api.RelCross},
		{"a point that is not near", pts(bound+1, 90, 94, 94, 94, 90), r, api.RelCross},
	} {
		if got, back := ring.Relation(x.a, x.b), ring.Relation(x.b, x.a); got != x.want || back != exchanged(x.want) {
			t.Errorf("%s: %d, and %d", x.why, got, back)
		}
	}
}

// P4.1, P4.5, D3: the simple rings in a square of 3 by 3 points, each with an eighth of the others, compared as sets of points.
func TestRelationPlainAll(t *testing.T) {
	r, found := rand.New(rand.NewSource(4)), [5]int{}
	var shapes []shape
	for _, list := range allSimple(3) {
		shapes = append(shapes, shapeOf(list, 3))
	}
	for i, a := range shapes {
		for j, b := range shapes {
			if (i-j)%8 != 0 {
				continue
			}
			other := turnedBy(b.ring, r.Intn(len(b.ring)))
			if r.Intn(2) == 0 {
				other = opposite(other)
			}
			got, want := ring.Relation(a.ring, other), plainRelation(a, b)
			if found[want]++; got != want {
				t.Fatalf("Relation(%v, %v) = %d, want %d", a.ring, other, got, want)
			}
		}
	}
	if slices.Min(found[:]) < 100 {
		t.Error(found)
	}
}

// P4.1, D3: rings of a greater square that share most of their corners.
func TestRelationPlainChosen(t *testing.T) {
	r, found := rand.New(rand.NewSource(5)), [5]int{}
	for _, list := range someSimple(r, 5, 300) {
		a := shapeOf(list, 5)
		for range 10 {
			i, n := r.Intn(len(list)), r.Intn(3)
			more := slices.Concat(list[:i], square(5)[r.Intn(25):][:n%2], list[min(len(list), i+n):])
			if !plainSimple(more) {
				continue
			}
			got, want := ring.Relation(list, more), plainRelation(a, shapeOf(more, 5))
			if found[want]++; got != want {
				t.Fatalf("Relation(%v, %v) = %d, want %d", list, more, got, want)
			}
		}
	}
	if found[api.RelCross] < 50 || found[api.RelInside] < 50 || found[api.RelAround] < 50 || found[api.RelSame] < 50 {
		t.Error(found)
	}
}

// P4.1, D3: rings with many corners.
func TestRelationLarge(t *testing.T) {
	r := rand.New(rand.NewSource(6))
	list := star(r, 2000, 0, 0, 90000)
	larger, less := thrice(list), slices.Delete(slices.Clone(list), 700, 701)
	cut := api.RelInside
	if geom.Orient(list[699], list[700], list[701]) < 0 {
		cut = api.RelAround
	}
	for i, x := range []struct {
		a, b []api.Point
		want int
	}{
		{list, list, api.RelSame},
		{list, larger, api.RelInside},
		{list, turnedBy(opposite(list), 5), api.RelSame},
		{list, moved(list, by(180001, 0)), api.RelApart},
		{list, moved(list, by(1, 1)), api.RelCross},
		{less, list, cut},
		{comb(400, 900), pts(-2, -1, 901, -1, 901, 801, -2, 801), api.RelInside},
		{comb(400, 900), pts(2, 2, 900, 2, 900, 0), api.RelCross},
		{comb(400, 900), moved(comb(400, 900), by(902, 0)), api.RelApart},
		{pts(5, 1, 400, 1, 400, 2), comb(400, 900), api.RelCross},
	} {
		if got, back := ring.Relation(x.a, x.b), ring.Relation(x.b, x.a); got != x.want || back != exchanged(x.want) {
			t.Error(i, got, back)
		}
	}
}

// P4.2: Twice changes its sign with the direction, stays with another first corner, and is not 0 for a simple ring.
func TestAreas(t *testing.T) {
	r := rand.New(rand.NewSource(7))
	lists := append(someSimple(r, 7, 300), star(r, 90, 3, 4, 1000000), nil, pts(1, 2), pts(0, 0, 4, 0, 4, 0, 0, 3), pts(1, 1, 5, 0, 2, bound+1))
	for _, list := range lists {
		twice := ring.Twice(list)
		if ring.Twice(opposite(list)) != -twice {
			t.Errorf("%v has the same area in the other direction", list)
		}
		for i := range list {
			if ring.Twice(turnedBy(list, i)) != twice {
				t.Errorf("%v has another area from corner %d on", list, i)
			}
		}
		if plainSimple(list) && twice == 0 {
			t.Errorf("%v has no area", list)
		}
	}
}

// P4.2, D1: the area is positive exactly if the inside is on the left of the sides.
func TestDirection(t *testing.T) {
	r := rand.New(rand.NewSource(8))
	for _, list := range someSimple(r, 6, 300) {
		for _, s := range plainSides(list) {
			// The middle of a side is moved to the left by less than any other side is away.
			large := moved(list, func(p api.Point) api.Point { return api.Point{X: 2000 * p.X, Y: 2000 * p.Y} })
			p := api.Point{X: 1000*(s.A.X+s.B.X) - (s.B.Y - s.A.Y), Y: 1000*(s.A.Y+s.B.Y) + (s.B.X - s.A.X)}
			if (ring.Side(large, p) == 1) != (ring.Twice(list) > 0) {
				t.Fatalf("%v has its inside on the wrong side of %v", list, s)
			}
		}
	}
}

// P4.3: the area from the numbers of points inside and on the border.
func TestPointsOfGrid(t *testing.T) {
	r := rand.New(rand.NewSource(9))
	lists := append(someSimple(r, 8, 300), allSimple(3)...)
	lists = append(lists, comb(5, 7), star(r, 12, 4, 4, 3))
	for _, list := range lists {
		inside, border := 0, 0
		for _, p := range square(20) {
			switch ring.Side(list, by(-2, -2)(p)) {
			case 0:
				border++
			case 1:
				inside++
			}
		}
		if twice := ring.Twice(list); max(twice, -twice) != 2*inside+border-2 {
			t.Errorf("%v: twice %d, %d inside, %d on the border", list, twice, inside, border)
		}
	}
}

// P4.4: neither the first corner nor the direction makes a difference.
func TestOrder(t *testing.T) {
	r := rand.New(rand.NewSource(10))
	lists := append(someSimple(r, 5, 40), pts(0, 0, 4, 4, 4, 0, 0, 4), pts(0, 0, 3, 0, 3, 0, 0, 3))
	for i, list := range lists {
		other := lists[(i+1)%len(lists)]
		p := square(5)[r.Intn(25)]
		simple, side, relation := ring.Simple(list), ring.Side(list, p), ring.Relation(list, other)
		for n := range list {
			for _, l := range [][]api.Point{turnedBy(list, n), opposite(turnedBy(list, n))} {
				if ring.Simple(l) != simple || ring.Side(l, p) != side || ring.Relation(l, other) != relation {
					t.Fatalf("%v and %v are not the same", list, l)
				}
				if ring.Relation(other, l) != exchanged(relation) {
					t.Fatalf("%v and %v are not the same to %v", list, l, other)
				}
			}
		}
	}
}

// P4.5: relations with the rings exchanged; a simple ring has RelSame to itself.
func TestSymmetry(t *testing.T) {
	r := rand.New(rand.NewSource(11))
	lists := append(someSimple(r, 4, 150), nil, pts(0, 0, 3, 3, 3, 0, 0, 3), pts(0, 0, bound+1, 0, 0, 3))
	for _, a := range lists {
		for _, b := range lists {
			if got, back := ring.Relation(a, b), ring.Relation(b, a); back != exchanged(got) {
				t.Fatalf("Relation(%v, %v) = %d, and %d", a, b, got, back)
			}
		}
		if same := ring.Relation(a, a) == api.RelSame; same != plainSimple(a) {
			t.Errorf("Relation of %v to itself: %v", a, same)
		}
	}
}

// P4.6: what the relation of two rings says of points.
func TestPoints(t *testing.T) {
	r := rand.New(rand.NewSource(12))
	lists := append(someSimple(r, 4, 60), allSimple(3)[:200]...)
	for _, a := range lists {
		for _, b := range lists {
			relation := ring.Relation(a, b)
			less, more := ring.Twice(a), ring.Twice(b)
			if relation == api.RelInside && max(less, -less) >= max(more, -more) {
				t.Fatalf("%v is inside %v, but not less", a, b)
			}
			if relation == api.RelCross {
				continue
			}
			for _, p := range square(4) {
				first, second := ring.Side(a, p), ring.Side(b, p)
				if relation == api.RelInside && first >= 0 && second < 0 ||
					relation == api.RelApart && first == 1 && second == 1 ||
					relation == api.RelSame && first != second {
					t.Fatalf("%v and %v have relation %d, and %v is %d and %d", a, b, relation, p, first, second)
				}
			}
		}
	}
}

// P4.7: all results are the same if everything is moved, as long as it stays near.
func TestMoving(t *testing.T) {
	r := rand.New(rand.NewSource(13))
	lists := append(someSimple(r, 5, 60), pts(0, 0, 4, 4, 4, 0, 0, 4), pts(0, 0, 2, 0, 2, 0, 0, 2))
	for i, list := range lists {
		other, p := lists[(i+1)%len(lists)], square(5)[r.Intn(25)]
		for _, to := range []func(api.Point) api.Point{by(7, -3), by(bound-4, bound-4), by(-bound, -bound), by(-bound, bound-4), by(0, 1234567)} {
			l, o := moved(list, to), moved(other, to)
			if ring.Twice(l) != ring.Twice(list) || ring.Simple(l) != ring.Simple(list) || ring.Side(l, to(p)) != ring.Side(list, p) || ring.Relation(l, o) != ring.Relation(list, other) {
				t.Fatalf("%v is another ring at %v", list, to(api.Point{}))
			}
		}
		if ring.Simple(moved(list, by(bound-3, 0))) == (slices.MaxFunc(list, geom.Compare).X > 3) && plainSimple(list) {
			t.Fatalf("%v is moved too far, or not", list)
		}
	}
}

// P4.7, D3: rings that are turned and stretched to the bound are related as before.
func TestStretching(t *testing.T) {
	lists := allSimple(3)
	r := rand.New(rand.NewSource(14))
	for range 3000 {
		a, b := lists[r.Intn(len(lists))], lists[r.Intn(len(lists))]
		k, l, m, n := 1000000-r.Intn(9), r.Intn(48000), r.Intn(48000), r.Intn(9)-1000000
		to := func(p api.Point) api.Point {
			return api.Point{X: k*(p.X-1) + l*(p.Y-1), Y: m*(p.X-1) + n*(p.Y-1)}
		}
		if got, want := ring.Relation(moved(a, to), moved(b, to)), ring.Relation(a, b); got != want {
			t.Fatalf("Relation(%v, %v) = %d, stretched %d", a, b, want, got)
		}
		if got, want := ring.Twice(moved(a, to)), ring.Twice(a)*(k*n-l*m); got != want {
			t.Fatalf("Twice(%v) = %d, want %d", a, got, want)
		}
		p := square(3)[r.Intn(9)]
		if got, want := ring.Side(moved(a, to), to(p)), ring.Side(a, p); got != want {
			t.Fatalf("Side(%v, %v) = %d, stretched %d", a, p, want, got)
		}
	}
}

// P4.8: three corners are a ring exactly if they are not on a line; a point is inside exactly if it is on the same side of all sides.
func TestTriangles(t *testing.T) {
	points := square(4)
	for _, a := range points {
		for _, b := range points {
			for _, c := range points {
				r, turn := []api.Point{a, b, c}, geom.Orient(a, b, c)
				if ring.Simple(r) != (turn != 0) {
					t.Fatalf("Simple(%v) with turn %d", r, turn)
				}
				for _, p := range points {
					inside := turn != 0 && geom.Orient(a, b, p) == turn && geom.Orient(b, c, p) == turn && geom.Orient(c, a, p) == turn
					if (ring.Side(r, p) == 1) != inside {
						t.Fatalf("Side(%v, %v)", r, p)
					}
				}
			}
		}
	}
}

// P1: no arguments make a function panic or go on for long.
func TestAllArguments(t *testing.T) {
	ends := []int{math.MinInt, math.MinInt + 1, -bound - 1, -bound, -1, 0, 1, bound, bound + 1, math.MaxInt - 1, math.MaxInt}
	r := rand.New(rand.NewSource(15))
	for range 20000 {
		var lists [2][]api.Point
		for i := range lists {
			for range r.Intn(6) {
				lists[i] = append(lists[i], api.Point{X: ends[r.Intn(len(ends))], Y: ends[r.Intn(len(ends))]})
			}
		}
		a, b := lists[0], lists[1]
		p := api.Point{X: ends[r.Intn(len(ends))], Y: ends[r.Intn(len(ends))]}
		if ring.Simple(a) != plainSimple(a) || ring.Twice(a) != plainTwice(a) {
			t.Fatal(a)
		}
		if side := ring.Side(a, p); side != -1 && !plainSimple(a) {
			t.Fatal(a, p, side)
		}
		if relation := ring.Relation(a, b); relation != api.RelCross && !(plainSimple(a) && plainSimple(b)) {
			t.Fatal(a, b, relation)
		}
	}
	long := make([]api.Point, 1000000)
	for i := range long {
		long[i] = api.Point{X: i, Y: i * i % 1000}
	}
	if ring.Simple(long) || ring.Twice(long) != 0 || ring.Side(long, long[0]) != -1 || ring.Relation(long, exampleR) != api.RelCross || ring.Relation(exampleR, long) != api.RelCross {
		t.Error("a long list")
	}
}

// P3: equal arguments have equal results and stay as they are; an empty list is one like nil.
func TestIndependence(t *testing.T) {
	r := rand.New(rand.NewSource(16))
	for _, list := range append(someSimple(r, 5, 100), pts(0, 0, 4, 4, 4, 0, 0, 4)) {
		other, p := opposite(exampleR), api.Point{X: 1, Y: 2}
		twice, simple, side, relation := ring.Twice(list), ring.Simple(list), ring.Side(list, p), ring.Relation(list, other)
		// The same ring with room behind it, which must stay as it is.
		room := append(slices.Clone(list), pts(7, 8, 9, 10)...)
		again := room[:len(list)]
		if ring.Twice(again) != twice || ring.Simple(again) != simple || ring.Side(again, p) != side || ring.Relation(again, other) != relation {
			t.Fatalf("%v has two results", list)
		}
		if !slices.Equal(again, list) || !slices.Equal(room[len(list):], pts(7, 8, 9, 10)) || !slices.Equal(other, opposite(exampleR)) {
			t.Fatalf("%v was changed", list)
		}
	}
	empty := []api.Point{}
	if ring.Twice(empty) != ring.Twice(nil) || ring.Simple(empty) || ring.Side(empty, api.Point{}) != -1 || ring.Relation(empty, empty) != api.RelCross {
		t.Error("an empty list")
	}
}
