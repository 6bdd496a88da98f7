package grid_test

import (
	"math"
	"math/rand"
	"slices"
	"strings"
	"testing"

	"planisphere/api"
	"planisphere/grid"
)

// P7.1: the chapter's examples.
func TestExamples(t *testing.T) {
	if got := of(t, pt(1048575, 8), 17); got != tile(17, 131071, 1) {
		t.Error(got)
	}
	if got := boxOf(t, tile(1, 1, 0)); got != box(524288, 0, 1048575, 524287) {
		t.Error(got)
	}
	if got := pixel(t, tile(0, 0, 0), pt(-1, 4096)); got != pt(-1, 1) {
		t.Error(got)
	}
	for _, s := range []string{"1/2/0", "01/0/0"} {
		if got, e := grid.Parse(s); e != api.ErrSyntax || got != (api.Tile{}) {
			t.Errorf("Parse(%q) = %v, %d", s, got, e)
		}
	}
}

// P7.1, G1, G4, G5: values that come from another program.
func TestKnown(t *testing.T) {
	for _, x := range []struct {
		p     api.Point
		tile  api.Tile
		box   api.Box
		text  string
		other api.Point
		pixel api.Point
	}{
		{pt(679126, 316353), tile(0, 0, 0), box(0, 0, 1048575, 1048575), "0/0/0", pt(1214867, -1489513), pt(296, -364)},
		{pt(766905, 121632), tile(1, 1, 0), box(524288, 0, 1048575, 524287), "1/1/0", pt(-296134, 1540531), pt(-401, 752)},
		{pt(504706, 190238), tile(2, 1, 0), box(262144, 0, 524287, 262143), "2/1/0", pt(1463973, -224488), pt(1173, -220)},
		{pt(831899, 103996), tile(3, 6, 0), box(786432, 0, 917503, 131071), "3/6/0", pt(-242584, 332266), pt(-2010, 648)},
		{pt(247028, 646933), tile(5, 7, 19), box(229376, 622592, 262143, 655359), "5/7/19", pt(-581110, 1026745), pt(-6332, 3157)},
		{pt(124992, 431926), tile(8, 30, 105), box(122880, 430080, 126975, 434175), "8/30/105", pt(125140, 431833), pt(141, 109)},
		{pt(758293, 628656), tile(9, 370, 306), box(757760, 626688, 759807, 628735), "9/370/306", pt(-13199, 629008), pt(-96370, 290)},
		{pt(1038334, 720320), tile(12, 4055, 2813), box(1038080, 720128, 1038335, 720383), "12/4055/2813", pt(1667942, 720416), pt(629862, 288)},
		{pt(345950, 717343), tile(14, 5405, 11208), box(345920, 717312, 345983, 717375), "14/5405/11208", pt(346000, -1768258), pt(320, -9942280)},
		{pt(657976, 713288), tile(15, 20561, 22290), box(657952, 713280, 657983, 713311), "15/20561/22290", pt(658080, 1729775), pt(1024, 8131960)},
		{pt(566103, 994256), tile(16, 35381, 62141), box(566096, 994256, 566111, 994271), "16/35381/62141", pt(565934, 993421), pt(-2592, -13360)},
		{pt(727722, 47317), tile(17, 90965, 5914), box(727720, 47312, 727727, 47319), "17/90965/5914", pt(1775828, -1114882), pt(33539456, -37190208)},
	} {
		if got := of(t, x.p, x.tile.Z); got != x.tile {
			t.Errorf("Of(%v, %d) = %v, want %v", x.p, x.tile.Z, got, x.tile)
		}
		if got := boxOf(t, x.tile); got != x.box {
			t.Errorf("Box(%v) = %v, want %v", x.tile, got, x.box)
		}
		if got, e := grid.Text(x.tile); got != x.text || e != api.OK {
			t.Errorf("Text(%v) = %q, %d, want %q", x.tile, got, e, x.text)
		}
		if got, e := grid.Parse(x.text); got != x.tile || e != api.OK {
			t.Errorf("Parse(%q) = %v, %d, want %v", x.text, got, e, x.tile)
		}
		if got := pixel(t, x.tile, x.other); got != x.pixel {
			t.Errorf("Pixel(%v, %v) = %v, want %v", x.tile, x.other, got, x.pixel)
		}
	}
}

// P7.1, G3: covers that come from another program.
func TestKnownCovers(t *testing.T) {
	for _, x := range []struct {
		b    api.Box
		z    int
		want []api.Tile
	}{
		{box(228807, 402775, 228907, 1002775), 1, tiles(1, 0, 0, 1, 0, 1)},
		{box(150697, 135623, 750697, 135633), 2, tiles(2, 0, 0, 2, 1, 0, 2, 2, 0)},
		{box(774230, 259642, 974230, 559642), 3, tiles(3, 5, 1, 3, 6, 1, 3, 7, 1, 3, 5, 2, 3, 6, 2, 3, 7, 2, 3, 5, 3, 3, 6, 3, 3, 7, 3, 3, 5, 4, 3, 6, 4, 3, 7, 4)},
		{box(417225, 409940, 477225, 449940), 5, tiles(5, 12, 12, 5, 13, 12, 5, 14, 12, 5, 12, 13, 5, 13, 13, 5, 14, 13)},
		{box(961351, 913752, 961352, 953752), 6, tiles(6, 58, 55, 6, 58, 56, 6, 58, 57, 6, 58, 58)},
		{box(520625, 84495, 525625, 87495), 9, tiles(9, 254, 41, 9, 255, 41, 9, 256, 41, 9, 254, 42, 9, 255, 42, 9, 256, 42)},
		{box(174447, 471007, 174450, 471011), 10, tiles(10, 170, 459)},
		{box(421154, 576129, 421754, 576429), 12, tiles(12, 1645, 2250, 12, 1646, 2250, 12, 1647, 2250, 12, 1645, 2251, 12, 1646, 2251, 12, 1647, 2251)},
		{box(0, 0, whole-1, whole-1), 0, tiles(0, 0, 0)},
		{box(whole-1, whole-1, whole-1, whole-1), 17, tiles(17, 131071, 131071)},
		{box(0, 0, 0, 0), 17, tiles(17, 0, 0)},
		{box(524287, 524288, 524288, 524288), 1, tiles(1, 0, 1, 1, 1, 1)},
	} {
		if got := cover(t, x.b, x.z); !slices.Equal(got, x.want) {
			t.Errorf("Cover(%v, %d) = %v, want %v", x.b, x.z, got, x.want)
		}
	}
}

// P7.1, G1, P1: zoom levels that are none come before points that are not of the grid.
func TestOfArguments(t *testing.T) {
	outside := []api.Point{pt(-1, 0), pt(0, -1), pt(whole, 0), pt(0, whole), pt(math.MinInt, 5), pt(5, math.MinInt), pt(math.MaxInt, 5), pt(5, math.MaxInt), pt(1<<32, 1<<32), pt(-1<<32, 3)}
	for _, z := range []int{-1, 18, 19, 20, 21, 64, -64, 1 << 32, math.MinInt, math.MaxInt} {
		for _, p := range append(outside, pt(0, 0), pt(5, whole-1)) {
			if got, e := grid.Of(p, z); e != api.ErrArg || got != (api.Tile{}) {
				t.Errorf("Of(%v, %d) = %v, %d", p, z, got, e)
			}
		}
	}
	for z := range 18 {
		for _, p := range outside {
			if got, e := grid.Of(p, z); e != api.ErrRange || got != (api.Tile{}) {
				t.Errorf("Of(%v, %d) = %v, %d", p, z, got, e)
			}
		}
		last := 1<<z - 1
		for _, x := range []struct {
			p    api.Point
			want api.Tile
		}{{pt(0, 0), tile(z, 0, 0)}, {pt(whole-1, 0), tile(z, last, 0)}, {pt(0, whole-1), tile(z, 0, last)}, {pt(whole-1, whole-1), tile(z, last, last)}} {
			if got := of(t, x.p, z); got != x.want {
				t.Errorf("Of(%v, %d) = %v, want %v", x.p, z, got, x.want)
			}
		}
	}
}

// P7.1, G1, G2, G4, G5, P1: tiles that are not valid have no box, no tile above, no kids, no pixels and no text, and their texts are those of no tile.
func TestWrongTiles(t *testing.T) {
	for _, x := range wrong() {
		if got, e := grid.Box(x); e != api.ErrArg || got != (api.Box{}) {
			t.Errorf("Box(%v) = %v, %d", x, got, e)
		}
		if got, e := grid.Up(x); e != api.ErrArg || got != (api.Tile{}) {
			t.Errorf("Up(%v) = %v, %d", x, got, e)
		}
		if got, e := grid.Kids(x); e != api.ErrArg || len(got) != 0 {
			t.Errorf("Kids(%v) = %v, %d", x, got, e)
		}
		for _, p := range []api.Point{pt(0, 0), pt(bound+1, 0), pt(math.MinInt, math.MaxInt)} {
			if got, e := grid.Pixel(x, p); e != api.ErrArg || got != (api.Point{}) {
				t.Errorf("Pixel(%v, %v) = %v, %d", x, p, got, e)
			}
		}
		if got, e := grid.Text(x); e != api.ErrArg || got != "" {
			t.Errorf("Text(%v) = %q, %d", x, got, e)
		}
		if got, e := grid.Parse(textOf(x)); e != api.ErrSyntax || got != (api.Tile{}) {
			t.Errorf("Parse(%q) = %v, %d", textOf(x), got, e)
		}
	}
}

// P7.1, G1, G2, G4, G5: the last tiles of each zoom level are valid; only the first level has no tile above, only the last one no kids.
func TestLastTiles(t *testing.T) {
	for z := range 18 {
		last := 1<<z - 1
		for _, x := range tiles(z, 0, 0, z, last, 0, z, 0, last, z, last, last) {
			if got := boxOf(t, x); got != plainBox(x) {
				t.Errorf("Box(%v) = %v, want %v", x, got, plainBox(x))
			}
			if got := pixel(t, x, plainBox(x).Min); got != pt(0, 0) {
				t.Errorf("Pixel of Min for %v: %v", x, got)
			}
			if got, e := grid.Text(x); e != api.OK || got != textOf(x) {
				t.Errorf("Text(%v) = %q, %d", x, got, e)
			}
			if got, e := grid.Parse(textOf(x)); e != api.OK || got != x {
				t.Errorf("Parse(%q) = %v, %d", textOf(x), got, e)
			}
			above, e := grid.Up(x)
			if want := tile(z-1, x.X/2, x.Y/2); z > 0 && (e != api.OK || above != want) || z == 0 && (e != api.ErrNone || above != api.Tile{}) {
				t.Errorf("Up(%v) = %v, %d", x, above, e)
			}
			kids, e := grid.Kids(x)
			a, b := 2*x.X, 2*x.Y
			want := tiles(z+1, a, b, z+1, a+1, b, z+1, a, b+1, z+1, a+1, b+1)
			if z < 17 && (e != api.OK || !slices.Equal(kids, want)) || z == 17 && (e != api.ErrNone || len(kids) != 0) {
				t.Errorf("Kids(%v) = %v, %d", x, kids, e)
			}
		}
	}
}

// P7.1, G3, P1: boxes and zoom levels that have no cover; they come before covers that are too long.
func TestCoverArguments(t *testing.T) {
	type asked struct {
		b api.Box
		z int
	}
	all := box(0, 0, whole-1, whole-1)
	asks := []asked{{all, -1}, {all, 18}, {all, math.MinInt}, {all, math.MaxInt}, {all, 1 << 32}, {box(0, 0, 0, 0), 18}, {box(0, 0, 0, 0), 64}, {box(5, 5, 4, 5), -1}}
	for _, b := range []api.Box{
		box(-1, 0, 5, 5), box(0, -1, 5, 5), box(0, 0, whole, 5), box(0, 0, 5, whole), box(whole, 0, whole, 0), box(0, whole, 0, whole), box(-5, 0, -5, 0),
		box(5, 5, 4, 5), box(5, 5, 5, 4), box(5, 5, 4, 9), box(5, 5, 9, 4), box(whole-1, 0, 0, whole-1), box(0, whole-1, whole-1, 0),
		box(-1, -1, whole, whole), box(math.MinInt, math.MinInt, math.MaxInt, math.MaxInt), box(math.MaxInt, math.MaxInt, math.MinInt, math.MinInt),
		box(0, 0, 1<<32, 1<<32), box(-1<<32, 0, 0, 0), box(1<<32, 1<<32, 1<<32, 1<<32), box(0, 0, math.MaxInt, 0), box(0, math.MinInt, 0, 0),
	} {
		for _, z := range []int{0, 7, 17} {
			asks = append(asks, asked{b, z})
		}
	}
	for _, x := range asks {
		if got, e := grid.Cover(x.b, x.z); e != api.ErrArg || len(got) != 0 {
			t.Errorf("Cover(%v, %d) = %v, %d", x.b, x.z, got, e)
		}
	}
}

// P7.1, G3: covers of 4096 tiles are not too long, greater ones are.
func TestCoverLimit(t *testing.T) {
	for _, x := range []struct {
		columns, rows int
		want          api.Errno
	}{
		{64, 64, api.OK}, {4096, 1, api.OK}, {1, 4096, api.OK}, {2, 2048, api.OK}, {4095, 1, api.OK}, {63, 65, api.OK}, {91, 45, api.OK},
		{4097, 1, api.ErrLimit}, {1, 4097, api.ErrLimit}, {17, 241, api.ErrLimit}, {65, 64, api.ErrLimit}, {64, 65, api.ErrLimit}, {4096, 2, api.ErrLimit}, {2, 4096, api.ErrLimit},
	} {
		for z := 13; z <= 17; z++ {
			side := whole >> z
			first := tile(z, 1000, 2000)
			b := box(first.X*side+side-1, first.Y*side+side-1, (first.X+x.columns-1)*side, (first.Y+x.rows-1)*side)
			if x.columns == 1 {
				b.Min.X = b.Max.X
			}
			if x.rows == 1 {
				b.Min.Y = b.Max.Y
			}
			got, e := grid.Cover(b, z)
			if e != x.want || e == api.OK && len(got) != x.columns*x.rows || e != api.OK && len(got) != 0 {
				t.Errorf("%d columns, %d rows at %d: %d tiles, %d", x.columns, x.rows, z, len(got), e)
			}
		}
	}
	for z := range 18 {
		got, e := grid.Cover(box(0, 0, whole-1, whole-1), z)
		if z <= 6 && (e != api.OK || len(got) != 1<<(2*z)) || z > 6 && (e != api.ErrLimit || len(got) != 0) {
			t.Errorf("all tiles of %d: %d, %d", z, len(got), e)
		}
	}
}

// P7.1, G4: points that are too far away have no pixel.
func TestPixelArguments(t *testing.T) {
	for z := range 18 {
		x := tile(z, 1<<z-1, 0)
		for _, p := range []api.Point{pt(bound+1, 0), pt(0, bound+1), pt(-bound-1, 0), pt(0, -bound-1), pt(math.MinInt, 0), pt(0, math.MinInt), pt(math.MaxInt, 0), pt(0, math.MaxInt), pt(1<<32, 1<<32), pt(-1<<32, -1<<32), pt(1<<56, 0)} {
			if got, e := grid.Pixel(x, p); e != api.ErrRange || got != (api.Point{}) {
				t.Errorf("Pixel(%v, %v) = %v, %d", x, p, got, e)
			}
		}
	}
	for _, x := range []struct {
		t       api.Tile
		p, want api.Point
	}{
		{tile(0, 0, 0), pt(bound, -bound), pt(512, -512)},
		{tile(0, 0, 0), pt(-bound, bound), pt(-512, 512)},
		{tile(0, 0, 0), pt(-bound+1, bound-1), pt(-512, 511)},
		{tile(0, 0, 0), pt(-4096, -4097), pt(-1, -2)},
		{tile(0, 0, 0), pt(-4095, 4095), pt(-1, 0)},
		{tile(17, 0, 131071), pt(bound, -bound), pt(67108864, -100663040)},
		{tile(12, 4095, 0), pt(whole, -1), pt(256, -1)},
		{tile(13, 1, 1), pt(127, 256), pt(-2, 256)},
		{tile(11, 1, 1), pt(511, 510), pt(-1, -1)},
		{tile(11, 1, 1), pt(509, 513), pt(-2, 0)},
	} {
		if got := pixel(t, x.t, x.p); got != x.want {
			t.Errorf("Pixel(%v, %v) = %v, want %v", x.t, x.p, got, x.want)
		}
	}
}

// P7.2: the boxes of each column and of each row are next to each other, from the first point of the grid to the last one, and Of finds them at their ends.
func TestEachPoint(t *testing.T) {
	for z := range 18 {
		count := 1 << z
		next := 0
		for i := range count {
			a, b := tile(z, i, count-1-i), tile(z, count/2, i)
			if got := boxOf(t, a); got.Min.X != next || got.Max.X < next || got != plainBox(a) {
				t.Fatalf("Box(%v) = %v", a, got)
			}
			got := boxOf(t, b)
			if got.Min.Y != next || got.Max.Y < next || got != plainBox(b) {
				t.Fatalf("Box(%v) = %v", b, got)
			}
			next = got.Max.Y + 1
			if x, y := of(t, got.Min, z), of(t, got.Max, z); x != b || y != b {
				t.Fatalf("Of the ends of %v: %v, %v", b, x, y)
			}
		}
		if next != whole {
			t.Fatalf("the last box of %d ends before %d", z, next)
		}
	}
}

// P7.2: just one tile of a zoom level has a point; the one of the level before it is the tile above.
func TestOneTile(t *testing.T) {
	r := rand.New(rand.NewSource(71))
	for range 300 {
		p := somePoint(r)
		for z := range 18 {
			a := of(t, p, z)
			if z > 0 && up(t, a) != of(t, p, z-1) {
				t.Fatalf("above %v is %v, want %v", a, up(t, a), of(t, p, z-1))
			}
			for i := range 9 {
				b := tile(z, a.X+i%3-1, a.Y+i/3-1)
				if got, e := grid.Box(b); e == api.OK && has(got, p) != (b == a) {
					t.Fatalf("%v is in the box of %v, and its tile is %v", p, b, a)
				}
			}
		}
		for z := range 4 {
			found := 0
			for i := range 1 << (2 * z) {
				if has(boxOf(t, tile(z, i>>z, i&(1<<z-1))), p) {
					found++
				}
			}
			if found != 1 {
				t.Fatalf("%v is in %d tiles", p, found)
			}
		}
	}
}

// P7.3: the boxes of kids have each point of the box once, and no others.
func TestKidsPoints(t *testing.T) {
	r := rand.New(rand.NewSource(72))
	for z := 13; z < 17; z++ {
		for range 10 {
			a := someTile(r, z)
			b, kids := boxOf(t, a), kidsOf(t, a)
			for y := b.Min.Y - 2; y <= b.Max.Y+2; y++ {
				for x := b.Min.X - 2; x <= b.Max.X+2; x++ {
					found, want := 0, 0
					for _, k := range kids {
						if has(boxOf(t, k), pt(x, y)) {
							found++
						}
					}
					if has(b, pt(x, y)) {
						want = 1
					}
					if found != want {
						t.Fatalf("%d kids of %v have the point %v", found, a, pt(x, y))
					}
				}
			}
		}
	}
}

// P7.3: the boxes of kids are the quarters of the box, in order, and no other tile has the tile above it.
func TestKids(t *testing.T) {
	r := rand.New(rand.NewSource(73))
	for range 3000 {
		a := someTile(r, r.Intn(17))
		b, kids := boxOf(t, a), kidsOf(t, a)
		half := (b.Max.X - b.Min.X + 1) / 2
		if len(kids) != 4 {
			t.Fatalf("Kids(%v) = %v", a, kids)
		}
		for i, k := range kids {
			least := pt(b.Min.X+i%2*half, b.Min.Y+i/2*half)
			want := api.Box{Min: least, Max: pt(least.X+half-1, least.Y+half-1)}
			if k.Z != a.Z+1 || boxOf(t, k) != want || up(t, k) != a {
				t.Fatalf("kid %d of %v: %v with the box %v, above it %v", i, a, k, boxOf(t, k), up(t, k))
			}
		}
		for i := range 36 {
			o := tile(a.Z+1, 2*a.X+i%6-2, 2*a.Y+i/6-2)
			if above, e := grid.Up(o); e == api.OK && (above == a) != slices.Contains(kids, o) {
				t.Fatalf("above %v is %v with the kids %v", o, above, kids)
			}
		}
	}
}

// P7.4: of all tiles of the first zoom levels, just those that share a point with a box are in its cover, in order.
func TestCoverAll(t *testing.T) {
	r := rand.New(rand.NewSource(74))
	for range 600 {
		p, q := somePoint(r), somePoint(r)
		b := box(min(p.X, q.X), min(p.Y, q.Y), max(p.X, q.X), max(p.Y, q.Y))
		z := r.Intn(7)
		var want []api.Tile
		for y := range 1 << z {
			for x := range 1 << z {
				c := boxOf(t, tile(z, x, y))
				if max(b.Min.X, c.Min.X) <= min(b.Max.X, c.Max.X) && max(b.Min.Y, c.Min.Y) <= min(b.Max.Y, c.Max.Y) {
					want = append(want, tile(z, x, y))
				}
			}
		}
		if got := cover(t, b, z); !slices.Equal(got, want) {
			t.Fatalf("Cover(%v, %d) = %v, want %v", b, z, got, want)
		}
	}
}

// P7.4: the cover of a small box has the tiles of its points, each once.
func TestCoverPoints(t *testing.T) {
	r := rand.New(rand.NewSource(75))
	for range 1500 {
		p, z := somePoint(r), 10+r.Intn(8)
		b := box(p.X, p.Y, min(whole-1, p.X+r.Intn(30)), min(whole-1, p.Y+r.Intn(30)))
		var want []api.Tile
		found := map[api.Tile]bool{}
		for y := b.Min.Y; y <= b.Max.Y; y++ {
			for x := b.Min.X; x <= b.Max.X; x++ {
				if a := of(t, pt(x, y), z); !found[a] {
					found[a] = true
					want = append(want, a)
				}
			}
		}
		got := cover(t, b, z)
		if !slices.Equal(got, want) {
			t.Fatalf("Cover(%v, %d) = %v, want %v", b, z, got, want)
		}
		for i := 1; i < len(got); i++ {
			if c, d := got[i-1], got[i]; c.Y > d.Y || c.Y == d.Y && c.X >= d.X {
				t.Fatalf("%v before %v", c, d)
			}
		}
	}
}

// P7.1, P7.5: a pixel is the greatest whole number of pixels that is not greater than the distance; those from 0 to 255 are those of the box.
func TestPixels(t *testing.T) {
	r := rand.New(rand.NewSource(76))
	counts := map[bool]int{}
	for range 40000 {
		a := someTile(r, r.Intn(18))
		b := boxOf(t, a)
		p := pt(someCoordinate(r, b.Min.X, b.Max.X), someCoordinate(r, b.Min.Y, b.Max.Y))
		q, side := pixel(t, a, p), b.Max.X-b.Min.X+1
		x, y := (p.X-b.Min.X)*256, (p.Y-b.Min.Y)*256
		if q.X*side > x || x >= (q.X+1)*side || q.Y*side > y || y >= (q.Y+1)*side {
			t.Fatalf("Pixel(%v, %v) = %v", a, p, q)
		}
		inside := has(box(0, 0, 255, 255), q)
		if inside != has(b, p) {
			t.Fatalf("Pixel(%v, %v) = %v, and the box is %v", a, p, q, b)
		}
		counts[inside]++
		further := pt(min(bound, p.X+r.Intn(5000)), min(bound, p.Y+r.Intn(3)))
		if s := pixel(t, a, further); s.X < q.X || s.Y < q.Y {
			t.Fatalf("for %v, %v has the pixel %v, and %v has %v", a, p, q, further, s)
		}
	}
	if counts[true] < 2000 || counts[false] < 2000 {
		t.Error(counts)
	}
}

// P7.5: neighbours of each point of a line have pixels in order, and 256 pixels are those of the box.
func TestPixelLine(t *testing.T) {
	for _, a := range tiles(17, 3, 3, 12, 40, 9, 11, 2, 7, 10, 1, 1, 7, 100, 50) {
		b := boxOf(t, a)
		last, seen := pixel(t, a, pt(b.Min.X-301, b.Min.Y-301)), map[int]bool{}
		for i := b.Min.X - 300; i <= b.Max.X+300; i++ {
			q := pixel(t, a, pt(i, b.Min.Y+i-b.Min.X))
			if q.X < last.X || q.Y < last.Y || q.X != q.Y || within(0, q.X, 255) != within(b.Min.X, i, b.Max.X) {
				t.Fatalf("for %v, %d has the pixel %v after %v", a, i, q, last)
			}
			if within(0, q.X, 255) {
				seen[q.X] = true
			}
			last = q
		}
		if want := min(256, b.Max.X-b.Min.X+1); len(seen) != want {
			t.Errorf("%d pixels of %v, want %d", len(seen), a, want)
		}
	}
}

// P7.5: the pixel for the tile above.
func TestPixelAbove(t *testing.T) {
	r := rand.New(rand.NewSource(77))
	half := func(n int) int { return int(math.Floor(float64(n) / 2)) }
	for range 40000 {
		a := someTile(r, 1+r.Intn(17))
		b := boxOf(t, a)
		p := pt(someCoordinate(r, b.Min.X, b.Max.X), someCoordinate(r, b.Min.Y, b.Max.Y))
		q := pixel(t, a, p)
		want := pt(half(q.X+256*(a.X%2)), half(q.Y+256*(a.Y%2)))
		if got := pixel(t, up(t, a), p); got != want {
			t.Fatalf("the pixel of %v is %v for %v, and %v above it, want %v", p, q, a, got, want)
		}
	}
}

// P7.6: Parse returns the tile for its text.
func TestTexts(t *testing.T) {
	check := func(x api.Tile) {
		text, e := grid.Text(x)
		if e != api.OK || text != textOf(x) {
			t.Fatalf("Text(%v) = %q, %d", x, text, e)
		}
		if got, e := grid.Parse(text); e != api.OK || got != x {
			t.Fatalf("Parse(%q) = %v, %d", text, got, e)
		}
	}
	for z := range 7 {
		for i := range 1 << (2 * z) {
			check(tile(z, i>>z, i&(1<<z-1)))
		}
	}
	r := rand.New(rand.NewSource(78))
	for range 10000 {
		check(someTile(r, r.Intn(18)))
	}
}

// P7.6: of all short texts of some characters, Parse accepts just those of tiles.
func TestShortTexts(t *testing.T) {
	const length, characters = 7, "0192/-"
	all := map[string]api.Tile{}
	for z := range 18 {
		for x := range min(1000, 1<<z) {
			for y := range min(1000, 1<<z) {
				text := textOf(tile(z, x, y))
				if len(text) > length {
					break
				}
				all[text] = tile(z, x, y)
			}
		}
	}
	accepted := 0
	var try func(text string)
	try = func(text string) {
		want, found := all[text]
		if got, e := grid.Parse(text); got != want || found && e != api.OK || !found && e != api.ErrSyntax {
			t.Fatalf("Parse(%q) = %v, %d", text, got, e)
		}
		if found {
			accepted++
		}
		if len(text) < length {
			for i := range len(characters) {
				try(text + characters[i:i+1])
			}
		}
	}
	try("")
	if accepted < 300 {
		t.Errorf("only %d texts", accepted)
	}
}

// P7.6, P1: texts that are those of no tile.
func TestWrongTexts(t *testing.T) {
	for _, s := range []string{
		"", "0", "/", "//", "///", "0/", "0/0", "0/0/", "/0/0", "0//0", "0/0/0/", "/0/0/0", "0/0/0/0", "0/0//0", "0 /0/0", " 0/0/0", "0/0/0 ", "0/ 0/0", "0/0/0\n", "0/0/0\x00", "\x000/0/0",
		"00/0/0", "0/00/0", "0/0/00", "01/0/0", "1/01/0", "1/0/01", "+0/0/0", "0/+0/0", "0/0/+0", "-0/0/0", "0/-0/0", "0/0/-0", "-1/0/0", "1/-1/0", "1/0/-1",
		"1/2/0", "1/0/2", "0/1/0", "18/0/0", "17/131072/0", "17/0/131072", "100/0/0", "0x1/0/0", "1/0x1/0", "0b1/0/0", "0o1/0/0", "1_0/0/0", "10/1_0/0", "1e1/0/0", "1.0/0/0", "0/0/0.", "a/b/c", "0/0/a", "4/f/0",
		"1/0/99999999999999999999", "1/18446744073709551616/0", "4294967296/0/0", "18446744073709551616/0/0", "1/0/9223372036854775807", "1/-9223372036854775808/0", "1/18446744073709551617/0", "-18446744073709551615/0/0",
		"\u0660/0/0", "0/\uff10/0", "0\u22150\u22150", "0\\0\\0", "0,0,0", "z/x/y", "\xff/\xff/\xff", "0/0/0\xff", "ninety",
		strings.Repeat("/", 1000000), strings.Repeat("0", 1000000), "0/0/" + strings.Repeat("0", 1000000), "0/0/1" + strings.Repeat("0", 1000000), strings.Repeat("0/", 1000000),
	} {
		if got, e := grid.Parse(s); e != api.ErrSyntax || got != (api.Tile{}) {
			t.Errorf("Parse(%q) = %v, %d", s[:min(len(s), 40)], got, e)
		}
	}
}

// P7.6: a text that is changed in one place is accepted only if it is that of the result.
func TestChangedTexts(t *testing.T) {
	r := rand.New(rand.NewSource(79))
	accepted := 0
	for range 2000 {
		text := textOf(someTile(r, r.Intn(18)))
		for i := range len(text) + 1 {
			c := string(rune("0123456789/+- _.x"[r.Intn(17)]))
			changed := []string{text[:i] + c + text[i:], text[:i]}
			if i < len(text) {
				changed = append(changed, text[:i]+text[i+1:], text[:i]+c+text[i+1:])
			}
			for _, s := range changed {
				got, e := grid.Parse(s)
				if e == api.OK {
					accepted++
				}
				if back, f := grid.Text(got); e == api.OK && (f != api.OK || back != s) || e != api.OK && (e != api.ErrSyntax || got != api.Tile{}) {
					t.Fatalf("Parse(%q) = %v, %d", s, got, e)
				}
			}
		}
	}
	if accepted < 1000 {
		t.Errorf("only %d texts", accepted)
	}
}

// P3: equal calls yield equal results, whatever became of the results before.
func TestIndependence(t *testing.T) {
	kids, some := kidsOf(t, tile(3, 2, 5)), cover(t, box(0, 0, 700000, 300000), 5)
	wantKids, wantSome := slices.Clone(kids), slices.Clone(some)
	clear(kids)
	clear(some[:cap(some)])
	if got := kidsOf(t, tile(3, 2, 5)); !slices.Equal(got, wantKids) {
		t.Error(got)
	}
	if got := cover(t, box(0, 0, 700000, 300000), 5); !slices.Equal(got, wantSome) {
		t.Error(got)
	}
	if got := pixel(t, tile(3, 2, 5), pt(9, 9)); got != pixel(t, tile(3, 2, 5), pt(9, 9)) {
		t.Error(got)
	}
}
