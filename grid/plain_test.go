package grid_test

import (
	"math/rand"
	"slices"
	"strconv"
	"testing"

	"planisphere/api"
	"planisphere/grid"
)

// whole is the number of points of the grid in each direction.
const whole = 1048576

// bound is the greatest coordinate that has a pixel.
const bound = 2097152

func pt(x, y int) api.Point      { return api.Point{X: x, Y: y} }
func tile(z, x, y int) api.Tile  { return api.Tile{Z: z, X: x, Y: y} }
func box(a, b, c, d int) api.Box { return api.Box{Min: pt(a, b), Max: pt(c, d)} }
func within(a, v, b int) bool    { return a <= v && v <= b }
func has(b api.Box, p api.Point) bool {
	return within(b.Min.X, p.X, b.Max.X) && within(b.Min.Y, p.Y, b.Max.Y)
}

// tiles returns the tiles with these numbers, three for each.
func tiles(l ...int) []api.Tile {
	var list []api.Tile
	for c := range slices.Chunk(l, 3) {
		list = append(list, tile(c[0], c[1], c[2]))
	}
	return list
}

// wrong are tiles that are not valid.
func wrong() []api.Tile {
	const far, least, greatest = 1 << 32, -1 << 63, 1<<63 - 1
	return tiles(
		-1, 0, 0, 18, 0, 0, 0, 1, 0, 0, 0, 1, 0, -1, 0, 0, 0, -1,
		1, 2, 0, 1, 0, 2, 3, 8, 7, 3, 7, 8, 17, 131072, 0, 17, 0, 131072, 17, -1, 5, 17, 5, -1, 16, 65536, 65535,
		far, 0, 0, 3, far, 0, 3, 0, far, -far, 0, 0, 3, -far, 0, 3, 0, -far, 64, 0, 0, -44, 0, 0,
		least, 0, 0, greatest, 0, 0, 5, least, 0, 5, 0, least, 5, greatest, 0, 5, 0, greatest,
		least, least, least, greatest, greatest, greatest, 20, 0, 0, 21, 0, 0, -64, 1, 1)
}

// textOf returns three numbers with / between them.
func textOf(t api.Tile) string {
	return strconv.Itoa(t.Z) + "/" + strconv.Itoa(t.X) + "/" + strconv.Itoa(t.Y)
}

// plainBox returns the box of a valid tile: that of the whole grid, halved once for each zoom level.
func plainBox(t api.Tile) api.Box {
	b := box(0, 0, whole-1, whole-1)
	for level := t.Z - 1; level >= 0; level-- {
		half := (b.Max.X - b.Min.X + 1) / 2
		if t.X>>level&1 == 1 {
			b.Min.X += half
		} else {
			b.Max.X -= half
		}
		if t.Y>>level&1 == 1 {
			b.Min.Y += half
		} else {
			b.Max.Y -= half
		}
	}
	return b
}

// someTile returns a tile of a level.
func someTile(r *rand.Rand, z int) api.Tile {
	return tile(z, r.Intn(1<<z), r.Intn(1<<z))
}

// somePoint returns a point of the grid.
func somePoint(r *rand.Rand) api.Point {
	p := pt(r.Intn(whole), r.Intn(whole))
	if r.Intn(3) == 0 {
		p.X &= -(1 << r.Intn(20))
	}
	if r.Intn(3) == 0 {
		p.Y |= 1<<r.Intn(20) - 1
	}
	return p
}

// someCoordinate returns a coordinate that has a pixel, often one near a limit of a tile.
func someCoordinate(r *rand.Rand, least, greatest int) int {
	switch r.Intn(4) {
	case 0:
		return r.Intn(2*bound+1) - bound
	case 1:
		return least + r.Intn(greatest-least+1)
	case 2:
		return max(-bound, least-r.Intn(9))
	}
	return min(bound, greatest+r.Intn(9))
}

// of returns the tile of a point of the grid.
func of(t *testing.T, p api.Point, z int) api.Tile {
	t.Helper()
	got, e := grid.Of(p, z)
	if e != api.OK {
		t.Fatalf("Of(%v, %d): %d", p, z, e)
	}
	return got
}

// boxOf returns the box of a valid tile.
func boxOf(t *testing.T, a api.Tile) api.Box {
	t.Helper()
	got, e := grid.Box(a)
	if e != api.OK {
		t.Fatalf("Box(%v): %d", a, e)
	}
	return got
}

// up returns the tile above one that has one.
func up(t *testing.T, a api.Tile) api.Tile {
	t.Helper()
	got, e := grid.Up(a)
	if e != api.OK {
		t.Fatalf("Up(%v): %d", a, e)
	}
	return got
}

// kidsOf returns the kids of a tile that has kids.
func kidsOf(t *testing.T, a api.Tile) []api.Tile {
	t.Helper()
	got, e := grid.Kids(a)
	if e != api.OK {
		t.Fatalf("Kids(%v): %d", a, e)
	}
	return got
}

// cover returns the cover of a box that has one.
func cover(t *testing.T, b api.Box, z int) []api.Tile {
	t.Helper()
	got, e := grid.Cover(b, z)
	if e != api.OK {
		t.Fatalf("Cover(%v, %d): %d", b, z, e)
	}
	return got
}

// pixel returns the pixel of a point that has one.
func pixel(t *testing.T, a api.Tile, p api.Point) api.Point {
	t.Helper()
	got, e := grid.Pixel(a, p)
	if e != api.OK {
		t.Fatalf("Pixel(%v, %v): %d", a, p, e)
	}
	return got
}
