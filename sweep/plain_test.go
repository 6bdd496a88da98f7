package sweep_test

import (
	"math/rand"

	"planisphere/api"
	"planisphere/geom"
)

// bound is the greatest coordinate of a point that is near.
const bound = 2097152

// segs returns the segments with these coordinates, four for each.
func segs(l ...int) []api.Segment {
	var list []api.Segment
	for i := 0; i+3 < len(l); i += 4 {
		list = append(list, api.Segment{A: api.Point{X: l[i], Y: l[i+1]}, B: api.Point{X: l[i+2], Y: l[i+3]}})
	}
	return list
}

// meets returns the meetings with these values, three for each.
func meets(l ...int) []api.Meet {
	var list []api.Meet
	for i := 0; i+2 < len(l); i += 3 {
		list = append(list, api.Meet{A: l[i], B: l[i+1], Kind: l[i+2]})
	}
	return list
}

// plainAll asks for each pair of indices, in order.
func plainAll(l []api.Segment) []api.Meet {
	var list []api.Meet
	for a := range l {
		for b := a + 1; b < len(l); b++ {
			if kind := geom.Meets(l[a], l[b]); kind != api.MeetNone {
				list = append(list, api.Meet{A: a, B: b, Kind: kind})
			}
		}
	}
	return list
}

// chosen returns a list of segments that chance chooses: small or great ones, points, copies and parts of others, and a few that are far.
func chosen(r *rand.Rand, count int) []api.Segment {
	k := []int{2, 5, 20, 1000, bound}[r.Intn(5)]
	reach := []int{2, 10, 2*k + 1}[r.Intn(3)]
	list := make([]api.Segment, count)
	for i := range list {
		a := api.Point{X: r.Intn(2*k+1) - k, Y: r.Intn(2*k+1) - k}
		b := api.Point{X: a.X + r.Intn(2*reach+1) - reach, Y: a.Y + r.Intn(2*reach+1) - reach}
		switch r.Intn(10) {
		case 0:
			b = a
		case 1:
			b.X = a.X
		case 2:
			b.Y = a.Y
		}
		list[i] = api.Segment{A: a, B: b}
		if i == 0 {
			continue
		}
		other := list[r.Intn(i)]
		switch r.Intn(12) {
		case 0:
			list[i] = other
		case 1:
			list[i] = api.Segment{A: other.B, B: other.A}
		case 2:
			list[i].A = other.B
		case 3:
			list[i] = api.Segment{A: other.B, B: other.B}
		}
	}
	return list
}

// moved returns the list with all points moved.
func moved(l []api.Segment, x, y int) []api.Segment {
	var list []api.Segment
	for _, s := range l {
		list = append(list, segs(s.A.X+x, s.A.Y+y, s.B.X+x, s.B.Y+y)...)
	}
	return list
}

// turned returns the list with the ends of a part of the segments exchanged: of those for which turn answers true.
func turned(l []api.Segment, turn func(i int) bool) []api.Segment {
	var list []api.Segment
	for i, s := range l {
		if turn(i) {
			s.A, s.B = s.B, s.A
		}
		list = append(list, s)
	}
	return list
}
