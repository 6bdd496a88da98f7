package index_test

import (
	"math"
	"math/rand"
	"slices"
	"strconv"
	"testing"

	"planisphere/api"
	"planisphere/index"
)

// answerIn is a box and what In answers for it.
type answerIn struct {
	b    api.Box
	want []string
}

// answerNear is a point with a number, and what Near answers for them.
type answerNear struct {
	p    api.Point
	n    int
	want []string
}

// P6.1: the chapter's examples.
func TestExamples(t *testing.T) {
	x := index.New()
	put(t, x, "a", box(0, 0, 2, 2))
	put(t, x, "b", box(2, 2, 5, 3))
	put(t, x, "c", box(9, 0, 9, 0))
	same(t, "In", x.In(box(1, 1, 2, 2)), ids("a", "b"))
	same(t, "Near", x.Near(pt(8, 2), 2), ids("c", "b"))
	if e := x.Put("a", box(7, 7, 8, 8)); e != api.ErrTwice {
		t.Error(e)
	}
}

// P6.1, F2 to F4: answers that come from another program.
func TestKnown(t *testing.T) {
	for _, k := range []struct {
		ids   []string
		boxes []api.Box
		in    []answerIn
		near  []answerNear
	}{
		{
			ids:   ids("z z", "a", "9", "ab", "b", "é"),
			boxes: boxes(3, -3, 3, -3, -3, -1, -3, -1, -2, 2, 0, 2, -2, 0, 2, 1, -2, -1, 3, 2, -3, -1, 1, 0),
			in: []answerIn{
				{box(-1, -2, -1, -2), ids()},
				{box(-1, -3, -1, -3), ids()},
				{box(1, -1, 1, -1), ids("b", "é")},
				{box(-2, -1, 2, -1), ids("b", "é")},
			},
			near: []answerNear{
				{pt(3, 3), 4, ids("b", "ab", "9", "é")},
				{pt(3, -3), 2, ids("z z", "b")},
				{pt(0, -3), 3, ids("b", "é", "ab")},
				{pt(3, -2), 6, ids("b", "z z", "ab", "é", "9", "a")},
			},
		},
		{
			ids:   ids("A", "9", "a", "B", "", "é", "b", "ab"),
			boxes: boxes(3, -7, 3, -7, 6, -3, 8, 2, -7, -4, 4, 2, 3, -2, 3, -2, 3, 2, 3, 2, -2, -3, -2, -3, -2, -3, 0, 8, 3, 5, 3, 5),
			in: []answerIn{
				{box(-8, -4, -8, -4), ids()},
				{box(-8, 1, 8, 6), ids("", "9", "a", "ab", "b")},
				{box(-9, -9, 0, 9), ids("a", "b", "é")},
				{box(-1, -4, 8, 1), ids("9", "B", "a", "b")},
			},
			near: []answerNear{
				{pt(-3, 0), 8, ids("a", "b", "é", "", "B", "ab", "9", "A")},
				{pt(1, 7), 6, ids("b", "ab", "a", "", "9", "B")},
				{pt(4, -5), 7, ids("a", "A", "9", "B", "b", "é", "")},
				{pt(7, -8), 7, ids("A", "9", "a", "B", "b", "é", "")},
			},
		},
		{
			ids:   ids("", "z z", "9", "B", "é", "a", "ab", "A", "10"),
			boxes: boxes(-51, -93, -51, -93, -35, -47, -6, 45, 12, -18, 12, -18, 6, -61, 6, -61, -38, -75, 24, 66, -76, -2, 38, 3, -100, 2, -54, 77, 25, -20, 97, -2, 45, -10, 45, -10),
			in: []answerIn{
				{box(17, -38, 51, 41), ids("10", "A", "a", "é")},
				{box(-56, -35, -34, -25), ids("z z", "é")},
				{box(5, -65, 57, 67), ids("10", "9", "A", "B", "a", "é")},
				{box(-19, -29, 1, 83), ids("a", "z z", "é")},
			},
			near: []answerNear{
				{pt(69, 20), 4, ids("A", "a", "10", "é")},
				{pt(-35, 16), 5, ids("z z", "é", "a", "ab", "9")},
				{pt(19, -80), 4, ids("é", "B", "z z", "A")},
				{pt(94, 51), 7, ids("A", "é", "a", "10", "z z", "9", "B")},
			},
		},
		{
			ids:   ids("9", "a", "ab", "A", "é", "b", "10", "z z", "B", ""),
			boxes: boxes(-698612, -2020944, 1120361, 259234, -1406722, 1427859, -595997, 1934826, -110216, 1189814, -110216, 1189814, -1693904, -485800, -1693904, -485800, 159728, -307090, 167827, -91174, -980351, -446597, -980351, -446597, -237946, 887983, 1770571, 1586199, -1145682, -474217, -1145682, -474217, -777238, -2087216, 368771, 1000123, -1960072, -1114941, -1960072, -1114941),
			in: []answerIn{
				{box(323883, -1321276, 1038011, -568950), ids("9", "B")},
				{box(-206865, -777983, 1900111, 692927), ids("9", "B", "é")},
				{box(-1388530, -203145, -251438, 1473887), ids("9", "B", "a")},
				{box(-1331906, -1761715, 804701, 1568858), ids("10", "9", "B", "a", "ab", "b", "z z", "é")},
			},
			near: []answerNear{
				{pt(1858837, -1096528), 9, ids("9", "B", "é", "10", "b", "ab", "z z", "a", "A")},
				{pt(37364, 1307703), 3, ids("10", "ab", "B")},
				{pt(-1772637, 302705), 6, ids("A", "B", "z z", "9", "b", "a")},
				{pt(1885817, -676561), 6, ids("9", "B", "10", "é", "ab", "b")},
			},
		},
	} {
		x := index.New()
		for i, id := range k.ids {
			put(t, x, id, k.boxes[i])
		}
		for _, a := range k.in {
			same(t, "In", x.In(a.b), a.want)
		}
		for _, a := range k.near {
			same(t, "Near", x.Near(a.p, a.n), a.want)
		}
		for i, id := range k.ids {
			if got, found := x.Box(id); got != k.boxes[i] || !found {
				t.Errorf("Box(%q) = %v, %t", id, got, found)
			}
		}
	}
}

// P6.1, F1, F3: which boxes are valid: those that are not cannot be put, and meet nothing.
func TestValid(t *testing.T) {
	for _, k := range []struct {
		b     api.Box
		valid bool
	}{
		{api.Box{}, true},
		{box(-bound, -bound, bound, bound), true},
		{box(bound, bound, bound, bound), true},
		{box(-bound, -bound, -bound, -bound), true},
		{box(3, 4, 3, 4), true},
		{box(3, 4, 3, 9), true},
		{box(3, 4, 2, 4), false},
		{box(3, 4, 3, 3), false},
		{box(1, 0, 0, 1), false},
		{box(0, 1, 1, 0), false},
		{box(-bound-1, 0, 0, 0), false},
		{box(0, -bound-1, 0, 0), false},
		{box(0, 0, bound+1, 0), false},
		{box(0, 0, 0, bound+1), false},
		{box(bound+1, 0, bound+1, 0), false},
		{box(0, -bound-1, 0, -bound-1), false},
		{box(math.MinInt, math.MinInt, math.MaxInt, math.MaxInt), false},
		{box(math.MaxInt, math.MaxInt, math.MinInt, math.MinInt), false},
		{box(0, 0, 1<<32, 1<<32), false},
		{box(-1<<32, -1<<32, 0, 0), false},
		{box(1<<32, 1<<32, 1<<32, 1<<32), false},
	} {
		x := index.New()
		want, there := api.OK, ids("it")
		if !k.valid {
			want, there = api.ErrArg, nil
		}
		if e := x.Put("it", k.b); e != want {
			t.Errorf("Put(%v) = %d, want %d", k.b, e, want)
		}
		same(t, "In", x.In(box(-bound, -bound, bound, bound)), there)
		if got, found := x.Box("it"); found != k.valid || k.valid && got != k.b || !k.valid && got != (api.Box{}) {
			t.Errorf("Box = %v, %t for %v", got, found, k.b)
		}
		all := index.New()
		put(t, all, "it", box(-bound, -bound, bound, bound))
		same(t, "In", all.In(k.b), there)
	}
}

// P6.1, F4: Near answers nothing for a number that is not positive or a point with a coordinate that is too great, and all boxes for a great number.
func TestNearArguments(t *testing.T) {
	x := index.New()
	same(t, "Near of none", x.Near(pt(0, 0), 5), nil)
	put(t, x, "a", box(-bound, -bound, bound, bound))
	put(t, x, "b", box(bound, bound, bound, bound))
	for _, n := range []int{0, -1, math.MinInt} {
		same(t, "Near", x.Near(pt(0, 0), n), nil)
	}
	for _, p := range []api.Point{pt(bound+1, 0), pt(0, bound+1), pt(-bound-1, 0), pt(0, -bound-1), pt(math.MinInt, math.MaxInt), pt(math.MaxInt, 0), pt(0, math.MinInt), pt(1<<32, 1<<32)} {
		same(t, "Near", x.Near(p, 1), nil)
	}
	for _, p := range []api.Point{pt(bound, bound), pt(-bound, -bound), pt(bound, -bound), pt(0, 0)} {
		same(t, "Near", x.Near(p, 1), ids("a"))
		same(t, "Near", x.Near(p, 2), ids("a", "b"))
		same(t, "Near", x.Near(p, 3), ids("a", "b"))
		same(t, "Near", x.Near(p, math.MaxInt), ids("a", "b"))
	}
}

// P6.1, P1: a nil index.
func TestNil(t *testing.T) {
	var x *index.Index
	for _, b := range boxes(0, 0, 1, 1, 1, 1, 0, 0) {
		if e := x.Put("a", b); e != api.ErrArg {
			t.Error(e)
		}
		same(t, "In", x.In(b), nil)
	}
	if e := x.Drop("a"); e != api.ErrArg {
		t.Error(e)
	}
	if b, found := x.Box("a"); found || b != (api.Box{}) {
		t.Error(b, found)
	}
	same(t, "Near", x.Near(pt(0, 0), 1), nil)
}

// P6.1: Ids are any strings, in the order of their bytes.
func TestIds(t *testing.T) {
	x := index.New()
	order := ids("", "\x00", "\x00\x00", "A", "a", "a ", "aa", "b", "\u00e9", "\u20ac", "\xff", "\xff\xff")
	for _, id := range []int{7, 2, 11, 0, 5, 9, 1, 4, 3, 10, 8, 6} {
		put(t, x, order[id], box(1, 1, 1, 1))
	}
	same(t, "In", x.In(box(0, 0, 1, 1)), order)
	same(t, "Near", x.Near(pt(5, 5), 99), order)
	for i, id := range order {
		drop(t, x, id)
		same(t, "In", x.In(box(0, 0, 1, 1)), order[i+1:])
	}
}

// P6.2: of the boxes of a small square, exactly those with a common point meet; the points are counted.
func TestMeetSmall(t *testing.T) {
	var all []api.Box
	for i := range 256 {
		if b := box(i%4, i/4%4, i/16%4, i/64); isValid(b) {
			all = append(all, b)
		}
	}
	x := index.New()
	for i, b := range all {
		put(t, x, strconv.Itoa(1000+i), b)
	}
	for _, b := range all {
		var want []string
		for i, c := range all {
			common := 0
			for k := range 16 {
				if p := pt(k%4, k/4); has(b, p) && has(c, p) {
					common++
				}
			}
			if common > 0 {
				want = append(want, strconv.Itoa(1000+i))
			}
		}
		same(t, "In", x.In(b), want)
	}
}

// P6.3: in a small square, the distance of a box is the least one of its points.
func TestNearSmall(t *testing.T) {
	var all []api.Box
	for i := range 256 {
		if b := box(i%4, i/4%4, i/16%4, i/64); isValid(b) {
			all = append(all, b)
		}
	}
	x := index.New()
	for i, b := range all {
		put(t, x, strconv.Itoa(1000+i), b)
	}
	for k := range 100 {
		p := pt(k%10-3, k/10-3)
		order := map[int][]string{}
		for i, b := range all {
			least := math.MaxInt
			for j := range 16 {
				if q := pt(j%4, j/4); has(b, q) {
					least = min(least, (p.X-q.X)*(p.X-q.X)+(p.Y-q.Y)*(p.Y-q.Y))
				}
			}
			order[least] = append(order[least], strconv.Itoa(1000+i))
		}
		var want []string
		for square := range 100 {
			want = append(want, order[square]...)
		}
		for _, n := range []int{1, 7, 50, 100, 200} {
			same(t, "Near", x.Near(p, n), want[:min(n, len(want))])
		}
	}
}

// P6.1, P6.2, P6.3, P6.6: after each of many calls, the index answers as one that asks each box.
func TestPlain(t *testing.T) {
	r := rand.New(rand.NewSource(11))
	counts := map[api.Errno]int{}
	for range 200 {
		x, p, k := index.New(), plain{}, someSize(r)
		b := someBox(r, k)
		for range 150 {
			id := someId(r, 40)
			if r.Intn(3) == 0 {
				e := p.drop(id)
				if got := x.Drop(id); got != e {
					t.Fatalf("Drop = %d, want %d", got, e)
				}
				counts[e]++
			} else {
				if r.Intn(4) > 0 {
					b = someBox(r, k)
				}
				if r.Intn(10) == 0 {
					b.Min.X = b.Max.X + 1
				}
				e := p.put(id, b)
				if got := x.Put(id, b); got != e {
					t.Fatalf("Put(%v) = %d, want %d", b, got, e)
				}
				counts[e]++
			}
			compare(t, r, x, p, k)
		}
	}
	for _, e := range []api.Errno{api.OK, api.ErrArg, api.ErrTwice, api.ErrNone} {
		if counts[e] < 500 {
			t.Errorf("only %d results %d", counts[e], e)
		}
	}
}

// P6.2, P6.3: an index with many boxes.
func TestPlainMany(t *testing.T) {
	r := rand.New(rand.NewSource(12))
	for _, k := range []int{4, 30, 5000, bound} {
		p := filled(r, 3000, k)
		x := indexOf(t, p)
		for range 40 {
			compare(t, r, x, p, k)
		}
		for _, id := range p.in(someBox(r, k)) {
			p.drop(id)
			drop(t, x, id)
		}
		for range 40 {
			compare(t, r, x, p, k)
		}
	}
}

// P6.3: what Near leaves out is not nearer, and more boxes begin with fewer.
func TestNearest(t *testing.T) {
	r := rand.New(rand.NewSource(13))
	for range 200 {
		k := someSize(r)
		p := filled(r, r.Intn(60), k)
		x, at := indexOf(t, p), somePoint(r, k)
		whole := x.Near(at, len(p))
		if len(whole) != len(p) {
			t.Fatal(len(whole), len(p))
		}
		for i := 1; i < len(whole); i++ {
			a, b := far(p[whole[i-1]], at), far(p[whole[i]], at)
			if a > b || a == b && whole[i-1] >= whole[i] {
				t.Fatalf("%q before %q", whole[i-1], whole[i])
			}
		}
		for n := range len(p) + 3 {
			same(t, "Near", x.Near(at, n), whole[:min(n, len(p))])
		}
	}
}

// P6.4: neither the order in which boxes are added nor boxes that were removed make a difference.
func TestOrder(t *testing.T) {
	r := rand.New(rand.NewSource(14))
	for range 200 {
		k := someSize(r)
		p := filled(r, r.Intn(60), k)
		x, y := indexOf(t, p), index.New()
		for i := range 40 {
			put(t, y, "old"+strconv.Itoa(i), someBox(r, k))
		}
		all := p.sorted(func(api.Box) bool { return true })
		r.Shuffle(len(all), func(i, j int) { all[i], all[j] = all[j], all[i] })
		for i, id := range all {
			if i%3 == 0 {
				put(t, y, id, someBox(r, k))
				drop(t, y, id)
			}
			put(t, y, id, p[id])
		}
		for i := range 40 {
			drop(t, y, "old"+strconv.Itoa(i))
		}
		for range 30 {
			compare(t, r, x, p, k)
			compare(t, r, y, p, k)
			b, at := someBox(r, k), somePoint(r, k)
			same(t, "In", y.In(b), x.In(b))
			same(t, "Near", y.Near(at, len(p)), x.Near(at, len(p)))
		}
	}
}

// P6.4: an index that has been emptied is as a new one.
func TestEmptied(t *testing.T) {
	r := rand.New(rand.NewSource(15))
	x := index.New()
	for range 20 {
		k := someSize(r)
		p := filled(r, 50, k)
		for id, b := range p {
			put(t, x, id, b)
		}
		compare(t, r, x, p, k)
		for id := range p {
			drop(t, x, id)
			if e := x.Drop(id); e != api.ErrNone {
				t.Fatal(e)
			}
		}
		compare(t, r, x, plain{}, k)
		same(t, "In", x.In(box(-bound, -bound, bound, bound)), nil)
		same(t, "Near", x.Near(pt(0, 0), 100), nil)
	}
}

// P6.5: what meets a box meets each box around it; what meets two boxes is what both return, if one of them is inside the other one.
func TestInside(t *testing.T) {
	r := rand.New(rand.NewSource(16))
	for range 500 {
		k := someSize(r)
		p := filled(r, 60, k)
		x := indexOf(t, p)
		inner := someBox(r, k)
		outer := box(between(r, -k, inner.Min.X), between(r, -k, inner.Min.Y), between(r, inner.Max.X, k), between(r, inner.Max.Y, k))
		few, many := x.In(inner), x.In(outer)
		both := slices.DeleteFunc(slices.Clone(many), func(id string) bool { return !slices.Contains(few, id) })
		same(t, "In of the inner box", few, both)
		same(t, "In of both", few, p.sorted(func(b api.Box) bool { return meet(b, inner) && meet(b, outer) }))
		if got := x.In(box(-k, -k, k, k)); len(got) != 60 {
			t.Fatal(len(got))
		}
	}
}

// P6.6, F1: the errors are in this order, and a call with one changes nothing.
func TestErrors(t *testing.T) {
	x := index.New()
	put(t, x, "a", box(0, 0, 2, 2))
	put(t, x, "b", box(0, 0, 2, 2))
	for _, k := range []struct {
		id   string
		b    api.Box
		want api.Errno
	}{
		{"a", box(5, 5, 4, 5), api.ErrArg},
		{"c", box(5, 5, 4, 5), api.ErrArg},
		{"a", box(9, 9, 9, 9), api.ErrTwice},
		{"a", box(0, 0, 2, 2), api.ErrTwice},
		{"b", box(-9, -9, 9, 9), api.ErrTwice},
	} {
		if e := x.Put(k.id, k.b); e != k.want {
			t.Errorf("Put(%q, %v) = %d, want %d", k.id, k.b, e, k.want)
		}
	}
	for _, id := range ids("c", "", "aa") {
		if e := x.Drop(id); e != api.ErrNone {
			t.Errorf("Drop(%q) = %d", id, e)
		}
	}
	same(t, "In", x.In(box(-9, -9, 9, 9)), ids("a", "b"))
	same(t, "In", x.In(box(3, 3, 9, 9)), nil)
	same(t, "Near", x.Near(pt(9, 9), 9), ids("a", "b"))
	for _, id := range ids("a", "b") {
		if b, found := x.Box(id); b != box(0, 0, 2, 2) || !found {
			t.Error(id, b, found)
		}
	}
	drop(t, x, "a")
	if e := x.Drop("a"); e != api.ErrNone {
		t.Error(e)
	}
	if b, found := x.Box("a"); found || b != (api.Box{}) {
		t.Error(b, found)
	}
	put(t, x, "a", box(9, 9, 9, 9))
	same(t, "In", x.In(box(3, 3, 9, 9)), ids("a"))
}

// P6.1, P6.6, F1: 1000000 boxes are possible, and not more; many of them are the same.
func TestFull(t *testing.T) {
	x := index.New()
	for i := range 1000000 {
		put(t, x, strconv.Itoa(i), box(0, 0, i%2*(i/2), 7))
	}
	if e := x.Put("a", box(0, 0, 0, 0)); e != api.ErrFull {
		t.Errorf("one more: %d", e)
	}
	if e := x.Put("7", box(0, 0, 0, 0)); e != api.ErrTwice {
		t.Errorf("one that is there: %d", e)
	}
	if e := x.Put("a", box(0, 0, -1, 0)); e != api.ErrArg {
		t.Errorf("one that is not valid: %d", e)
	}
	if _, found := x.Box("a"); found {
		t.Error("it was added")
	}
	same(t, "In", x.In(box(499998, 7, 500000, 9)), ids("999997", "999999"))
	same(t, "Near", x.Near(pt(499998, 8), 3), ids("999997", "999999", "999995"))
	if got := x.In(box(0, 0, 0, 0)); len(got) != 1000000 || !slices.IsSorted(got) {
		t.Error(len(got))
	}
	drop(t, x, "7")
	put(t, x, "a", box(0, 0, 0, 0))
	if e := x.Put("7", box(0, 0, 0, 0)); e != api.ErrFull {
		t.Errorf("one more again: %d", e)
	}
	for i := range 999000 {
		if i != 7 {
			drop(t, x, strconv.Itoa(i))
		}
	}
	same(t, "Near", x.Near(pt(0, 0), 3), ids("999000", "999001", "999002"))
	if got := x.In(box(1, 1, 1, 1)); len(got) != 500 || got[0] != "999001" {
		t.Error(len(got))
	}
}

// P3: equal calls yield equal results; indexes do not share what they hold, and results share no memory with them.
func TestIndependence(t *testing.T) {
	r := rand.New(rand.NewSource(17))
	for range 50 {
		k := someSize(r)
		p := filled(r, 40, k)
		x, y, other := indexOf(t, p), indexOf(t, p), index.New()
		put(t, other, "n1", box(0, 0, 0, 0))
		whole := box(-k, -k, k, k)
		kept := [][]string{x.In(whole), x.Near(pt(0, 0), 20)}
		for _, list := range [][]string{x.In(whole), x.Near(pt(0, 0), 20)} {
			for i := range list {
				list[i] = "changed"
			}
		}
		first := x.In(whole)
		drop(t, x, "n1")
		put(t, x, "n1", p["n1"])
		same(t, "a result after later calls", first, kept[0])
		for _, z := range []*index.Index{x, y} {
			same(t, "In", z.In(whole), kept[0])
			same(t, "Near", z.Near(pt(0, 0), 20), kept[1])
		}
		same(t, "In of another one", other.In(whole), ids("n1"))
	}
}
