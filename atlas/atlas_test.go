package atlas_test

import (
	"fmt"
	"math/rand"
	"slices"
	"strings"
	"testing"

	"planisphere/api"
	"planisphere/atlas"
	"planisphere/digest"
	"planisphere/object"
)

// P12.1: the chapter's examples.
func TestExamples(t *testing.T) {
	a, b, c := node("a", 1, 2), node("b", 3, 4), node("c", 5, 6)
	m := put(t, put(t, put(t, api.Map{}, a), c), b)
	wantsMap(t, "Put of a, c, b", m, api.OK, mapOf(a, b, c), api.OK)
	wantsDiff(t, m, drop(t, m, "b"), []api.Delta{{Id: "b", Was: true, Old: b}})
	m = put(t, put(t, m, refs(api.KindWay, "w", "a c")), refs(api.KindWay, "x", "a x"))
	wantsPoints(t, m, "w", []api.Point{a.At, c.At}, api.OK)
	wantsPoints(t, m, "x", nil, api.ErrRefs)
}

// P12.1, P3, L1 to L5: the map without objects, as a nil and as an empty list; equal arguments yield equal results.
func TestEmpty(t *testing.T) {
	empty := mapOf([]api.Object{}...)
	for _, m := range []api.Map{{}, empty, {Objects: []api.Object{}}, {Objects: make([]api.Object, 0, 9)}} {
		wantsAll(t, m, []string{"", "a", "7"}, node("a", 1, 2), refs(api.KindWay, "w", "a b"))
		wantsDigest(t, m, digest.List(nil))
		wantsSame(t, m, empty, true)
		wantsSame(t, m, mapOf(api.Object{}), false)
		wantsPut(t, m, node("a", 1, 2), mapOf(node("a", 1, 2)), api.OK)
		wantsPut(t, m, api.Object{}, api.Map{}, api.ErrArg)
		wantsDrop(t, m, "a", api.Map{}, api.ErrNone)
		wantsPoints(t, m, "a", nil, api.ErrNone)
		wantsRefers(t, m, "a", nil)
		wantsPatch(t, m, []api.Delta{}, empty, api.OK)
		wantsPatch(t, m, []api.Delta{{Id: "a", Is: true, New: node("a", 1, 2)}}, mapOf(node("a", 1, 2)), api.OK)
		wantsPatch(t, m, []api.Delta{{Id: "a", Was: true, Old: node("a", 1, 2)}}, api.Map{}, api.ErrState)
	}
	// Objects whose lists are nil or empty are equal.
	bare, full := node("n", 1, 2), node("n", 1, 2)
	bare.Refs, bare.Tags, full.Refs, full.Tags = nil, nil, []string{}, []api.Tag{}
	wantsSame(t, mapOf(bare), mapOf(full), true)
	wantsDiff(t, mapOf(bare), mapOf(full), nil)
	wantsDigest(t, mapOf(full), plainDigest(mapOf(bare)))
	for _, o := range []api.Object{bare, full} {
		wantsPatch(t, mapOf(bare), []api.Delta{{Id: "n", Was: true, Old: o}}, api.Map{}, api.OK)
		wantsPatch(t, mapOf(full), []api.Delta{{Id: "n", Was: true, Old: o, New: api.Object{Refs: []string{}, Tags: []api.Tag{}}}}, api.Map{}, api.OK)
		wantsPatch(t, mapOf(bare), []api.Delta{{Id: "n", Was: true, Is: true, Old: o, New: full}}, api.Map{}, api.ErrArg)
	}
}

// P12.1, L1: Ids are strictly increasing, byte by byte.
func TestValidOrder(t *testing.T) {
	some := append(words(allIds), "N1", "n", "n10", "n1_", "n_", repeat("n", maxName))
	for _, a := range some {
		for _, b := range some {
			m := mapOf(node(a, 1, 2), node(b, 1, 2))
			wantsValid(t, m, a < b)
			wantsValid(t, mapOf(node("A0", 1, 2), node(a, 1, 2), refs(api.KindWay, b, "a b"), node("zz", 1, 2)), "A0" < a && a < b)
			if a >= b {
				wantsWrong(t, m)
			} else {
				wantsAll(t, m, some)
			}
		}
	}
	// Each two that stand in a wrong order, and each one that stands twice.
	m := small()
	for i := range m.Objects {
		for j := range i {
			wantsWrong(t, with(m, func(l []api.Object) []api.Object {
				l[i], l[j] = l[j], l[i]
				return l
			}))
			wantsWrong(t, with(m, func(l []api.Object) []api.Object { return slices.Insert(l, i, l[j]) }))
		}
		wantsWrong(t, with(m, func(l []api.Object) []api.Object { return slices.Insert(l, i, l[i]) }))
		wantsWrong(t, changed(m, i, func(o *api.Object) { o.Id = m.Objects[(i+1)%len(m.Objects)].Id }))
	}
}

// wrongObjects has objects that are not valid, each for one reason.
func wrongObjects(id string) []api.Object {
	l := []api.Object{
		{}, {Id: id}, {Id: id, Kind: 6}, {Id: id, Kind: -1}, node("", 1, 2), node("7", 1, 2), node("a-b", 1, 2), node(repeat("a", maxName+1), 1, 2),
		node(id, -1, 0), node(id, 0, -1), node(id, maxAt+1, 0), node(id, 0, maxAt+1), node(id, 1, 2, "7", "x"), node(id, 1, 2, "a", ""), node(id, 1, 2, "b", "1", "a", "1"), node(id, 1, 2, "a", repeat("v", maxValue+1)),
		refs(api.KindNode, id, "a"), refs(api.KindWay, id, "a"), refs(api.KindWay, id, "a a"), refs(api.KindWay, id, "a 7"), refs(api.KindArea, id, "a b"), refs(api.KindArea, id, "a b a"), refs(api.KindRoute, id, ""), refs(api.KindTurn, id, "a b"), refs(api.KindTurn, id, "a b c d"),
	}
	l = append(l, refs(api.KindRoute, id, "a"), api.Object{Id: id, Kind: api.KindNode, Tags: manyTags(maxTags+1, "v")}, api.Object{Id: id, Kind: api.KindWay, Refs: names(maxRefs+1, 5)})
	l[len(l)-3].At.X = 1
	return l
}

// P12.1, P1, L1 to L5: a map with an object that is not valid, at each place, is not valid; such an object cannot be put.
func TestWrongObjects(t *testing.T) {
	m := small()
	for i := range m.Objects {
		for _, o := range wrongObjects(m.Objects[i].Id) {
			wantsWrong(t, changed(m, i, func(old *api.Object) { *old = o }))
			wantsPut(t, m, o, api.Map{}, api.ErrArg)
		}
	}
	for _, o := range wrongObjects("b") {
		wantsWrong(t, mapOf(o))
		wantsPut(t, m, o, api.Map{}, api.ErrArg)
		wantsPut(t, api.Map{}, o, api.Map{}, api.ErrArg)
		wantsPut(t, mapOf(o), o, api.Map{}, api.ErrArg)
		wantsPut(t, mapOf(o), node("b", 1, 2), api.Map{}, api.ErrArg)
	}
}

// P12.1, L1: objects to which others refer need not be there, and may be of any kind.
func TestValidRefs(t *testing.T) {
	wantsAll(t, small(), []string{"gone", "", "a", "zz"}, node("zz", 1, 1), refs(api.KindWay, "n1", "n1 n2"))
	for kind := 2; kind <= 5; kind++ {
		for _, names := range []string{"a b c", "x y z", "x a n1", "a n1 x", "n1 a x"} {
			wantsAll(t, mapOf(refs(kind, "x", names)), words(names))
			wantsAll(t, mapOf(refs(api.KindRoute, "a", "x"), node("n1", 1, 2), refs(kind, "x", names)), words(names))
		}
	}
}

// P12.1, L1: maps are the same if they have equal objects, in order, valid or not.
func TestSame(t *testing.T) {
	m := small()
	var others []api.Map
	for i := range m.Objects {
		others = append(others, with(m, func(l []api.Object) []api.Object { return slices.Delete(l, i, i+1) }), with(m, func(l []api.Object) []api.Object { return slices.Insert(l, i, l[i]) }), with(m, func(l []api.Object) []api.Object { return l[:i] }))
		for _, change := range []func(o *api.Object){
			func(o *api.Object) { o.Id += "x" }, func(o *api.Object) { o.Id = "" }, func(o *api.Object) { o.Kind++ }, func(o *api.Object) { o.Kind = -o.Kind }, func(o *api.Object) { o.At.X++ }, func(o *api.Object) { o.At.Y-- },
			func(o *api.Object) { o.Refs = append(o.Refs, "") }, func(o *api.Object) { o.Tags = append(o.Tags, api.Tag{}) }, func(o *api.Object) { o.Tags = append([]api.Tag{{Key: "a", Value: "1"}}, o.Tags...) },
		} {
			others = append(others, changed(m, i, change))
		}
	}
	others = append(others, with(m, func(l []api.Object) []api.Object {
		slices.Reverse(l)
		return l
	}), changed(m, 0, func(o *api.Object) { slices.Reverse(o.Refs) }), changed(m, 0, func(o *api.Object) { o.Tags[0].Key = "a" }), changed(m, 0, func(o *api.Object) { o.Tags[0].Value = "a" }), changed(m, 2, func(o *api.Object) { slices.Reverse(o.Tags) }))
	all := append(others, m, api.Map{}, mapOf(api.Object{}))
	for i, a := range all {
		wantsSame(t, a, clone(a), true)
		for _, b := range all[:i] {
			wantsSame(t, a, b, show(a) == show(b))
		}
	}
	for _, o := range others {
		wantsSame(t, m, o, false)
	}
}

// P12.1, L1: the index of the first object with an Id, in any map.
func TestFind(t *testing.T) {
	m := mapOf(node("b", 0, 0), node("a", 0, 0), api.Object{}, node("b", 1, 1), node("7 !", 1, 1), node("", 2, 2), node("zz", 1, 1), node("a", 3, 3), refs(api.KindWay, "A", "x y"), node("7 !", 1, 1))
	for id, want := range map[string]int{"b": 0, "a": 1, "": 2, "7 !": 4, "zz": 6, "A": 8, "x": -1, "aa": -1, "B": -1, "7": -1, "z": -1, "c": -1} {
		wantsFind(t, m, id, want)
	}
	allMaps(words("a b c"), []func(id string) api.Object{func(id string) api.Object { return node(id, 1, 2) }}, func(m api.Map) {
		orders(m.Objects, func(l []api.Object) {
			for _, id := range words("a b c d A aa") {
				wantsFind(t, mapOf(l...), id, slices.Index(ids(mapOf(l...)), id))
				wantsFind(t, mapOf(slices.Concat(l, l)...), id, slices.Index(ids(mapOf(l...)), id))
			}
		})
	})
	for n := range 40 {
		var m api.Map
		for _, id := range names(n, 3) {
			m.Objects = append(m.Objects, node(id, 1, 2))
		}
		for i, id := range names(n+1, 3) {
			wantsFind(t, m, id, map[bool]int{true: i, false: -1}[i < n])
			wantsFind(t, m, id+"x", -1)
		}
	}
}

// P12.1, P12.2, L2: after Put the map has the object, and all others as before; Drop of a new object takes it back.
func TestPut(t *testing.T) {
	m := small()
	some := append(words(allIds), "a1", "r1", "t1", "w2", "A", "zzz", "n", "n10", repeat("m", maxName))
	for _, id := range some {
		for _, version := range versions() {
			o := version(id)
			want, _ := plainPut(m, o)
			wantsPut(t, m, o, want, api.OK)
			got := put(t, m, o)
			i := atlas.Find(got, id)
			if !atlas.Valid(got) || i < 0 || !object.Same(got.Objects[i], o) {
				t.Errorf("Put of %s: %s", fields(o), short(got))
			}
			old := atlas.Find(m, id)
			if old < 0 {
				wantsDrop(t, got, id, m, api.OK)
			} else {
				wantsPut(t, got, m.Objects[old], m, api.OK)
				if len(got.Objects) != len(m.Objects) || i != old {
					t.Errorf("Put of %s: %s", fields(o), short(got))
				}
			}
			for _, other := range m.Objects {
				if j := atlas.Find(got, other.Id); other.Id != id && (j < 0 || fields(got.Objects[j]) != fields(other)) {
					t.Errorf("Put of %s has changed %s", fields(o), fields(other))
				}
			}
		}
	}
}

// P12.1, P12.2, L2: Drop of an object, also of one to which others refer.
func TestDrop(t *testing.T) {
	m := small()
	for i, o := range m.Objects {
		got := drop(t, m, o.Id)
		wantsMap(t, "Drop of "+o.Id, got, api.OK, with(m, func(l []api.Object) []api.Object { return slices.Delete(l, i, i+1) }), api.OK)
		wantsDrop(t, got, o.Id, api.Map{}, api.ErrNone)
		wantsPut(t, got, o, m, api.OK)
	}
	// All orders in which all objects are dropped.
	orders(m.Objects[:6], func(l []api.Object) {
		rest := mapOf(m.Objects[:6]...)
		for _, o := range l {
			rest = drop(t, rest, o.Id)
		}
		wantsMap(t, "Drop of all", rest, api.OK, api.Map{}, api.OK)
	})
	for _, id := range []string{"gone", "", "7", "a-b", "A", "zz", "n", "n4", "N1", "n1 ", repeat("a", maxName+1)} {
		wantsDrop(t, m, id, api.Map{}, api.ErrNone)
	}
}

// P12.1, P12.5, L3: who refers to an Id, at each place and also several times.
func TestRefers(t *testing.T) {
	for id, want := range map[string]string{"n1": "a1 w1", "n2": "a1 t1 w1 w2", "n3": "a1", "w1": "r1 t1 w3", "w2": "r1 t1", "w3": "w3", "gone": "w2", "a1": "", "r1": "", "": "", "7": "", "n": "", "N1": "", "class": "", "Elm": "", "n1 n2": ""} {
		wantsRefers(t, small(), id, words(want))
	}
	for _, n := range []int{3, 4, 30, 300, maxRefs} {
		for kind := 2; kind <= 4; kind++ {
			o := api.Object{Id: "x", Kind: kind, Refs: names(n, 5)}
			for i := 0; i < n; i += 1 + n/50 {
				for _, place := range []int{i, n - 1 - i} {
					wantsRefers(t, mapOf(refs(api.KindRoute, "r", o.Refs[place]), o), o.Refs[place], words("r x"))
				}
			}
			wantsRefers(t, mapOf(o), names(n+1, 5)[n], nil)
		}
	}
	var all api.Map
	for _, id := range names(300, 4) {
		all.Objects = append(all.Objects, refs(api.KindRoute, id, "x x"))
	}
	wantsRefers(t, all, "x", names(300, 4))
}

// P12.1, P12.5, L3: as many points as an object has nodes.
func TestPoints(t *testing.T) {
	m := small()
	p, q, r := api.Point{X: 1, Y: 2}, api.Point{X: maxAt}, api.Point{Y: maxAt}
	for id, want := range map[string][]api.Point{"n1": {p}, "n2": {q}, "n3": {r}, "w1": {p, q, p}, "a1": {p, q, r}} {
		wantsPoints(t, m, id, want, api.OK)
	}
	for id, want := range map[string]api.Errno{"r1": api.ErrKind, "t1": api.ErrKind, "w2": api.ErrRefs, "w3": api.ErrRefs, "gone": api.ErrNone, "": api.ErrNone, "7": api.ErrNone, "zz": api.ErrNone, "A": api.ErrNone} {
		wantsPoints(t, m, id, nil, want)
	}
	// Routes and turns have none, whatever they refer to.
	m = mapOf(node("a", 1, 1), node("b", 2, 2), node("c", 3, 3), refs(api.KindRoute, "r", "a b c"), refs(api.KindRoute, "s", "x"), refs(api.KindTurn, "t", "a b c"), refs(api.KindTurn, "u", "a x u"))
	for _, id := range words("r s t u") {
		wantsPoints(t, m, id, nil, api.ErrKind)
	}
}

// P12.1, P12.5, L3: a reference that is no node of the map, of each kind and at each place.
func TestPointsRefs(t *testing.T) {
	for _, n := range []int{3, 4, 30, 300, maxRefs} {
		var m api.Map
		var want []api.Point
		for i, id := range names(n, 5) {
			m.Objects = append(m.Objects, node(id, i, maxAt-i))
			want = append(want, api.Point{X: i, Y: maxAt - i})
		}
		for kind := 2; kind <= 3; kind++ {
			o := api.Object{Id: "x", Kind: kind, Refs: names(n, 5)}
			full := with(m, func(l []api.Object) []api.Object { return append(l, o) })
			wantsPoints(t, full, "x", want, api.OK)
			for _, i := range []int{0, 1, n / 2, n - 2, n - 1} {
				wantsPoints(t, with(full, func(l []api.Object) []api.Object { return slices.Delete(l, i, i+1) }), "x", nil, api.ErrRefs)
				for _, other := range []api.Object{refs(api.KindWay, "", "r0000 r0001"), refs(api.KindArea, "", "r0000 r0001 r0002"), refs(api.KindRoute, "", "x"), refs(api.KindTurn, "", "a b c")} {
					other.Id = o.Refs[i]
					wantsPoints(t, changed(full, i, func(old *api.Object) { *old = other }), "x", nil, api.ErrRefs)
				}
				wantsPoints(t, changed(full, n, func(old *api.Object) { old.Refs[i] = "x" }), "x", nil, api.ErrRefs)
				wantsPoints(t, changed(full, n, func(old *api.Object) { old.Refs[i] = "gone" }), "x", nil, api.ErrRefs)
			}
		}
	}
	// Points of several nodes may be equal, and a way may come back.
	m := mapOf(node("a", 5, 5), node("b", 5, 5), refs(api.KindWay, "w", "a b a b"))
	wantsPoints(t, m, "w", slices.Repeat([]api.Point{{X: 5, Y: 5}}, 4), api.OK)
}

// P12.1, P12.3, L4: the differences of all maps of three Ids, and of all of four Ids with one object each; with them, one map becomes the other one, in both directions.
func TestDiff(t *testing.T) {
	var all []api.Map
	allMaps(words("A a a0"), versions()[1:4], func(m api.Map) { all = append(all, m) })
	allMaps(words("a0 aA b w1"), versions()[5:], func(m api.Map) { all = append(all, m) })
	for _, a := range all {
		for _, b := range all {
			want := plainDiff(a, b)
			wantsDiff(t, a, b, want)
			wantsPatch(t, a, want, b, api.OK)
			wantsPatch(t, b, back(want), a, api.OK)
			if (len(want) == 0) != atlas.Same(a, b) {
				t.Errorf("%s and %s: %d differences", short(a), short(b), len(want))
			}
		}
	}
	// Objects that differ in one thing.
	for _, id := range []string{"a", "m", "z"} {
		for _, old := range versions() {
			for _, new := range versions() {
				a, b := mapOf(node("b", 1, 1), node("n", 1, 1)), mapOf(node("b", 1, 1), node("n", 1, 1))
				a, b = put(t, a, old(id)), put(t, b, new(id))
				var want []api.Delta
				if !object.Same(old(id), new(id)) {
					want = []api.Delta{{Id: id, Was: true, Is: true, Old: old(id), New: new(id)}}
				}
				wantsDiff(t, a, b, want)
				wantsPatch(t, a, want, b, api.OK)
			}
		}
	}
}

// P12.1, L4: all differences of some objects, valid or not, and all pairs of valid ones, with all maps of two Ids.
func TestPatch(t *testing.T) {
	var sides []api.Object
	for _, id := range []string{"a", "b"} {
		sides = append(sides, node(id, 1, 2), node(id, 1, 3))
	}
	sides = append(sides, api.Object{}, api.Object{Id: "a"}, node("a", -1, 2), node("", 1, 2))
	var all []api.Delta
	for _, id := range []string{"a", "b", ""} {
		for i := range 4 {
			for _, old := range sides {
				for _, new := range sides {
					all = append(all, api.Delta{Id: id, Was: i&1 > 0, Is: i&2 > 0, Old: old, New: new})
				}
			}
		}
	}
	var starts []api.Map
	allMaps(words("a b"), []func(id string) api.Object{func(id string) api.Object { return node(id, 1, 2) }, func(id string) api.Object { return node(id, 1, 3) }}, func(m api.Map) { starts = append(starts, m) })
	count := map[api.Errno]int{}
	var valid []api.Delta
	for _, d := range all {
		for _, m := range starts {
			want, err := plainPatch(m, []api.Delta{d})
			wantsPatch(t, m, []api.Delta{d}, want, err)
			count[err]++
		}
		if plainDelta(d) {
			valid = append(valid, d)
		}
	}
	for _, d := range valid {
		for _, f := range append(valid, api.Delta{Id: "b"}, api.Delta{}) {
			for _, m := range starts {
				want, err := plainPatch(m, []api.Delta{d, f})
				wantsPatch(t, m, []api.Delta{d, f}, want, err)
				count[err]++
			}
		}
	}
	if count[api.OK] < 50 || count[api.ErrState] < 100 || count[api.ErrArg] < 1000 || len(valid) != 12 {
		t.Error(count, len(valid))
	}
}

// P12.1, P1, L4: differences that are not valid for one reason, at each place; the map is asked only then.
func TestPatchArg(t *testing.T) {
	a := small()
	b := put(t, drop(t, drop(t, put(t, put(t, a, node("n2", 5, 5)), node("zz", 1, 1)), "w1"), "t1"), refs(api.KindArea, "a1", "n1 n2 n4"))
	good := plainDiff(a, b)
	wantsPatch(t, a, good, b, api.OK)
	changes := []func(d *api.Delta){
		func(d *api.Delta) { *d = api.Delta{} }, func(d *api.Delta) { *d = api.Delta{Id: d.Id} }, func(d *api.Delta) { d.Was = !d.Was }, func(d *api.Delta) { d.Is = !d.Is }, func(d *api.Delta) { d.Was, d.Is = false, false },
		func(d *api.Delta) { d.Id += "x" }, func(d *api.Delta) { d.Id = "" }, func(d *api.Delta) { d.Old.Id += "x" }, func(d *api.Delta) { d.New.Id += "x" }, func(d *api.Delta) { d.Old.Kind = 7 }, func(d *api.Delta) { d.New.Kind = 7 },
		func(d *api.Delta) { d.Old.At.X = -1 }, func(d *api.Delta) { d.New.At.Y = maxAt + 1 }, func(d *api.Delta) { d.Old.Refs = []string{""} }, func(d *api.Delta) { d.New.Refs = []string{"a"} }, func(d *api.Delta) { d.Old.Tags = tags("a", "") }, func(d *api.Delta) { d.New.Tags = []api.Tag{{}} },
		func(d *api.Delta) { d.New = d.Old }, func(d *api.Delta) { d.Old = d.New },
	}
	for i := range good {
		for j, change := range changes {
			l := slices.Clone(good)
			change(&l[i])
			if plainDelta(l[i]) {
				t.Errorf("change %d of %d is valid", j, i)
			}
			// Another map is as wrong: that it is not as the differences say comes after what is not valid.
			for _, m := range []api.Map{a, b, {}} {
				wantsPatch(t, m, l, api.Map{}, api.ErrArg)
				wantsPatch(t, m, []api.Delta{l[i]}, api.Map{}, api.ErrArg)
			}
		}
		for j := range i {
			l := slices.Clone(good)
			l[i], l[j] = l[j], l[i]
			wantsPatch(t, a, l, api.Map{}, api.ErrArg)
			wantsPatch(t, a, slices.Insert(slices.Clone(good), i, good[j]), api.Map{}, api.ErrArg)
		}
		wantsPatch(t, a, slices.Insert(slices.Clone(good), i, good[i]), api.Map{}, api.ErrArg)
		wantsPatch(t, a, slices.Delete(slices.Clone(good), i, i+1), must(plainPatch(a, slices.Delete(slices.Clone(good), i, i+1))), api.OK)
	}
}

// must returns a map that came without an error.
func must(m api.Map, e api.Errno) api.Map {
	if e != api.OK {
		panic(e)
	}
	return m
}

// P12.1, L4: the map has just Old for each difference: not another object, not one more, and not one less.
func TestPatchState(t *testing.T) {
	a := small()
	for i, o := range a.Objects {
		next := o
		next.Tags = tags("new", "1")
		l := []api.Delta{{Id: o.Id, Was: true, Is: true, Old: o, New: next}}
		wantsPatch(t, a, l, changed(a, i, func(o *api.Object) { *o = next }), api.OK)
		wantsPatch(t, drop(t, a, o.Id), l, api.Map{}, api.ErrState)
		wantsPatch(t, put(t, a, next), l, api.Map{}, api.ErrState)
		wantsPatch(t, a, back(l), api.Map{}, api.ErrState)
		wantsPatch(t, a, []api.Delta{{Id: o.Id, Is: true, New: o}}, api.Map{}, api.ErrState)
		wantsPatch(t, a, []api.Delta{{Id: o.Id, Is: true, New: next}}, api.Map{}, api.ErrState)
		wantsPatch(t, a, []api.Delta{{Id: o.Id, Was: true, Old: next}}, api.Map{}, api.ErrState)
		wantsPatch(t, drop(t, a, o.Id), []api.Delta{{Id: o.Id, Was: true, Old: o}}, api.Map{}, api.ErrState)
		for _, version := range versions() {
			other := version(o.Id)
			wantsPatch(t, put(t, a, other), []api.Delta{{Id: o.Id, Was: true, Old: next}}, api.Map{}, api.ErrState)
			for _, wrong := range versions() {
				if !object.Same(wrong(o.Id), other) {
					wantsPatch(t, put(t, a, other), []api.Delta{{Id: o.Id, Was: true, Old: wrong(o.Id)}}, api.Map{}, api.ErrState)
				}
			}
		}
		// One that is not as it should be is enough, at each place.
		for j := range a.Objects {
			var drops []api.Delta
			for k, o := range a.Objects {
				if k == j {
					o.Tags = tags("new", "1")
				}
				drops = append(drops, api.Delta{Id: o.Id, Was: true, Old: o})
			}
			wantsPatch(t, a, drops, api.Map{}, api.ErrState)
		}
	}
}

// P12.4: differences of different objects are patched one after the other, in any order.
func TestOneByOne(t *testing.T) {
	var all []api.Map
	allMaps(words("A a a0"), versions()[2:4], func(m api.Map) { all = append(all, m) })
	for _, a := range all {
		for _, b := range all {
			orders(plainDiff(a, b), func(l []api.Delta) {
				m := a
				for _, d := range l {
					m = patch(t, m, []api.Delta{d})
				}
				wantsMap(t, "Patch one by one", m, api.OK, b, api.OK)
			})
		}
	}
	r := rand.New(rand.NewSource(124))
	for range 200 {
		a := someMap(r, 20)
		b := someChange(r, a)
		l := plainDiff(a, b)
		cut := r.Intn(len(l) + 1)
		wantsMap(t, "Patch of the beginning first", patch(t, patch(t, a, l[:cut]), l[cut:]), api.OK, b, api.OK)
		wantsMap(t, "Patch of the end first", patch(t, patch(t, a, l[cut:]), l[:cut]), api.OK, b, api.OK)
	}
}

// P12.7: the order in which objects are put makes no difference.
func TestPutOrder(t *testing.T) {
	m := small()
	for _, l := range [][]api.Object{m.Objects[:6], m.Objects[3:], {node("n1", 9, 9), node("n10", 9, 9), node("N1", 9, 9), refs(api.KindWay, "n1_", "a b")}} {
		for _, start := range []api.Map{{}, mapOf(m.Objects[2:5]...), m} {
			want := start
			for _, o := range l {
				want = must(plainPut(want, o))
			}
			orders(l, func(l []api.Object) {
				got := start
				for _, o := range l {
					got = put(t, got, o)
				}
				wantsMap(t, "Put in some order", got, api.OK, want, api.OK)
			})
		}
	}
}

// P12.6, L5: different maps have different lists of digests of objects, so maps with one digest show two strings with one digest.
func TestDigests(t *testing.T) {
	digests := map[string]string{}
	lists := map[string]string{}
	add := func(m api.Map) {
		wantsDigest(t, m, plainDigest(m))
		list := strings.Join(plainDigests(m), " ")
		if other, there := digests[atlas.Digest(m)]; there && other != show(m) {
			t.Errorf("one digest: %s and %s", short(m), head(other))
		}
		if other, there := lists[list]; there && other != show(m) {
			t.Errorf("one list: %s and %s", short(m), head(other))
		}
		digests[atlas.Digest(m)], lists[list] = show(m), show(m)
	}
	allMaps(words("A a a0"), versions(), add)
	allMaps(words("a b c d e f"), versions()[:2], add)
	r := rand.New(rand.NewSource(126))
	for range 300 {
		m := someMap(r, 30)
		add(m)
		add(someChange(r, m))
	}
	if len(digests) != len(lists) || len(digests) < 1000 {
		t.Error(len(digests), len(lists))
	}
}

// P1, P3: functions do not modify their arguments, nor the memory behind them, and results share none with arguments or with each other.
func TestMemory(t *testing.T) {
	// All objects share their lists, which have more room, as the list of objects has.
	sharedRefs, sharedTags := words("n1 n2 n3 n4 n5")[:3], tags("class", "park", "name", "Elm", "z", "1")[:2]
	var l []api.Object
	for i, id := range words("a b c d e") {
		o := api.Object{Id: id, Kind: 3, Refs: sharedRefs, Tags: sharedTags}
		if i == 4 {
			o = node(id, 1, 2)
			o.Tags = sharedTags
		}
		l = append(l, o)
	}
	m, n := mapOf(l[:3]...), mapOf(l[1:4]...)
	n.Objects = slices.Clone(n.Objects)
	n.Objects[0].Tags = sharedTags[:1]
	behind := func() string { return fmt.Sprint(l, n, sharedRefs[:5], sharedTags[:3]) }
	before := behind()
	o := api.Object{Id: "bb", Kind: 4, Refs: sharedRefs, Tags: sharedTags}
	last := api.Object{Id: "z", Kind: 4, Refs: sharedRefs, Tags: sharedTags}
	replaced := api.Object{Id: "b", Kind: 2, Refs: sharedRefs, Tags: sharedTags}
	diff := atlas.Diff(m, n)
	both := func(diff []api.Delta) api.Map {
		var m api.Map
		for _, d := range diff {
			m.Objects = append(m.Objects, d.Old, d.New)
		}
		return m
	}
	if len(diff) != 3 {
		t.Fatal(showDeltas(diff))
	}
	results := []api.Map{put(t, m, o), put(t, m, last), put(t, m, replaced), drop(t, m, "a"), drop(t, m, "b"), drop(t, m, "c"), patch(t, m, nil), patch(t, m, plainDiff(m, n)), patch(t, api.Map{}, plainDiff(api.Map{}, m)), both(diff), both(atlas.Diff(m, api.Map{})), both(atlas.Diff(api.Map{}, m))}
	if behind() != before {
		t.Error("arguments were changed")
	}
	for i, result := range results {
		spoil(t, i, result)
	}
	points, _ := atlas.Points(put(t, put(t, put(t, m, node("n1", 1, 1)), node("n2", 1, 1)), node("n3", 1, 1)), "a")
	for i := range points {
		points[i].X = 77
	}
	refers := atlas.Refers(m, "n1")
	for i := range refers {
		refers[i] = "spoilt"
	}
	if behind() != before || len(points) != 3 || len(refers) != 3 {
		t.Error("results share memory with arguments")
	}
}

// spoil writes into all lists of a map, and behind them, and checks that no other one of them changes.
func spoil(t *testing.T, i int, m api.Map) {
	t.Helper()
	for j := range m.Objects {
		rest := func() string {
			return show(mapOf(m.Objects[:j]...)) + show(mapOf(m.Objects[j+1:]...))
		}
		o := m.Objects[j]
		before := rest()
		for k := range o.Refs {
			o.Refs[k] = "spoilt"
		}
		for k := range o.Tags {
			o.Tags[k] = api.Tag{Key: "spoilt", Value: "spoilt"}
		}
		_ = append(o.Refs, "spoilt", "spoilt")
		_ = append(o.Tags, api.Tag{}, api.Tag{})
		if rest() != before {
			t.Errorf("result %d: object %d shares memory with another one", i, j)
		}
	}
	for j := range m.Objects {
		m.Objects[j] = api.Object{}
	}
	_ = append(m.Objects, api.Object{}, api.Object{})
}

// many returns nodes from one number to before another, in a list with room for more.
func many(from, to int) []api.Object {
	l := make([]api.Object, 0, to-from+9)
	for i := from; i < to; i++ {
		l = append(l, node(fmt.Sprintf("m%07d", i), i&maxAt, 7))
	}
	return l
}

// wantsCount checks how many objects a map has, and the error that came with it.
func wantsCount(t *testing.T, call string, m api.Map, e api.Errno, want int, err api.Errno) {
	t.Helper()
	if len(m.Objects) != want || e != err {
		t.Errorf("%s: %d objects, %d, want %d, %d", call, len(m.Objects), e, want, err)
	}
}

// P12.1, P1, L1, L2: a map has at most 1000000 objects.
func TestManyObjects(t *testing.T) {
	full := mapOf(many(0, maxObjects)...)
	first, last := full.Objects[0], full.Objects[maxObjects-1]
	if !atlas.Valid(full) || atlas.Find(full, last.Id) != maxObjects-1 || len(atlas.Digest(full)) != 16 {
		t.Error("a full map is not valid")
	}
	wantsPoints(t, full, last.Id, []api.Point{last.At}, api.OK)
	for _, o := range []api.Object{node("a", 1, 1), node("m0500000x", 1, 1), node("z", 1, 1), refs(api.KindWay, "w", "a b")} {
		m, e := atlas.Put(full, o)
		wantsCount(t, "Put of "+o.Id, m, e, 0, api.ErrLimit)
	}
	m, e := atlas.Put(full, node("zz", -1, 1))
	wantsCount(t, "Put of an object that is not valid", m, e, 0, api.ErrArg)
	for _, o := range []api.Object{node(first.Id, 9, 9), node("m0500000", 9, 9), refs(api.KindRoute, last.Id, "a")} {
		m, e := atlas.Put(full, o)
		wantsCount(t, "Put of "+o.Id, m, e, maxObjects, api.OK)
		if i := atlas.Find(m, o.Id); i < 0 || !object.Same(m.Objects[i], o) {
			t.Errorf("Put of %s: %d", o.Id, i)
		}
	}
	less, e := atlas.Drop(full, "m0500000")
	wantsCount(t, "Drop", less, e, maxObjects-1, api.OK)
	m, e = atlas.Put(less, refs(api.KindRoute, "z", first.Id))
	wantsCount(t, "Put after Drop", m, e, maxObjects, api.OK)
	wantsRefers(t, m, first.Id, []string{"z"})
	m, e = atlas.Put(m, full.Objects[500000])
	wantsCount(t, "another Put", m, e, 0, api.ErrLimit)
}

// P12.1, P1, L1 to L5: a map with more than 1000000 objects is not valid.
func TestTooManyObjects(t *testing.T) {
	m := mapOf(append(many(0, maxObjects), refs(api.KindWay, "w", "m0000000 m0000001"))...)
	if atlas.Valid(m) || atlas.Digest(m) != "" || atlas.Find(m, "w") != maxObjects || !atlas.Same(m, m) || atlas.Same(m, mapOf(m.Objects[:maxObjects]...)) {
		t.Error("too many objects")
	}
	wantsRefers(t, m, "m0000000", nil)
	wantsPoints(t, m, "w", nil, api.ErrArg)
	if len(atlas.Diff(m, api.Map{})) != 0 || len(atlas.Diff(api.Map{}, m)) != 0 || len(atlas.Diff(m, m)) != 0 {
		t.Error("differences of too many objects")
	}
	got, e := atlas.Put(m, m.Objects[0])
	wantsCount(t, "Put", got, e, 0, api.ErrArg)
	got, e = atlas.Drop(m, "w")
	wantsCount(t, "Drop", got, e, 0, api.ErrArg)
	got, e = atlas.Patch(m, []api.Delta{{Id: "w", Was: true, Old: m.Objects[maxObjects]}})
	wantsCount(t, "Patch", got, e, 0, api.ErrArg)
	m.Objects = append(m.Objects, m.Objects[:1<<20-maxObjects]...)
	if atlas.Valid(m) {
		t.Error("1048577 objects")
	}
}

// P12.1, P1, L4: a patched map has at most 1000000 objects; differences may be more.
func TestPatchLimit(t *testing.T) {
	all := many(0, maxObjects/2*3+1)
	full := mapOf(all[:maxObjects]...)
	l := make([]api.Delta, 0, maxObjects+9)
	for _, o := range all[:maxObjects/2] {
		l = append(l, api.Delta{Id: o.Id, Was: true, Old: o})
	}
	for _, o := range all[maxObjects:] {
		l = append(l, api.Delta{Id: o.Id, Is: true, New: o})
	}
	got, e := atlas.Patch(full, l)
	wantsCount(t, "one too many", got, e, 0, api.ErrLimit)
	got, e = atlas.Patch(full, l[:maxObjects])
	wantsCount(t, "as many", got, e, maxObjects, api.OK)
	if !atlas.Same(got, mapOf(all[maxObjects/2:maxObjects/2*3]...)) {
		t.Error("as many, but others")
	}
	got, e = atlas.Patch(full, l[1:maxObjects])
	wantsCount(t, "one less is dropped", got, e, 0, api.ErrLimit)
	// What the map does not have comes before the number of objects, and what is not valid before both.
	l = append(l, api.Delta{Id: "z", Was: true, Old: node("z", 1, 1)})
	got, e = atlas.Patch(full, l)
	wantsCount(t, "a wrong state", got, e, 0, api.ErrState)
	got, e = atlas.Patch(full, append(l, api.Delta{Id: "zz"}))
	wantsCount(t, "a difference that is not valid", got, e, 0, api.ErrArg)
	l = l[:0]
	for _, o := range all[:maxObjects+1] {
		l = append(l, api.Delta{Id: o.Id, Is: true, New: o})
	}
	got, e = atlas.Patch(api.Map{}, l)
	wantsCount(t, "1000001 new ones", got, e, 0, api.ErrLimit)
	got, e = atlas.Patch(api.Map{}, l[1:])
	wantsCount(t, "1000000 new ones", got, e, maxObjects, api.OK)
	if len(atlas.Diff(full, got)) != 2 || len(atlas.Diff(full, api.Map{})) != maxObjects {
		t.Error("differences of full maps")
	}
}

// P12.1, P12.2, P12.3, P3: random maps, and what becomes of them by changes, as the plain functions have them.
func TestRandom(t *testing.T) {
	r := rand.New(rand.NewSource(121))
	count := map[api.Errno]int{}
	for range 400 {
		a := someMap(r, pick(r, 3, 10, 25))
		b := someChange(r, a)
		wantsAll(t, a, words(allIds), someObject(r, someId(r)), someObject(r, someId(r)))
		for _, id := range ids(b) {
			_, e := atlas.Points(b, id)
			count[e]++
		}
		before := show(a) + show(b)
		l := plainDiff(a, b)
		wantsDiff(t, a, b, l)
		wantsPatch(t, a, l, b, api.OK)
		wantsPatch(t, b, back(l), a, api.OK)
		wantsSame(t, a, b, show(a) == show(b))
		// Differences of other maps.
		c := someChange(r, a)
		want, err := plainPatch(c, l)
		wantsPatch(t, c, l, want, err)
		count[err]++
		wrong := changed(put(t, a, node("n1", 1, 1)), 0, func(o *api.Object) { o.Kind = pick(r, 0, 6) })
		wantsWrong(t, wrong)
		if show(a)+show(b) != before {
			t.Errorf("%s was changed", before)
		}
		if t.Failed() {
			t.FailNow()
		}
	}
	if count[api.OK] < 100 || count[api.ErrState] < 50 || count[api.ErrKind] < 100 || count[api.ErrRefs] < 100 {
		t.Error(count)
	}
}
