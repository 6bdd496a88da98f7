package atlas_test

import (
	"fmt"
	"maps"
	"math/rand"
	"slices"
	"sort"
	"strings"
	"testing"

	"planisphere/api"
	"planisphere/atlas"
	"planisphere/digest"
	"planisphere/object"
)

// The limits of the chapters, as they write them.
const (
	maxAt      = 1048575
	maxRefs    = 2000
	maxTags    = 60
	maxValue   = 200
	maxName    = 24
	maxObjects = 1000000
)

// allIds has Ids in the order of their bytes; most objects of the tests have one of them.
const allIds = "A B1 a a0 aA a_ aa b n1 n2 n3 w w1 z"

func words(s string) []string            { return strings.Fields(s) }
func repeat(s string, n int) string      { return strings.Repeat(s, n) }
func head(s string) string               { return s[:min(len(s), 400)] }
func pick[T any](r *rand.Rand, l ...T) T { return l[r.Intn(len(l))] }

// tags returns the tags of keys and values in turn.
func tags(l ...string) []api.Tag {
	var list []api.Tag
	for i := 0; i < len(l); i += 2 {
		list = append(list, api.Tag{Key: l[i], Value: l[i+1]})
	}
	return list
}

// node returns a node with the tags of keys and values in turn.
func node(id string, x, y int, l ...string) api.Object {
	return api.Object{Id: id, Kind: api.KindNode, At: api.Point{X: x, Y: y}, Tags: tags(l...)}
}

// refs returns an object with references that stand in a text with blanks between them, and the tags of keys and values in turn.
func refs(kind int, id, names string, l ...string) api.Object {
	return api.Object{Id: id, Kind: kind, Refs: words(names), Tags: tags(l...)}
}

func mapOf(l ...api.Object) api.Map { return api.Map{Objects: l} }

// read returns the map of the texts of objects.
func read(t *testing.T, texts ...string) api.Map {
	t.Helper()
	var m api.Map
	for _, text := range texts {
		o, e := object.Parse(text)
		if e != api.OK {
			t.Fatalf("Parse(%q): %d", text, e)
		}
		m.Objects = append(m.Objects, o)
	}
	return m
}

// small returns a map with an object of each kind, and some that lead nowhere.
func small() api.Map {
	return mapOf(
		refs(api.KindArea, "a1", "n1 n2 n3", "class", "park"), node("n1", 1, 2), node("n2", maxAt, 0, "class", "cafe", "name", "Elm"), node("n3", 0, maxAt),
		refs(api.KindRoute, "r1", "w1 w2 w1"), refs(api.KindTurn, "t1", "w1 n2 w2", "if", "always"), refs(api.KindWay, "w1", "n1 n2 n1", "name", "\n"), refs(api.KindWay, "w2", "n2 gone"), refs(api.KindWay, "w3", "w1 w3"),
	)
}

// clone returns a map that shares nothing with another one.
func clone(m api.Map) api.Map {
	m.Objects = slices.Clone(m.Objects)
	for i, o := range m.Objects {
		m.Objects[i].Refs, m.Objects[i].Tags = slices.Clone(o.Refs), slices.Clone(o.Tags)
	}
	return m
}

// with returns a map that has been changed; the first one stays as it is.
func with(m api.Map, change func(l []api.Object) []api.Object) api.Map {
	return api.Map{Objects: change(clone(m).Objects)}
}

// changed returns a map in which one object has been changed; the first one stays as it is.
func changed(m api.Map, i int, change func(o *api.Object)) api.Map {
	return with(m, func(l []api.Object) []api.Object {
		change(&l[i])
		return l
	})
}

// fields returns a text that shows all fields of an object.
func fields(o api.Object) string {
	return fmt.Sprintf("%q of kind %d at %d with %q and %q", o.Id, o.Kind, o.At, o.Refs, o.Tags)
}

// show returns a text that shows all fields of all objects of a map.
func show(m api.Map) string {
	s := ""
	for _, o := range m.Objects {
		s += fields(o) + "\n"
	}
	return s
}

// showDeltas returns a text that shows all fields of differences.
func showDeltas(l []api.Delta) string {
	s := ""
	for _, d := range l {
		s += fmt.Sprintf("%q %v %v: %s; %s\n", d.Id, d.Was, d.Is, fields(d.Old), fields(d.New))
	}
	return s
}

// short cuts what a message shows of a map.
func short(m api.Map) string {
	return fmt.Sprintf("%d objects: %s", len(m.Objects), head(show(api.Map{Objects: m.Objects[:min(len(m.Objects), 20)]})))
}

// ids returns the Ids of the objects of a map.
func ids(m api.Map) []string {
	var l []string
	for _, o := range m.Objects {
		l = append(l, o.Id)
	}
	return l
}

// names returns different names of some bytes, in order.
func names(n, bytes int) []string {
	var l []string
	for i := range n {
		l = append(l, fmt.Sprintf("r%0*d", bytes-1, i))
	}
	return l
}

// manyTags returns tags with one value.
func manyTags(n int, value string) []api.Tag {
	var l []api.Tag
	for i := range n {
		l = append(l, api.Tag{Key: fmt.Sprintf("k%07d", i), Value: value})
	}
	return l
}

func wantsValid(t *testing.T, m api.Map, want bool) {
	t.Helper()
	if got := atlas.Valid(m); got != want {
		t.Errorf("Valid(%s) = %v", short(m), got)
	}
}

func wantsSame(t *testing.T, a, b api.Map, want bool) {
	t.Helper()
	if atlas.Same(a, b) != want || atlas.Same(b, a) != want {
		t.Errorf("Same(%s, %s) = %v, %v, want %v", short(a), short(b), atlas.Same(a, b), atlas.Same(b, a), want)
	}
}

func wantsFind(t *testing.T, m api.Map, id string, want int) {
	t.Helper()
	if got := atlas.Find(m, id); got != want {
		t.Errorf("Find(%s, %q) = %d, want %d", short(m), id, got, want)
	}
}

// wantsMap checks what a call has returned.
func wantsMap(t *testing.T, call string, got api.Map, e api.Errno, want api.Map, err api.Errno) {
	t.Helper()
	if show(got) != show(want) || e != err {
		t.Errorf("%s = %s, %d, want %s, %d", call, short(got), e, short(want), err)
	}
}

func wantsPut(t *testing.T, m api.Map, o api.Object, want api.Map, err api.Errno) {
	t.Helper()
	got, e := atlas.Put(m, o)
	wantsMap(t, fmt.Sprintf("Put(%s, %s)", short(m), head(fields(o))), got, e, want, err)
}

func wantsDrop(t *testing.T, m api.Map, id string, want api.Map, err api.Errno) {
	t.Helper()
	got, e := atlas.Drop(m, id)
	wantsMap(t, fmt.Sprintf("Drop(%s, %q)", short(m), id), got, e, want, err)
}

func wantsPatch(t *testing.T, m api.Map, l []api.Delta, want api.Map, err api.Errno) {
	t.Helper()
	got, e := atlas.Patch(m, l)
	wantsMap(t, fmt.Sprintf("Patch(%s, %s)", short(m), head(showDeltas(l))), got, e, want, err)
}

func wantsRefers(t *testing.T, m api.Map, id string, want []string) {
	t.Helper()
	if got := atlas.Refers(m, id); !slices.Equal(got, want) {
		t.Errorf("Refers(%s, %q) = %q, want %q", short(m), id, got, want)
	}
}

func wantsPoints(t *testing.T, m api.Map, id string, want []api.Point, err api.Errno) {
	t.Helper()
	if got, e := atlas.Points(m, id); !slices.Equal(got, want) || e != err {
		t.Errorf("Points(%s, %q) = %d, %d, want %d, %d", short(m), id, got, e, want, err)
	}
}

func wantsDiff(t *testing.T, a, b api.Map, want []api.Delta) {
	t.Helper()
	if got := atlas.Diff(a, b); showDeltas(got) != showDeltas(want) {
		t.Errorf("Diff(%s, %s) = %s, want %s", short(a), short(b), head(showDeltas(got)), head(showDeltas(want)))
	}
}

func wantsDigest(t *testing.T, m api.Map, want string) {
	t.Helper()
	if got := atlas.Digest(m); got != want {
		t.Errorf("Digest(%s) = %q, want %q", short(m), got, want)
	}
}

// put returns what Put returns where it has no error.
func put(t *testing.T, m api.Map, o api.Object) api.Map {
	t.Helper()
	got, e := atlas.Put(m, o)
	if e != api.OK {
		t.Fatalf("Put(%s, %s): %d", short(m), head(fields(o)), e)
	}
	return got
}

// drop returns what Drop returns where it has no error.
func drop(t *testing.T, m api.Map, id string) api.Map {
	t.Helper()
	got, e := atlas.Drop(m, id)
	if e != api.OK {
		t.Fatalf("Drop(%s, %q): %d", short(m), id, e)
	}
	return got
}

// patch returns what Patch returns where it has no error.
func patch(t *testing.T, m api.Map, l []api.Delta) api.Map {
	t.Helper()
	got, e := atlas.Patch(m, l)
	if e != api.OK {
		t.Fatalf("Patch(%s, %s): %d", short(m), head(showDeltas(l)), e)
	}
	return got
}

// wantsWrong checks what all functions answer for a map that is not valid.
func wantsWrong(t *testing.T, m api.Map) {
	t.Helper()
	if plainValid(m) {
		t.Fatalf("%s is valid", short(m))
	}
	before := show(m)
	wantsValid(t, m, false)
	wantsSame(t, m, clone(m), true)
	wantsDigest(t, m, "")
	wantsPatch(t, m, nil, api.Map{}, api.ErrArg)
	wantsPatch(t, m, []api.Delta{{Id: "x"}}, api.Map{}, api.ErrArg)
	for _, other := range []api.Map{{}, small(), clone(m)} {
		wantsDiff(t, m, other, nil)
		wantsDiff(t, other, m, nil)
	}
	for _, o := range []api.Object{node("a", 1, 1), node("zz", 1, 1), {}} {
		wantsPut(t, m, o, api.Map{}, api.ErrArg)
	}
	for _, id := range append(ids(m)[:min(len(m.Objects), 20)], "n1", "w1", "gone", "", "7", "zz") {
		wantsFind(t, m, id, slices.Index(ids(m), id))
		wantsDrop(t, m, id, api.Map{}, api.ErrArg)
		wantsRefers(t, m, id, nil)
		wantsPoints(t, m, id, nil, api.ErrArg)
	}
	if show(m) != before {
		t.Errorf("%s was changed", before)
	}
}

// wantsAll checks what all functions answer for a valid map and some Ids and objects; the map stays as it is.
func wantsAll(t *testing.T, m api.Map, some []string, objects ...api.Object) {
	t.Helper()
	before := show(m)
	wantsValid(t, m, true)
	wantsSame(t, m, clone(m), true)
	wantsDigest(t, m, plainDigest(m))
	wantsDiff(t, m, m, nil)
	wantsDiff(t, m, clone(m), nil)
	wantsPatch(t, m, nil, m, api.OK)
	for _, id := range slices.Concat(ids(m), some) {
		wantsFind(t, m, id, slices.Index(ids(m), id))
		want, err := plainDrop(m, id)
		wantsDrop(t, m, id, want, err)
		wantsRefers(t, m, id, plainRefers(m, id))
		points, err := plainPoints(m, id)
		wantsPoints(t, m, id, points, err)
	}
	for _, o := range slices.Concat(m.Objects, objects) {
		want, err := plainPut(m, o)
		wantsPut(t, m, o, want, err)
	}
	if show(m) != before {
		t.Errorf("%s was changed", before)
	}
}

// plainValid returns what Valid should return.
func plainValid(m api.Map) bool {
	for _, o := range m.Objects {
		if !object.Valid(o) {
			return false
		}
	}
	return len(m.Objects) <= maxObjects && len(plainMap(m)) == len(m.Objects) && sort.StringsAreSorted(ids(m))
}

// plainMap returns the objects of a map by their Ids.
func plainMap(m api.Map) map[string]api.Object {
	byId := map[string]api.Object{}
	for _, o := range m.Objects {
		byId[o.Id] = o
	}
	return byId
}

// plainObjects returns the map of objects by their Ids.
func plainObjects(byId map[string]api.Object) api.Map {
	var m api.Map
	for _, o := range byId {
		m.Objects = append(m.Objects, o)
	}
	sort.Slice(m.Objects, func(i, j int) bool { return m.Objects[i].Id < m.Objects[j].Id })
	return m
}

// plainPut returns what Put should return, but for the number of objects.
func plainPut(m api.Map, o api.Object) (api.Map, api.Errno) {
	if !plainValid(m) || !object.Valid(o) {
		return api.Map{}, api.ErrArg
	}
	byId := plainMap(m)
	byId[o.Id] = o
	return plainObjects(byId), api.OK
}

// plainDrop returns what Drop should return.
func plainDrop(m api.Map, id string) (api.Map, api.Errno) {
	if !plainValid(m) {
		return api.Map{}, api.ErrArg
	}
	byId := plainMap(m)
	delete(byId, id)
	if len(byId) == len(m.Objects) {
		return api.Map{}, api.ErrNone
	}
	return plainObjects(byId), api.OK
}

// plainRefers returns what Refers should return for a valid map.
func plainRefers(m api.Map, id string) []string {
	set := map[string]bool{}
	for _, o := range m.Objects {
		for _, ref := range o.Refs {
			if ref == id {
				set[o.Id] = true
			}
		}
	}
	return slices.Sorted(maps.Keys(set))
}

// plainPoints returns what Points should return for a valid map.
func plainPoints(m api.Map, id string) ([]api.Point, api.Errno) {
	byId := plainMap(m)
	o, there := byId[id]
	if !there {
		return nil, api.ErrNone
	}
	nodes := o.Refs
	switch o.Kind {
	case 1:
		nodes = []string{id}
	case 4, 5:
		return nil, api.ErrKind
	}
	var points []api.Point
	for _, n := range nodes {
		if byId[n].Kind != 1 {
			return nil, api.ErrRefs
		}
		points = append(points, byId[n].At)
	}
	return points, api.OK
}

// plainDiff returns what Diff should return.
func plainDiff(a, b api.Map) []api.Delta {
	if !plainValid(a) || !plainValid(b) {
		return nil
	}
	was, is := plainMap(a), plainMap(b)
	all := maps.Clone(was)
	maps.Copy(all, is)
	var l []api.Delta
	for _, id := range slices.Sorted(maps.Keys(all)) {
		d := api.Delta{Id: id}
		d.Old, d.Was = was[id]
		d.New, d.Is = is[id]
		if fields(d.Old) != fields(d.New) {
			l = append(l, d)
		}
	}
	return l
}

// plainDelta reports whether a difference is valid.
func plainDelta(d api.Delta) bool {
	zero := fields(api.Object{})
	was := d.Was && object.Valid(d.Old) && d.Old.Id == d.Id || !d.Was && fields(d.Old) == zero
	is := d.Is && object.Valid(d.New) && d.New.Id == d.Id || !d.Is && fields(d.New) == zero
	return was && is && (d.Was || d.Is) && fields(d.Old) != fields(d.New)
}

// plainPatch returns what Patch should return, but for the number of objects.
func plainPatch(m api.Map, l []api.Delta) (api.Map, api.Errno) {
	if !plainValid(m) {
		return api.Map{}, api.ErrArg
	}
	for i, d := range l {
		if !plainDelta(d) || i > 0 && l[i-1].Id >= d.Id {
			return api.Map{}, api.ErrArg
		}
	}
	byId := plainMap(m)
	for _, d := range l {
		if old, there := byId[d.Id]; there != d.Was || fields(old) != fields(d.Old) {
			return api.Map{}, api.ErrState
		}
		if delete(byId, d.Id); d.Is {
			byId[d.Id] = d.New
		}
	}
	return plainObjects(byId), api.OK
}

// plainDigest returns the digest of a valid map.
func plainDigest(m api.Map) string { return digest.List(plainDigests(m)) }

// plainDigests returns the list whose digest a valid map has.
func plainDigests(m api.Map) []string {
	var l []string
	for _, o := range m.Objects {
		l = append(l, object.Digest(o))
	}
	return l
}

// back returns differences with their sides exchanged.
func back(l []api.Delta) []api.Delta {
	l = slices.Clone(l)
	for i, d := range l {
		l[i] = api.Delta{Id: d.Id, Was: d.Is, Is: d.Was, Old: d.New, New: d.Old}
	}
	return l
}

// orders calls a function for all orders of a list.
func orders[T any](l []T, f func(l []T)) {
	if len(l) == 0 {
		f(nil)
	}
	for i := range l {
		orders(slices.Concat(l[:i], l[i+1:]), func(rest []T) { f(append([]T{l[i]}, rest...)) })
	}
}

// allMaps calls a function for all maps of some Ids, each of which has one of some objects, or none.
func allMaps(some []string, versions []func(id string) api.Object, f func(m api.Map)) {
	var more func(l []api.Object, some []string)
	more = func(l []api.Object, some []string) {
		if len(some) == 0 {
			f(clone(mapOf(l...)))
			return
		}
		more(l, some[1:])
		for _, version := range versions {
			more(append(slices.Clone(l), version(some[0])), some[1:])
		}
	}
	more(nil, some)
}

// versions returns functions that make objects that differ in one thing, each of another object before.
func versions() []func(id string) api.Object {
	return []func(id string) api.Object{
		func(id string) api.Object { return node(id, 1, 2) },
		func(id string) api.Object { return node(id, 1, 2, "a", "1") },
		func(id string) api.Object { return node(id, 1, 3, "a", "1") },
		func(id string) api.Object { return refs(api.KindArea, id, "a b c", "a", "1") },
		func(id string) api.Object { return refs(api.KindWay, id, "a b c", "a", "1") },
		func(id string) api.Object { return refs(api.KindWay, id, "a b a", "a", "1") },
	}
}

// someId returns an Id, often one that other objects have, too.
func someId(r *rand.Rand) string {
	return pick(r, append(words(allIds), names(1+r.Intn(9), 4)...)...)
}

// someObject returns a valid object with an Id.
func someObject(r *rand.Rand, id string) api.Object {
	o := api.Object{Id: id, Kind: pick(r, 1, 1, 1, 1, 2, 2, 3, 4, 5)}
	if r.Intn(3) == 0 {
		o.Tags = tags(pick(r, "class", "name"), pick(r, "cafe", "Elm"))
	}
	if o.Kind == 1 {
		o.At = api.Point{X: r.Intn(4), Y: pick(r, 0, maxAt)}
		return o
	}
	for n := 3 + r.Intn(3); !object.Valid(o); {
		if len(o.Refs) > n {
			o.Refs = nil
		}
		o.Refs = append(o.Refs, someId(r))
	}
	return o
}

// someMap returns a valid map of at most some objects.
func someMap(r *rand.Rand, most int) api.Map {
	byId := map[string]api.Object{}
	for range r.Intn(most + 1) {
		id := someId(r)
		byId[id] = someObject(r, id)
	}
	return plainObjects(byId)
}

// someChange returns a valid map that differs from another one in some objects, or not at all.
func someChange(r *rand.Rand, m api.Map) api.Map {
	byId := plainMap(m)
	for range r.Intn(6) {
		id := someId(r)
		if byId[id] = someObject(r, id); r.Intn(3) == 0 {
			delete(byId, id)
		}
	}
	return clone(plainObjects(byId))
}
