package atlas_test

import (
	"slices"
	"strconv"
	"strings"
	"testing"

	"planisphere/api"
)

// knownMaps are two maps, as texts of their objects, with values that come from another program: the digests of both; what differs, with a sign before each Id; and for the first map who refers to each Id, and the points, or the error, of each object.
type knownMaps struct {
	a, b           string
	first, second  []string
	diff           string
	refers, points map[string]string
}

func known() []knownMaps {
	return []knownMaps{
		{
			a: "6031a84606eccf8b", b: "0199d01d2225c260",
			first:  []string{},
			second: []string{`area b (a0 a_ B1 n3)`},
			diff:   "+b",
			refers: map[string]string{},
			points: map[string]string{},
		},
		{
			a: "1e065a317866bc2d", b: "88c50b323aaf118c",
			first:  []string{`way n3 (n2 B1 a) class="Elm" name="cafe"`},
			second: []string{`node n1 706739 183187 Z="Elm"`, `way n3 (n2 B1 a) class="Elm" name="cafe"`},
			diff:   "+n1",
			refers: map[string]string{"B1": "n3", "a": "n3", "n2": "n3"},
			points: map[string]string{"n3": "ErrRefs"},
		},
		{
			a: "e255b8c518045ab7", b: "8f8c3a799cfc0331",
			first:  []string{`node B1 7 655445`, `node aa 0 359061`, `way b (a0 n2 B1 a)`},
			second: []string{`node B1 7 655445`, `node a0 1048575 761535`, `node aa 0 359061`, `way b (a0 n2 B1 a)`, `route w1 (aA B1 aA) name="cafe" open="x y"`},
			diff:   "+a0 +w1",
			refers: map[string]string{"B1": "b", "a": "b", "a0": "b", "n2": "b"},
			points: map[string]string{"B1": "7,655445", "aa": "0,359061", "b": "ErrRefs"},
		},
		{
			a: "7adf8316b137b934", b: "1195e6fa17e99ebe",
			first:  []string{`way A (n3 aa n2 B1)`, `node a0 7 1001156`, `node aa 109175 772392 Z="x y" level="Elm"`, `way n1 (a_ B1 a0)`, `area w (B1 a0 n1)`, `area w1 (n3 n1 a a_) open="2"`, `way z (n1 n2) class="2" level="x y"`},
			second: []string{`way A (n3 aa n2 B1)`, `node a0 7 1001156`, `node aa 109175 772392 Z="x y" level="Elm"`, `turn b (n1 a_ a_)`, `node n1 557488 290200 class="2" level="cafe"`, `node n3 0 848780`, `area w (B1 a0 n1)`, `area w1 (n3 n1 a a_) open="2"`, `way z (a0 B1)`},
			diff:   "+b ~n1 +n3 ~z",
			refers: map[string]string{"B1": "A n1 w", "a": "w1", "a0": "n1 w", "a_": "n1 w1", "aa": "A", "n1": "w w1 z", "n2": "A z", "n3": "A w1"},
			points: map[string]string{"A": "ErrRefs", "a0": "7,1001156", "aa": "109175,772392", "n1": "ErrRefs", "w": "ErrRefs", "w1": "ErrRefs", "z": "ErrRefs"},
		},
		{
			a: "aa1afe3b0ab819d5", b: "20934e804a9596b4",
			first:  []string{`way A (a_ n1 aa) level="2" name="cafe"`, `node a 1048575 297394`, `node a0 7 285028`, `area aA (aa a_ B1)`, `node aa 0 740649 Z="cafe" level="Elm"`, `area b (n1 n2 a_)`, `way n1 (n2 w1 a aa) Z="2"`, `node n2 7 150433`, `node n3 7 697334 level="x y" name="x y"`, `way w (n3 a)`},
			second: []string{`way A (a_ n1 aa) level="2" name="cafe"`, `node a 1048575 297394`, `node a0 7 285028`, `turn aA (n3 aA a_)`, `node a_ 1048575 310786 Z="x y"`, `area b (n1 n2 a_)`, `way n1 (n2 w1 a aa) Z="2"`, `way w (n3 a)`},
			diff:   "~aA +a_ -aa -n2 -n3",
			refers: map[string]string{"B1": "aA", "a": "n1 w", "a_": "A aA b", "aa": "A aA n1", "n1": "A b", "n2": "b n1", "n3": "w", "w1": "n1"},
			points: map[string]string{"A": "ErrRefs", "a": "1048575,297394", "a0": "7,285028", "aA": "ErrRefs", "aa": "0,740649", "b": "ErrRefs", "n1": "ErrRefs", "n2": "7,150433", "n3": "7,697334", "w": "7,697334 1048575,297394"},
		},
		{
			a: "b00d8910ab9120c6", b: "d0e40f5956dd1707",
			first:  []string{`way A (n3 a n2 n1)`, `node B1 1048575 216075`, `node a 1048575 398569`, `node a0 419955 205799`, `way aA (a n3 a0) class="2" level="cafe"`, `way a_ (n3 a_)`, `node aa 1048575 123163`, `area b (n1 B1 a) class="cafe"`, `node n2 895135 786383`, `route w (n1 z a_)`, `area w1 (a_ n1 B1 aa) name="Elm"`, `area z (B1 aa n3 a0)`},
			second: []string{`node B1 1048575 216075`, `node a 713238 666321 level="Elm" open="2"`, `node a0 579306 704030 level="cafe" open="Elm"`, `area aA (n2 B1 n3 aa)`, `way a_ (n3 a_)`, `node aa 1048575 123163`, `area b (n1 B1 a) class="cafe"`, `node n3 1048575 808132 Z="x y"`, `route w (n1 z a_)`, `area w1 (a_ n1 B1 aa) name="Elm"`, `area z (B1 aa n3 a0)`},
			diff:   "-A ~a ~a0 ~aA -n2 +n3",
			refers: map[string]string{"B1": "b w1 z", "a": "A aA b", "a0": "aA z", "a_": "a_ w w1", "aa": "w1 z", "n1": "A b w w1", "n2": "A", "n3": "A aA a_ z", "z": "w"},
			points: map[string]string{"A": "ErrRefs", "B1": "1048575,216075", "a": "1048575,398569", "a0": "419955,205799", "aA": "ErrRefs", "a_": "ErrRefs", "aa": "1048575,123163", "b": "ErrRefs", "n2": "895135,786383", "w": "ErrKind", "w1": "ErrRefs", "z": "ErrRefs"},
		},
		{
			a: "878d7e1e7b428b29", b: "878d7e1e7b428b29",
			first:  []string{`node B1 7 796787`, `node a 7 263932`, `node a0 1048575 255875`, `area aA (a_ a0 B1)`, `node a_ 383871 650352`, `node aa 0 651897 name="cafe" open="Elm"`, `route b (b)`, `node n1 1048575 375965 class="cafe" name="x y"`, `node n2 0 212159`, `node n3 1048575 286682 level="x y" open="Elm"`, `way w (a_ n3 n2) Z="cafe" level="2"`, `way w1 (a_ a0) Z="2" level="cafe"`, `route z (b b) Z="x y" name="2"`},
			second: []string{`node B1 7 796787`, `node a 7 263932`, `node a0 1048575 255875`, `area aA (a_ a0 B1)`, `node a_ 383871 650352`, `node aa 0 651897 name="cafe" open="Elm"`, `route b (b)`, `node n1 1048575 375965 class="cafe" name="x y"`, `node n2 0 212159`, `node n3 1048575 286682 level="x y" open="Elm"`, `way w (a_ n3 n2) Z="cafe" level="2"`, `way w1 (a_ a0) Z="2" level="cafe"`, `route z (b b) Z="x y" name="2"`},
			diff:   "",
			refers: map[string]string{"B1": "aA", "a0": "aA w1", "a_": "aA w w1", "b": "b z", "n2": "w", "n3": "w"},
			points: map[string]string{"B1": "7,796787", "a": "7,263932", "a0": "1048575,255875", "aA": "383871,650352 1048575,255875 7,796787", "a_": "383871,650352", "aa": "0,651897", "b": "ErrKind", "n1": "1048575,375965", "n2": "0,212159", "n3": "1048575,286682", "w": "383871,650352 1048575,286682 0,212159", "w1": "383871,650352 1048575,255875", "z": "ErrKind"},
		},
		{
			a: "476d3bdadf54fb97", b: "12feac977487b3b1",
			first:  []string{`turn A (n1 a a)`, `node B1 960660 684043`, `way a (aa a)`, `node a0 367871 714008`, `route aA (a)`, `node a_ 468429 40904`, `way aa (a0 n3 a0) class="cafe"`, `area b (a_ n2 a aa) level="x y"`, `node n1 1048575 906803`, `node n2 0 626393`, `way n3 (a_ n3 n1)`, `area w (a_ n1 n3)`, `turn w1 (a_ a_ aA) level="2" open="2"`, `turn z (a_ a z) Z="cafe" name="cafe"`},
			second: []string{`turn A (n1 a a)`, `node B1 960660 684043`, `node a 7 1039150`, `node a0 7 90879 Z="cafe" name="x y"`, `route aA (a)`, `node aa 7 862612 Z="2" class="x y"`, `turn b (n2 n3 A)`, `node n1 1048575 906803`, `node n2 1048575 524602 Z="2"`, `way n3 (a_ n3 n1)`, `way w (w a_ a) Z="Elm"`, `turn w1 (a_ a_ aA) level="2" open="2"`, `turn z (a_ a z) Z="cafe" name="cafe"`},
			diff:   "~a ~a0 -a_ ~aa ~b ~n2 ~w",
			refers: map[string]string{"a": "A a aA b z", "a0": "aa", "aA": "w1", "a_": "b n3 w w1 z", "aa": "a b", "n1": "A n3 w", "n2": "b", "n3": "aa n3 w", "z": "z"},
			points: map[string]string{"A": "ErrKind", "B1": "960660,684043", "a": "ErrRefs", "a0": "367871,714008", "aA": "ErrKind", "a_": "468429,40904", "aa": "ErrRefs", "b": "ErrRefs", "n1": "1048575,906803", "n2": "0,626393", "n3": "ErrRefs", "w": "ErrRefs", "w1": "ErrKind", "z": "ErrKind"},
		},
	}
}

// deltas returns the differences of two maps that stand in a text, with a sign before each Id.
func deltas(text string, a, b api.Map) []api.Delta {
	var l []api.Delta
	for _, word := range words(text) {
		d := api.Delta{Id: word[1:], Was: word[0] != '+', Is: word[0] != '-'}
		if d.Was {
			d.Old = a.Objects[slices.Index(ids(a), d.Id)]
		}
		if d.Is {
			d.New = b.Objects[slices.Index(ids(b), d.Id)]
		}
		l = append(l, d)
	}
	return l
}

// points returns the points, or the error, that stand in a text; an empty one stands for an object that is not there.
func points(text string) ([]api.Point, api.Errno) {
	switch text {
	case "":
		return nil, api.ErrNone
	case "ErrKind":
		return nil, api.ErrKind
	case "ErrRefs":
		return nil, api.ErrRefs
	}
	var l []api.Point
	for _, word := range words(text) {
		x, y, _ := strings.Cut(word, ",")
		var p api.Point
		p.X, _ = strconv.Atoi(x)
		p.Y, _ = strconv.Atoi(y)
		l = append(l, p)
	}
	return l, api.OK
}

// P12.1, L1 to L5: values that come from another program.
func TestKnown(t *testing.T) {
	for _, k := range known() {
		a, b := read(t, k.first...), read(t, k.second...)
		wantsDigest(t, a, k.a)
		wantsDigest(t, b, k.b)
		wantsDiff(t, a, b, deltas(k.diff, a, b))
		wantsPatch(t, a, deltas(k.diff, a, b), b, api.OK)
		for _, id := range words(allIds) {
			wantsFind(t, a, id, slices.Index(ids(a), id))
			wantsRefers(t, a, id, words(k.refers[id]))
			want, err := points(k.points[id])
			wantsPoints(t, a, id, want, err)
		}
		wantsAll(t, a, words(allIds), b.Objects...)
		wantsAll(t, b, words(allIds), a.Objects...)
	}
}
