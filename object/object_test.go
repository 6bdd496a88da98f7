package object_test

import (
	"fmt"
	"math"
	"math/rand"
	"slices"
	"strconv"
	"strings"
	"testing"

	"planisphere/api"
	"planisphere/digest"
	"planisphere/object"
)

// P11.1: the chapter's examples.
func TestExamples(t *testing.T) {
	wantsParse(t, `node n1 3 4 name="Elm"`, node("n1", 3, 4, "name", "Elm"), api.OK)
	wantsParse(t, "area a1 (n1 n2 n3)", refs(api.KindArea, "a1", "n1 n2 n3"), api.OK)
	wantsParse(t, "way w1 (n1 n1)", api.Object{}, api.ErrSyntax)
	wantsParse(t, "node n1 03 4", api.Object{}, api.ErrSyntax)
}

// known has objects with texts and digests that come from another program.
func known() []knownObject {
	return []knownObject{
		{node("n1", 3, 4, "name", "Elm"), "node n1 3 4 name=\"Elm\"", "f84531839badd465"},
		{refs(api.KindArea, "a1", "n1 n2 n3"), "area a1 (n1 n2 n3)", "7d9eb57b1272b859"},
		{node("n1", 0, 0), "node n1 0 0", "98a21ea4f257897d"},
		{node("n1", 1048575, 1048575), "node n1 1048575 1048575", "eb251fb7e62354ae"},
		{node("N_1", 10, 0), "node N_1 10 0", "22c813241051bc6e"},
		{node("z", 7, 1048575, "a", "\"\n", "b", " "), "node z 7 1048575 a=\"\\\"\\n\" b=\" \"", "7e16cfa856d8277e"},
		{node("x", 524288, 65536, "A", "\\", "a_", "\\n", "aa", "a=\"1\" b=\"2\""), "node x 524288 65536 A=\"\\\\\" a_=\"\\\\n\" aa=\"a=\\\"1\\\" b=\\\"2\\\"\"", "4f1d0707b3b8ccd2"},
		{node("node", 1, 2, "node", "node n1 3 4"), "node node 1 2 node=\"node n1 3 4\"", "fb40a563d81f4dcc"},
		{node("abcdefghijklmnopqrstuvwx", 100000, 999999, "note", "\x00\x01\x0d\t\x7f\x80\xff"), "node abcdefghijklmnopqrstuvwx 100000 999999 note=\"\x00\x01\x0d\t\x7f\x80\xff\"", "a5de730d53c38408"},
		{refs(api.KindWay, "w1", "n1 n2"), "way w1 (n1 n2)", "1489cbf15654fbdd"},
		{refs(api.KindWay, "w1", "n1 n2 n1"), "way w1 (n1 n2 n1)", "c1e235ef58712888"},
		{refs(api.KindWay, "w1", "n1 n2 n1 n2 n1"), "way w1 (n1 n2 n1 n2 n1)", "c76ef2eaec30a488"},
		{refs(api.KindWay, "way", "way w1 way"), "way way (way w1 way)", "1acb8f3b5d12c2a0"},
		{refs(api.KindWay, "w1", "w1 W1 w_1 w1", "class", "street", "name", "Stra\xc3\x9fe (\"alt\")", "oneway", "yes"), "way w1 (w1 W1 w_1 w1) class=\"street\" name=\"Stra\xc3\x9fe (\\\"alt\\\")\" oneway=\"yes\"", "02c4726e701e2362"},
		{refs(api.KindWay, "w", "a b", "c", "d"), "way w (a b) c=\"d\"", "c1eb80c18f25b29a"},
		{refs(api.KindWay, "w", "a b c", "d", "e"), "way w (a b c) d=\"e\"", "34cfae23aee84679"},
		{refs(api.KindWay, "w", "a b c d"), "way w (a b c d)", "42ef9727b81d9754"},
		{refs(api.KindArea, "area", "a b c d", "name", "\xd0\xa3\xd0\xbb"), "area area (a b c d) name=\"\xd0\xa3\xd0\xbb\"", "c20b2180ea3a3290"},
		{refs(api.KindArea, "a", "A a aA Aa AA aa a_ a0", "level", "-1"), "area a (A a aA Aa AA aa a_ a0) level=\"-1\"", "8ce9ba4ac0de3044"},
		{refs(api.KindArea, "a", "c b a"), "area a (c b a)", "4398eb5da6fea714"},
		{refs(api.KindRoute, "r", "r"), "route r (r)", "dca6ed1b6e7b0459"},
		{refs(api.KindRoute, "r1", "w1 w1"), "route r1 (w1 w1)", "0aecadade7e1f969"},
		{refs(api.KindRoute, "r1", "w1 w2 w1 w1", "name", "\xc3\xa9)"), "route r1 (w1 w2 w1 w1) name=\"\xc3\xa9)\"", "7c9e3864d46b4f0d"},
		{refs(api.KindRoute, "route", "area turn way node route"), "route route (area turn way node route)", "66b29d0971b424b8"},
		{refs(api.KindTurn, "t1", "w1 n1 w2"), "turn t1 (w1 n1 w2)", "8dd5920c023f0b52"},
		{refs(api.KindTurn, "t", "t t t"), "turn t (t t t)", "0a1b17ad59d53a18"},
		{refs(api.KindTurn, "turn", "w n w", "if", "mo-fr 7:00-9:00, sa 10:00-12:00", "zz", "()"), "turn turn (w n w) if=\"mo-fr 7:00-9:00, sa 10:00-12:00\" zz=\"()\"", "2de89193a33010cc"},
	}
}

type knownObject struct {
	o            api.Object
	text, digest string
}

// P11.1, K1, K2, K3: texts and digests that come from another program.
func TestKnown(t *testing.T) {
	for _, x := range known() {
		wantsValid(t, x.o, true)
		wantsText(t, x.o, x.text, api.OK)
		wantsParse(t, x.text, x.o, api.OK)
		wantsDigest(t, x.o, x.digest)
	}
	var many []string
	for i := range maxRefs {
		many = append(many, "r"+strconv.Itoa(i))
	}
	wantsDigest(t, api.Object{Id: "big", Kind: api.KindArea, Refs: many}, "360af65f19b0b2da")
	// An object whose text is too long has a digest.
	long := api.Object{Id: "big", Kind: api.KindWay}
	for i := range maxRefs {
		long.Refs = append(long.Refs, "r_3456789012345678901"+[]string{"000", "001"}[i%2])
	}
	for i := range maxTags {
		long.Tags = append(long.Tags, api.Tag{Key: fmt.Sprintf("k%02d", i), Value: repeat("\n", maxValue)})
	}
	wantsDigest(t, long, "af1f004de305f4bb")
	wantsText(t, long, "", api.ErrLimit)
}

// P11.1, P11.4, K1, P1: kinds are the numbers from 1 to 5, whatever references an object has.
func TestKinds(t *testing.T) {
	for _, more := range []int{0, -6, -256, 250, 1 << 8, 1 << 16, 1 << 31, 1 << 32, 1 << 62, math.MinInt, math.MaxInt - 10} {
		for i := range 11 {
			kind := more + i
			for n := range 5 {
				o := api.Object{Id: "x", Kind: kind, Refs: names(n, 2)}
				wantsValid(t, o, kind == 1 && n == 0 || (kind == 2 && n > 1) || (kind == 3 && n > 2) || (kind == 4 && n > 0) || (kind == 5 && n == 3))
				wantsPlain(t, o)
			}
		}
	}
}

// P11.1, P11.4, K1: how many references an object of each kind has.
func TestRefCounts(t *testing.T) {
	all := names(maxRefs+80, 5)
	for n := range len(all) {
		for kind, want := range map[int]bool{1: n == 0, 2: 2 <= n && n <= maxRefs, 3: 3 <= n && n <= maxRefs, 4: 1 <= n && n <= maxRefs, 5: n == 3} {
			wantsValid(t, api.Object{Id: "x", Kind: kind, Refs: all[:n]}, want)
		}
	}
	for _, n := range []int{256, 257, 258, 259, 1 << 16, 1<<16 + 1, 1<<16 + 2, 1<<16 + 3, 1<<16 + 1999} {
		for kind := 1; kind <= 5; kind++ {
			wantsValid(t, api.Object{Id: "x", Kind: kind, Refs: names(n, 9)}, n < maxRefs && (2 <= kind && kind <= 4))
		}
	}
	for _, o := range one() {
		for n := range 8 {
			o.Refs = names(n, 2)
			wantsPlain(t, o)
		}
	}
}

// P11.1, P11.4, K1: coordinates are those of the grid for nodes, and 0 for all other objects.
func TestCoordinates(t *testing.T) {
	var all []int
	for bit := range 63 {
		all = append(all, 1<<bit-2, 1<<bit-1, 1<<bit, 1<<bit+1, -1<<bit-1, -1<<bit, -1<<bit+1, 1<<bit+5, -1<<bit+5, math.MinInt+1<<bit)
	}
	all = append(all, math.MinInt, math.MinInt+5, math.MaxInt, math.MaxInt-5)
	for _, n := range all {
		on := 0 <= n && n <= maxAt
		for _, other := range []int{0, 5, maxAt} {
			wantsValid(t, node("n", n, other), on)
			wantsValid(t, node("n", other, n), on)
			wantsPlain(t, node("n", n, other))
			wantsPlain(t, node("n", other, n))
		}
		for _, other := range []int{-1, maxAt + 1, n} {
			wantsPlain(t, node("n", n, other))
			wantsPlain(t, node("n", other, n))
		}
		for _, o := range one()[1:] {
			for _, at := range []api.Point{{X: n}, {Y: n}, {X: n, Y: -n}, {X: n, Y: n}} {
				o.At = at
				wantsValid(t, o, n == 0)
				wantsPlain(t, o)
			}
		}
	}
}

// wrongNames has texts that are no names.
var wrongNames = []string{"", "7", "7a", "_", "_a", "-", "a-b", "a b", " a", "a ", "a\n", "\ta", "\x00", "a\x00", "\xc3\xa9", "a\xc3\xa9", "a=", `"a"`, "a#", "(a", "a)", "()", "a,b", repeat("a", maxName+1), repeat("a", 280)}

// P11.1, P11.4, K1: Ids are names.
func TestIds(t *testing.T) {
	for _, o := range one() {
		for n := 1; n <= maxName; n++ {
			o.Id = repeat("x", n)
			wantsAll(t, o)
		}
		for b := range 256 {
			for _, id := range []string{string([]byte{byte(b)}), "x" + string([]byte{byte(b)}), "x" + string([]byte{byte(b)}) + "x"} {
				o.Id = id
				wantsPlain(t, o)
			}
		}
		for _, id := range wrongNames {
			o.Id = id
			wantsWrong(t, o)
		}
	}
}

// P11.1, P11.4, K1: references are names, at each place.
func TestRefNames(t *testing.T) {
	for kind := 2; kind <= 5; kind++ {
		n := 3
		for n <= maxRefs {
			for i := 0; i < n; i += 1 + n/100 {
				for _, place := range []int{i, n - 1 - i} {
					o := api.Object{Id: "x", Kind: kind, Refs: names(n, 5)}
					wantsValid(t, o, true)
					o.Refs[place] = repeat("y", maxName)
					wantsValid(t, o, true)
					for _, name := range wrongNames {
						o.Refs[place] = name
						wantsValid(t, o, false)
					}
					wantsWrong(t, o)
				}
			}
			if n *= 7; kind == api.KindTurn {
				break
			}
		}
		for b := range 256 {
			o := api.Object{Id: "x", Kind: kind, Refs: []string{"a", "b", "c"}}
			o.Refs[b%3] = string([]byte{byte(b)})
			wantsPlain(t, o)
			o.Refs[b%3] = "r" + string([]byte{byte(b)})
			wantsPlain(t, o)
		}
	}
	for _, name := range append(wrongNames, "a", "b") {
		wantsWrong(t, with(node("n", 1, 2), func(o *api.Object) { o.Refs = []string{name} }))
	}
}

// P11.1, K1: neighbouring references of a way are different, those of an area all are; those of routes and turns are any.
func TestEqualRefs(t *testing.T) {
	for _, n := range []int{3, 4, 5, 20, maxRefs} {
		for i := range n {
			for _, j := range []int{i + 1, i + 2, i + n/2, n - 1} {
				if i >= j || j >= n || n == maxRefs && i > 20 && i < n-20 && i%100 != 0 {
					continue
				}
				l := names(n, 5)
				l[i] = l[j]
				wantsValid(t, api.Object{Id: "x", Kind: api.KindWay, Refs: l}, j > i+1)
				wantsValid(t, api.Object{Id: "x", Kind: api.KindArea, Refs: l}, false)
				wantsValid(t, api.Object{Id: "x", Kind: api.KindRoute, Refs: l}, true)
				wantsValid(t, api.Object{Id: "x", Kind: api.KindTurn, Refs: l}, n == 3)
			}
		}
	}
	// All lists of up to five of three names, one of which is the Id.
	allTexts([]string{"x", "y", "z"}, 5, func(s string) {
		for kind := 1; kind <= 5; kind++ {
			wantsPlain(t, api.Object{Id: "x", Kind: kind, Refs: strings.Split(s, "")[:len(s)]})
		}
	})
	// Names that differ in their case, or in their end, are different.
	for kind := 2; kind <= 5; kind++ {
		wantsAll(t, refs(kind, "x", "a A aA"))
		wantsAll(t, refs(kind, "x", "a aa aaa"))
	}
}

// P11.1, K1: tags are valid ones, for each kind.
func TestTags(t *testing.T) {
	for _, o := range one() {
		for _, l := range [][]api.Tag{
			nil, {}, tags("a", "1"), tags("a", " "), tags("A", "1", "a", "1"), tags("a", "1", "a0", "2", "aA", "3", "a_", "4", "aa", "5"), tags(repeat("k", maxName), repeat("v", maxValue)), manyTags(maxTags, "v"), manyTags(maxTags-1, "\xff"),
		} {
			o.Tags = l
			wantsAll(t, o)
		}
		for _, l := range [][]api.Tag{
			{{}}, tags("a", ""), tags("a", "1", "b", ""), tags("a", "", "b", "1"), tags("", "1"), tags("7", "1"), tags("a-b", "1"), tags("a ", "1"), tags(repeat("k", maxName+1), "1"), tags("a", repeat("v", maxValue+1)),
			tags("b", "1", "a", "1"), tags("a", "1", "a", "1"), tags("a", "1", "a", "2"), tags("a", "1", "B", "1"), tags("a", "1", "c", "1", "b", "1"), manyTags(maxTags+1, "v"), manyTags(1<<16, "v"), append(manyTags(maxTags-1, "v"), api.Tag{Key: "a", Value: "1"}),
		} {
			o.Tags = l
			wantsWrong(t, o)
		}
	}
}

// P11.1, K1, K2, K3, P1: objects that have several things that should not be.
func TestSeveralErrors(t *testing.T) {
	wantsWrong(t, api.Object{})
	wantsWrong(t, api.Object{Id: "7", Kind: 9, At: api.Point{X: -1}, Refs: []string{""}, Tags: tags("", "")})
	wantsWrong(t, api.Object{Id: "x", Kind: -1, Refs: names(maxRefs+1, 20), Tags: manyTags(maxTags, repeat("v", maxValue))})
	// That an object is not valid comes before the length of its text.
	long := api.Object{Id: "x", Kind: api.KindWay, Refs: names(maxRefs, 20)}
	wantsText(t, long, "", api.ErrLimit)
	for _, change := range []func(*api.Object){
		func(o *api.Object) { o.Id = "" }, func(o *api.Object) { o.Kind = api.KindNode }, func(o *api.Object) { o.Kind = api.KindTurn }, func(o *api.Object) { o.Kind = 0 }, func(o *api.Object) { o.At.Y = 1 },
		func(o *api.Object) { o.Refs[maxRefs-1] = "" }, func(o *api.Object) { o.Refs[maxRefs-1] = o.Refs[maxRefs-2] }, func(o *api.Object) { o.Tags = tags("a", "") }, func(o *api.Object) { o.Refs = append(o.Refs, "a") },
	} {
		wantsWrong(t, with(long, change))
	}
	tagged := node("n", 1, 1)
	tagged.Tags = manyTags(maxTags, repeat(`"`, maxValue))
	wantsText(t, tagged, "", api.ErrLimit)
	wantsWrong(t, with(tagged, func(o *api.Object) { o.At.X = -1 }))
	wantsWrong(t, with(tagged, func(o *api.Object) { o.Tags[maxTags-1].Value = "" }))
}

// P11.1, P1, K2: a text has at most 20000 bytes, whatever takes the place.
func TestTextLimit(t *testing.T) {
	for n := maxBytes - 3; n <= maxBytes+3; n++ {
		// Each quote in a value, and each byte more in a reference, is one byte more in the text.
		long := func(o api.Object, quotes bool) api.Object {
			rest := n - len(plainText(o))
			if quotes {
				o.Tags = quoted(len(o.Tags), rest-min(rest, len(o.Refs)))
				rest = min(rest, len(o.Refs))
			}
			for i := range rest {
				o.Refs[i] += "x"
			}
			return o
		}
		byRefs := long(api.Object{Id: "x", Kind: api.KindArea, Refs: names(1000, 18)}, false)
		byTags := node("n1", 1234, maxAt)
		byTags.Tags = quoted(maxTags, 0)
		byTags = long(byTags, true)
		byBoth := long(api.Object{Id: "x", Kind: api.KindWay, Refs: names(500, 20), Tags: quoted(40, 0)}, true)
		for _, o := range []api.Object{byRefs, byTags, byBoth} {
			text := plainText(o)
			if len(text) != n {
				t.Fatalf("%s has %d bytes, want %d", some(o), len(text), n)
			}
			wantsAll(t, o)
			if _, e := object.Text(o); (e == api.OK) != (n <= maxBytes) {
				t.Errorf("%d bytes: %d", n, e)
			}
		}
	}
	for kind := 2; kind <= 4; kind++ {
		wantsAll(t, api.Object{Id: "x", Kind: kind, Refs: names(maxRefs, 8)})
		wantsAll(t, api.Object{Id: "x", Kind: kind, Refs: names(maxRefs, maxName), Tags: manyTags(maxTags, repeat("\n", maxValue))})
	}
}

// P11.1, P1, K2: a text of more than 20000 bytes is too long, whatever is in it; a shorter one is not.
func TestParseLimit(t *testing.T) {
	for _, unit := range []string{" ", "\n", "node ", "way w (a b", "(", ")", "a ", "7", `"`, "\xff", "\x00", `a="x" `, "node n1 3 4 ", "way x (a b) "} {
		for _, n := range []int{maxBytes - 2, maxBytes - 1, maxBytes} {
			wantsParse(t, repeat(unit, n)[:n], api.Object{}, api.ErrSyntax)
		}
		for _, n := range []int{maxBytes + 1, maxBytes + 2, 1 << 16, 1<<16 + 5} {
			wantsParse(t, repeat(unit, n)[:n], api.Object{}, api.ErrLimit)
		}
	}
	for _, n := range []int{7, 8, 19, 20, 309, 10000} {
		wantsParse(t, "node n1 "+repeat("9", n)+" 4", api.Object{}, api.ErrSyntax)
		wantsParse(t, "node n1 3 "+repeat("1", n), api.Object{}, api.ErrSyntax)
		wantsParse(t, "node n1 "+repeat("0", n)+"3 4", api.Object{}, api.ErrSyntax)
	}
}

// P11.1, K2: texts of numbers and of names of each length.
func TestParseLengths(t *testing.T) {
	for n := range 40 {
		for _, s := range []string{
			"node " + repeat("n", n) + " 3 4", "way " + repeat("n", n) + " (a b)", "way x (" + repeat("n", n) + " a)", "area x (a b " + repeat("n", n) + ")", `node n1 3 4 ` + repeat("k", n) + `="v"`, "node n1 " + repeat("1", n) + " 4", "node n1 3 " + repeat("7", n), "route x (" + repeat(" a", n) + ")", "turn x (" + repeat("a ", n) + "b)",
		} {
			wantsSamePlain(t, s)
		}
	}
	for _, n := range []int{0, 1, 9, 10, 99, 100, 1024, maxAt - 1, maxAt, maxAt + 1, maxAt + 10, 1999999, 9999999, 10000000, 1 << 32, 1<<32 + 3, math.MaxInt} {
		for _, sign := range []string{"", "+", "-", "0", "0x", "1_", "00"} {
			wantsSamePlain(t, "node n1 "+sign+strconv.Itoa(n)+" 4")
			wantsSamePlain(t, "node n1 3 "+sign+strconv.Itoa(n))
		}
	}
	for n := 1996; n < 2010; n++ {
		for _, kind := range []string{"way", "area", "route", "turn", "node"} {
			wantsSamePlain(t, kind+" x ("+strings.Join(names(n, 5), " ")+")")
		}
	}
	for n := 55; n < 66; n++ {
		o := node("n", 1, 1)
		o.Tags = manyTags(n, "v")
		wantsSamePlain(t, plainText(o))
	}
	// Texts like 18446744073709551619, which is 3 more than 2 to the 64.
	for _, s := range []string{"18446744073709551619", "4294967299", "3.0", "3e0", "0b11", "0o3", "3_", "\u0663"} {
		wantsParse(t, "node n1 "+s+" 4", api.Object{}, api.ErrSyntax)
	}
}

// wantsSamePlain checks what Parse returns against the plain parser, and returns the error.
func wantsSamePlain(t *testing.T, text string) api.Errno {
	t.Helper()
	want, e := plainParse(text)
	wantsParse(t, text, want, e)
	if t.Failed() {
		t.FailNow()
	}
	return e
}

// P11.1, P1, K2: texts that are none of valid objects.
func TestWrongTexts(t *testing.T) {
	for _, s := range []string{
		"", " ", "node", "way", "node ", "node n1", "node n1 ", "node n1 3", "node n1 3 ", "node 3 4", "n1 3 4", " n1 3 4", "3 4", "way x", "way x ", "way (a b)", "x (a b)", "()", "way x (", "way x )", "way x ()", "route x ()", "route x ( )", "node n1 ()", "node n1 3 4 ()", "node n1 () 3 4", "way x 3 4", "way x (3 4)", "way x 3 4 (a b)", "node n1 (a b)", "turn x 3 4",
		"Node n1 3 4", "NODE n1 3 4", "nod n1 3 4", "nodes n1 3 4", "path x (a b c)", "line x (a b)", " (a b c)", "n n1 3 4", "w x (a b)", "2 x (a b)", `"node" n1 3 4`, "node1 3 4",
		" node n1 3 4", "node  n1 3 4", "node n1  3 4", "node n1 3  4", "node n1 3 4 ", "node n1 3 4\n", "\nnode n1 3 4", "node\tn1 3 4", "node n1\n3 4", "node n1 3\t4", "node n1 3 4#", "node n1 3 4 # x", "#\nnode n1 3 4", "node#\nn1 3 4", "node n1 3 4\x00", "node n1 3 4\r\n", "\xef\xbb\xbfnode n1 3 4",
		"node n1 03 4", "node n1 3 04", "node n1 00 0", "node n1 +3 4", "node n1 -3 4", "node n1 -0 0", "node n1 3 -4", "node n1 3.0 4", "node n1 3, 4", "node n1 (3 4)", "node n1 (3, 4)", `node n1 "3" 4`, `node n1 3 "4"`, "node n1 1048576 0", "node n1 0 1048576", "node n1 3 4 5", "node n1 x y", "node n1 3 y", "node n1 x 4", "node n1 3 4x", "node n1 0x3 4", "node n1 3_ 4",
		"way x (a)", "way x (a a)", "way x (a b b)", "way x (a a b)", "way x (a b c c d)", "area x (a b)", "area x (a b a)", "area x (a a b)", "area x (a b b)", "area x (a b c a)", "area x (a b c b)", "turn x (a b)", "turn x (a)", "turn x ()", "turn x (a b c d)",
		"way x ( a b)", "way x (a b )", "way x (a  b)", "way x (a b", "way x a b)", "way x a b", "way x (a, b)", "way x (a,b)", "way x [a b]", "way x {a b}", "way x (a b))", "way x ((a b)", "way x ((a b))", "way x (a (b))", "way x (a) (b)", "way x (a) b", "way x(a b)", "way x (a b) ", "way x (a b)\n", "way x (a\tb)", "way x (a\nb)", "way x (a#\nb)", "way x\n(a b)", "way  x (a b)", "way x  (a b)", "way x (a b) c", "way x (a b) (c d)", `way x (a "b")`, `way "x" (a b)`, `way x "(a b)"`, "way x (a b-c)", "way x (a 7)", "way x (a _b)", "way x (a b\xc3\xa9)",
		`node n1 3 4  a="1"`, `node n1 3 4a="1"`, "node n1 3 4\ta=\"1\"", `node n1 3 4 a="1" `, `node n1 3 4 a="1"  b="2"`, `node n1 3 4 a="1"b="2"`, `node n1 3 4 a="1", b="2"`, `node n1 3 4, a="1"`, `way x (a b)a="1"`, `way x (a b)  a="1"`, "way x (a b)\na=\"1\"", `way x (a b a="1")`, `way x a="1" (a b)`, `way a="1" x (a b)`, `a="1" way x (a b)`,
		"node n1 3 4 a", "node n1 3 4 a=", "node n1 3 4 a=b", "node n1 3 4 a=1", `node n1 3 4 a:"1"`, `node n1 3 4 a = "1"`, `node n1 3 4 a ="1"`, `node n1 3 4 a= "1"`, `node n1 3 4 a=""`, `node n1 3 4 ="1"`, `node n1 3 4 "1"`, `node n1 3 4 "a"="1"`, `node n1 3 4 7="1"`, `node n1 3 4 _a="1"`, `node n1 3 4 a="1`, `node n1 3 4 a=1"`, `node n1 3 4 a="1""`, `node n1 3 4 a="\"`, `node n1 3 4 a="\t"`, `node n1 3 4 a="\\\"`, "node n1 3 4 a=\"\n\"", "node n1 3 4 a='1'",
		`node n1 3 4 a="1" a="1"`, `node n1 3 4 a="1" a="2"`, `node n1 3 4 b="1" a="2"`, `node n1 3 4 a="1" B="2"`, `way x (a b) b="1" a="2"`, `node n1 3 4 a="1" b`, `node n1 3 4 a="1" b=`, `node n1 3 4 a="` + repeat("v", maxValue+1) + `"`, `way x (a b) a="` + repeat(`\n`, maxValue+1) + `"`, "node n1 3 4 " + repeat("k", maxName+1) + `="1"`,
		"node n1 3 4 node n2 5 6", "node n1 3 4\nnode n2 5 6", "node n1 3 4;", "way x (a b);", "node node node node", "way way way way", "way x (way x (a b))",
	} {
		wantsParse(t, s, api.Object{}, api.ErrSyntax)
		if _, e := plainParse(s); e != api.ErrSyntax {
			t.Errorf("%q is the text of an object", s)
		}
	}
}

// P11.1, P11.2, K2: known texts with each byte left out, doubled, or replaced, and with one more at each place, as the plain parser has them.
func TestChangedTexts(t *testing.T) {
	count := map[api.Errno]int{}
	for i, x := range known() {
		for at := range len(x.text) + 1 {
			before, after := x.text[:at], x.text[at:]
			count[wantsSamePlain(t, before)]++
			count[wantsSamePlain(t, after)]++
			for b := range 256 {
				if c := string([]byte{byte(b)}); i%6 == 0 || strings.Contains("abn019_ ()=\"\\\n#-,;\x00\xc3", c) {
					count[wantsSamePlain(t, before+c+after)]++
					if after != "" {
						count[wantsSamePlain(t, before+c+after[1:])]++
					}
				}
			}
			if after != "" {
				count[wantsSamePlain(t, before+after[1:])]++
				count[wantsSamePlain(t, before+after[:1]+after)]++
			}
		}
	}
	if count[api.OK] < 5000 || count[api.ErrSyntax] < 5000 || len(count) != 2 {
		t.Error(count)
	}
}

// P11.1, P11.2, K2: known texts with each word left out, doubled, replaced, or exchanged with another one, as the plain parser has them.
func TestChangedWords(t *testing.T) {
	count := map[api.Errno]int{}
	for _, x := range known() {
		words := strings.Split(x.text, " ")
		try := func(l []string) { count[wantsSamePlain(t, strings.Join(l, " "))]++ }
		for i, w := range words {
			try(slices.Delete(slices.Clone(words), i, i+1))
			try(slices.Insert(slices.Clone(words), i, w))
			for _, other := range []string{"", "node", "way", "area", "route", "turn", "Way", "x", "n1", "0", "3", "03", "-1", "(a", "a)", "(a)", "(a b)", "(a b c)", "(", ")", `a="1"`, `zzz="1"`, `"1"`, "#"} {
				try(slices.Concat(words[:i], []string{other}, words[i+1:]))
				try(slices.Insert(slices.Clone(words), i, other))
				try(append(slices.Clone(words), other))
			}
			for j := range i {
				l := slices.Clone(words)
				l[i], l[j] = l[j], l[i]
				try(l)
			}
		}
	}
	if count[api.OK] < 500 || count[api.ErrSyntax] < 5000 || len(count) != 2 {
		t.Error(count)
	}
}

// P11.1, P11.2, K2: all short texts of the parts that matter, alone and after some beginnings, as the plain parser has them.
func TestShortTexts(t *testing.T) {
	count := map[api.Errno]int{}
	try := func(s string) { count[wantsSamePlain(t, s)]++ }
	bytes := []string{" ", "a", "b", "0", "7", "(", ")", "=", `"`}
	for _, beginning := range []string{"", "node n ", "node n 1", "node n 1 2", "way w (", "way w (a b", "area x (a b c)", "route r (", "turn t (a b "} {
		allTexts(bytes, 5, func(s string) { try(beginning + s) })
	}
	parts := []string{"node", "way", "route", "turn", "n", " ", "0", "12", "(a", " b", " a)", ")", ` k="v"`}
	allTexts(parts, 5, try)
	for _, kind := range plainWords {
		allTexts([]string{"a", "b", "c", " ", "(", ")", ` k="v"`}, 5, func(s string) { try(kind + " x (" + s) })
	}
	if count[api.OK] < 500 || count[api.ErrSyntax] < 5000 || len(count) != 2 {
		t.Error(count)
	}
}

// P11.2, P11.5, P11.6: random objects, and what becomes of them by a change, as the plain functions have them.
func TestRandom(t *testing.T) {
	r := rand.New(rand.NewSource(111))
	count := map[bool]int{}
	for range 6000 {
		a := someObject(r)
		wantsAll(t, a)
		b := someChange(r, a)
		wantsPlain(t, b)
		wantsSame(t, a, b, plainSame(a, b))
		count[plainValid(b)]++
		if !plainValid(b) {
			continue
		}
		s, e := object.Text(a)
		u, f := object.Text(b)
		if e == api.OK && f == api.OK && (s == u) != object.Same(a, b) {
			t.Errorf("%q and %q", head(s), head(u))
		}
		if e == api.OK && !strings.HasPrefix(s, plainWords[a.Kind]+" ") {
			t.Errorf("%q of kind %d", head(s), a.Kind)
		}
		if t.Failed() {
			t.FailNow()
		}
	}
	if count[true] < 1000 || count[false] < 1000 {
		t.Error(count)
	}
}

// P11.3, K3: the list of an object tells all of it, so its joined text is one of no other object.
func TestDigests(t *testing.T) {
	r := rand.New(rand.NewSource(112))
	back := func(l []string) api.Object {
		o := api.Object{Id: l[1], Kind: slices.Index(plainWords, l[0])}
		o.At.X, _ = strconv.Atoi(l[2])
		o.At.Y, _ = strconv.Atoi(l[3])
		n, _ := strconv.Atoi(l[4])
		o.Refs, o.Tags = l[5:5+n], tags(l[5+n:]...)
		return o
	}
	seen := map[string]api.Object{}
	check := func(o api.Object) {
		t.Helper()
		list := plainList(o)
		got := object.Digest(o)
		if got != digest.List(list) || got != digest.Sum(joined(list)) || !digest.Is(got) || !object.Same(back(list), o) {
			t.Fatalf("%s has %q, and the list %q", some(o), got, list)
		}
		if other, found := seen[got]; found && !object.Same(o, other) && joined(list) == joined(plainList(other)) {
			t.Fatalf("%s and %s have one joined text", some(o), some(other))
		}
		seen[got] = o
	}
	for _, x := range known() {
		check(x.o)
	}
	// What is a reference in one of two objects is a part of a tag in the other one.
	for kind := 2; kind <= 4; kind++ {
		l := []string{"a", "b", "c", "d", "e", "f", "g", "h"}
		for n := 3; n <= len(l); n++ {
			for m := n; m <= len(l); m += 2 {
				check(api.Object{Id: "x", Kind: kind, Refs: l[:n], Tags: tags(l[n:m]...)})
			}
		}
	}
	before := len(seen)
	for range 3000 {
		o := someObject(r)
		check(o)
		if b := someChange(r, o); plainValid(b) {
			check(b)
		} else {
			wantsDigest(t, b, "")
		}
	}
	if len(seen) < before+3000 {
		t.Errorf("only %d digests", len(seen))
	}
}

// P11.4: one thing that should not be makes an object invalid; other names that are different do not.
func TestOtherNames(t *testing.T) {
	r := rand.New(rand.NewSource(113))
	for range 2000 {
		o := someObject(r)
		// Different names become different ones, in another order.
		other := map[string]string{}
		numbers := r.Perm(len(o.Refs) + 1)
		rename := func(name string) string {
			if other[name] == "" {
				other[name] = pick(r, "x", "Y_", "a123456789012345678_")
				other[name] += "_" + strconv.Itoa(numbers[len(other)-1])
			}
			return other[name]
		}
		renamed := with(o, func(o *api.Object) {
			for i, ref := range o.Refs {
				o.Refs[i] = rename(ref)
			}
			o.Id = rename(o.Id)
		})
		wantsAll(t, renamed)
		for _, change := range []func(*api.Object){
			func(o *api.Object) { o.Id = pick(r, wrongNames...) }, func(o *api.Object) { o.Kind = pick(r, -1, 0, 6, 7, 257, 1<<32+o.Kind, -o.Kind) },
			func(o *api.Object) { o.At.X = pick(r, -1, maxAt+1, math.MinInt, 1<<32) }, func(o *api.Object) { o.At.Y = pick(r, -1, maxAt+1, math.MaxInt, -1<<32) },
			func(o *api.Object) { o.Refs = append(o.Refs, pick(r, wrongNames...)) },
		} {
			wantsWrong(t, with(o, change))
		}
		if o.Kind != api.KindNode {
			wantsWrong(t, with(o, func(o *api.Object) { o.At = pick(r, api.Point{X: 1}, api.Point{Y: 1}, api.Point{X: maxAt, Y: maxAt}) }))
		}
		if t.Failed() {
			t.FailNow()
		}
	}
}

// P11.1, P11.5, K1: Same looks at all fields of objects, valid or not, and at nothing else.
func TestSame(t *testing.T) {
	all := []api.Object{
		{}, {Id: "x"}, {Id: "X"}, {Id: "x "}, {Kind: 1}, {Kind: -1}, {Kind: 1 << 32}, {At: api.Point{X: 1}}, {At: api.Point{Y: 1}}, {At: api.Point{X: 1, Y: 1}}, {At: api.Point{X: -1}}, {At: api.Point{X: 1 << 32}}, {At: api.Point{X: math.MinInt}},
		{Refs: []string{""}}, {Refs: []string{"", ""}}, {Refs: []string{"a"}}, {Refs: []string{"a", "b"}}, {Refs: []string{"b", "a"}}, {Refs: []string{"a b"}}, {Refs: []string{"a", "b", "a"}}, {Refs: []string{"A", "b"}}, {Refs: []string{"ab", ""}}, {Refs: []string{"", "ab"}},
		{Tags: tags("", "")}, {Tags: tags("a", "")}, {Tags: tags("", "a")}, {Tags: tags("a", "1")}, {Tags: tags("a", "2")}, {Tags: tags("b", "1")}, {Tags: tags("a", "1", "b", "1")}, {Tags: tags("b", "1", "a", "1")}, {Tags: tags("a", "1", "a", "1")}, {Tags: tags("a1", "")}, {Tags: tags("A", "1")}, {Tags: tags("", "", "", "")},
	}
	for _, o := range one() {
		all = append(all, o, with(o, func(o *api.Object) { o.Tags = nil }), with(o, func(o *api.Object) { o.Id = "7" }), with(o, func(o *api.Object) { o.Kind = 9 }))
	}
	for i, a := range all {
		for j, b := range all {
			wantsSame(t, a, b, i == j)
			copied := with(b, func(o *api.Object) {
				o.Refs, o.Tags = append([]string{}, o.Refs...), append([]api.Tag{}, o.Tags...)
				o.Id = strings.Clone(o.Id)
			})
			wantsSame(t, a, copied, i == j)
		}
	}
	// A nil slice and an empty one are equal.
	wantsSame(t, api.Object{}, api.Object{Refs: []string{}, Tags: []api.Tag{}}, true)
	empty := api.Object{Id: "n", Kind: api.KindNode, Refs: []string{}, Tags: []api.Tag{}}
	wantsAll(t, empty)
	wantsText(t, empty, "node n 0 0", api.OK)
	wantsDigest(t, empty, object.Digest(node("n", 0, 0)))
	// The last of many references or tags counts, too.
	for _, n := range []int{1, maxTags, maxRefs, 1 << 16} {
		a := api.Object{Refs: names(n, 9), Tags: manyTags(n, "v")}
		wantsSame(t, a, with(a, func(*api.Object) {}), true)
		wantsSame(t, a, with(a, func(o *api.Object) { o.Refs[n-1] = "x" }), false)
		wantsSame(t, a, with(a, func(o *api.Object) { o.Tags[n-1].Key = "x" }), false)
		wantsSame(t, a, with(a, func(o *api.Object) { o.Tags[n-1].Value = "x" }), false)
		wantsSame(t, a, with(a, func(o *api.Object) { o.Refs = o.Refs[:n-1] }), false)
		wantsSame(t, a, with(a, func(o *api.Object) { o.Tags = o.Tags[:n-1] }), false)
	}
}

// P11.5: equality is an equivalence, and agrees with texts.
func TestEquivalence(t *testing.T) {
	r := rand.New(rand.NewSource(114))
	var all []api.Object
	for range 60 {
		o := someObject(r)
		all = append(all, o, someChange(r, o), someChange(r, o), with(o, func(*api.Object) {}))
	}
	equal := 0
	for _, a := range all {
		if !object.Same(a, a) {
			t.Errorf("%s", some(a))
		}
		s, e := object.Text(a)
		for _, b := range all {
			same := object.Same(a, b)
			u, f := object.Text(b)
			if same != object.Same(b, a) || e == api.OK && f == api.OK && same != (s == u) || same && (e != f || object.Digest(a) != object.Digest(b)) {
				t.Errorf("%s and %s", some(a), some(b))
			}
			for _, c := range all {
				if same && object.Same(b, c) && !object.Same(a, c) {
					t.Errorf("%s, %s and %s", some(a), some(b), some(c))
				}
			}
			if same {
				equal++
			}
		}
	}
	if equal < len(all)*3/2 {
		t.Errorf("only %d pairs are equal", equal)
	}
}

// P11.6: texts begin with the word of the kind; other kinds and other Ids have other texts.
func TestWords(t *testing.T) {
	texts := map[string]bool{}
	for kind := 1; kind <= 5; kind++ {
		for _, id := range []string{"a", "b", "A", "aa", "node", "way", "area", "route", "turn"} {
			o := refs(kind, id, "a b c", "k", "v")
			if kind == api.KindNode {
				o = node(id, 3, 4, "k", "v")
			}
			text, e := object.Text(o)
			if e != api.OK || !strings.HasPrefix(text, plainWords[kind]+" "+id+" ") || texts[text] {
				t.Errorf("%q of %s", text, some(o))
			}
			texts[text] = true
			for other := 1; other <= 5; other++ {
				o.Kind = other
				if text, e := object.Text(o); e == api.OK && !strings.HasPrefix(text, plainWords[other]+" ") {
					t.Errorf("%q of %s", text, some(o))
				}
			}
		}
	}
	if len(texts) != 45 {
		t.Errorf("%d texts", len(texts))
	}
}

// P1: long arguments are answered, too.
func TestLongArguments(t *testing.T) {
	const long = 1 << 18
	for _, unit := range []string{"a", `"`, "\n", "(", ")", " ", "\xff", "node n1 3 4 ", "way x (a b"} {
		s := repeat(unit, long)
		wantsParse(t, s, api.Object{}, api.ErrLimit)
		for _, o := range one() {
			for _, change := range []func(*api.Object){func(o *api.Object) { o.Id = s }, func(o *api.Object) { o.Refs = append(o.Refs, s) }, func(o *api.Object) { o.Refs = []string{s, "a", "b"} }, func(o *api.Object) { o.Tags[0].Key = s }, func(o *api.Object) { o.Tags[0].Value = s }} {
				wrong := with(o, change)
				_, e := object.Text(wrong)
				if object.Valid(wrong) || e != api.ErrArg || object.Digest(wrong) != "" || !object.Same(wrong, wrong) || object.Same(wrong, o) {
					t.Errorf("%d bytes in an object of kind %d", len(s), o.Kind)
				}
			}
		}
	}
	list, l := names(long, 9), manyTags(long, "v")
	for kind := -1; kind <= 7; kind++ {
		for _, o := range []api.Object{{Id: "x", Kind: kind, Refs: list}, {Id: "x", Kind: kind, Refs: list[:3], Tags: l}, {Id: "x", Kind: kind, Tags: l}, {Id: "x", Kind: kind, Refs: list, Tags: l}, {Id: "x", Kind: kind, Refs: make([]string, long), Tags: make([]api.Tag, long)}} {
			_, e := object.Text(o)
			if object.Valid(o) || e != api.ErrArg || object.Digest(o) != "" || !object.Same(o, o) {
				t.Errorf("%d refs and %d tags of kind %d", len(o.Refs), len(o.Tags), kind)
			}
		}
	}
}

// roomy returns lists with room after their ends that a call may not write to, and an object that has their beginnings, at another place in memory.
func roomy(o api.Object) ([]string, []api.Tag, api.Object) {
	list, l := append(slices.Clone(o.Refs), "room", "", "room"), append(slices.Clone(o.Tags), tags("room", "1", "", "", "room", "2")...)
	for i := range list {
		list[i] = strings.Clone(list[i])
	}
	for i := range l {
		l[i] = api.Tag{Key: strings.Clone(l[i].Key), Value: strings.Clone(l[i].Value)}
	}
	own := api.Object{Id: strings.Clone(o.Id), Kind: o.Kind, At: o.At, Refs: list[:len(o.Refs)], Tags: l[:len(o.Tags)]}
	return list, l, own
}

// P3: equal calls yield equal results, whatever became of the results before; arguments stay as they are, and share no memory with results.
func TestIndependence(t *testing.T) {
	r := rand.New(rand.NewSource(115))
	for range 2000 {
		o := someObject(r)
		if r.Intn(3) == 0 {
			o = someChange(r, o)
		}
		valid := plainValid(o)
		list, l, arg := roomy(o)
		wantsPlain(t, o)
		text, e := object.Text(o)
		sum := object.Digest(o)
		for range 3 {
			again, f := object.Text(arg)
			if again != text || f != e || object.Digest(arg) != sum || object.Valid(arg) != valid || !object.Same(arg, o) || !object.Same(o, arg) {
				t.Fatalf("another result for %s", some(o))
			}
			if e == api.OK {
				parsed, _ := object.Parse(text)
				if !plainSame(parsed, o) {
					t.Fatalf("%q has become %s", head(text), some(parsed))
				}
				clear(parsed.Refs[:cap(parsed.Refs)])
				clear(parsed.Tags[:cap(parsed.Tags)])
			}
			wantList, wantTags, _ := roomy(o)
			if !slices.Equal(list, wantList) || !slices.Equal(l, wantTags) || !plainSame(arg, o) {
				t.Fatalf("%s has become %s", some(o), some(arg))
			}
		}
	}
}
