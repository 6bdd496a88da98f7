package tag_test

import (
	"math/rand"
	"slices"
	"strings"
	"testing"

	"planisphere/api"
	"planisphere/tag"
)

// P9.1: the chapter's examples.
func TestExamples(t *testing.T) {
	wantsText(t, list("class", "cafe", "name", `A "B"`), `class="cafe" name="A \"B\""`, api.OK)
	wantsMerge(t, list("class", "a"), list("class", "b"), list("class", "a", "name", "n"), list("class", "b", "name", "n"), nil)
	wantsMerge(t, list("class", "a"), list("class", "b"), list("class", "c"), list("class", "a"), []string{"class"})
}

// P9.1, I4: texts that come from another program.
func TestKnownTexts(t *testing.T) {
	for _, x := range []struct {
		l    []api.Tag
		text string
	}{
		{nil, ""}, {[]api.Tag{}, ""},
		{list("a", " "), "a=\" \""},
		{list("A", "1", "B", "2", "a", "3", "b", "4"), "A=\"1\" B=\"2\" a=\"3\" b=\"4\""},
		{list("a", "1", "a0", "2", "aA", "3", "a_", "4", "aa", "5"), "a=\"1\" a0=\"2\" aA=\"3\" a_=\"4\" aa=\"5\""},
		{list("z", "\"", "zz", "\\", "zzz", "\n"), "z=\"\\\"\" zz=\"\\\\\" zzz=\"\\n\""},
		{list("x", "\\n", "y", "\\\"", "z", "\"=\" #;"), "x=\"\\\\n\" y=\"\\\\\\\"\" z=\"\\\"=\\\" #;\""},
		{list("name", "caf\xc3\xa9", "name_de", "Stra\xc3\x9fe", "name_ru", "\xd0\xa3\xd0\xbb"), "name=\"caf\xc3\xa9\" name_de=\"Stra\xc3\x9fe\" name_ru=\"\xd0\xa3\xd0\xbb\""},
		{list("raw", "\x00\x01\x0d\t\x7f\x80\xff"), "raw=\"\x00\x01\x0d\t\x7f\x80\xff\""},
		{list("hours", "mo-fr 9:00-17:30, sa 10:00-12:00", "oneway", "yes", "speed", "50"), "hours=\"mo-fr 9:00-17:30, sa 10:00-12:00\" oneway=\"yes\" speed=\"50\""},
		{list("ABCDEFGHIJKLMNOPQRSTUVWX", "k", "z_3456789012345678901234", "k"), "ABCDEFGHIJKLMNOPQRSTUVWX=\"k\" z_3456789012345678901234=\"k\""},
		{list("a", "b=\"c\"", "b", "a=\"1\" b=\"2\""), "a=\"b=\\\"c\\\"\" b=\"a=\\\"1\\\" b=\\\"2\\\"\""},
		{list("a", "\"\"\n\n\\\\"), "a=\"\\\"\\\"\\n\\n\\\\\\\\\""},
		{list("note", "7 < 8 > 6 / 2 - 1"), "note=\"7 < 8 > 6 / 2 - 1\""},
	} {
		wantsText(t, x.l, x.text, api.OK)
		wantsParse(t, x.text, x.l, api.OK)
	}
}

// P9.1, I2: settings that come from another program.
func TestKnownSets(t *testing.T) {
	for _, x := range []struct {
		key, value string
		want       []api.Tag
	}{
		{"a", "1", list("a", "1", "class", "cafe", "level", "2", "name", "Elm")},
		{"Z", "1", list("Z", "1", "class", "cafe", "level", "2", "name", "Elm")},
		{"class", "bar", list("class", "bar", "level", "2", "name", "Elm")},
		{"class", "cafe", list("class", "cafe", "level", "2", "name", "Elm")},
		{"class", "", list("level", "2", "name", "Elm")},
		{"clas", "x", list("clas", "x", "class", "cafe", "level", "2", "name", "Elm")},
		{"classy", "x", list("class", "cafe", "classy", "x", "level", "2", "name", "Elm")},
		{"level", "", list("class", "cafe", "name", "Elm")},
		{"m", "\n", list("class", "cafe", "level", "2", "m", "\n", "name", "Elm")},
		{"name", "", list("class", "cafe", "level", "2")},
		{"name", "\"", list("class", "cafe", "level", "2", "name", "\"")},
		{"name_de", "Ulme", list("class", "cafe", "level", "2", "name", "Elm", "name_de", "Ulme")},
		{"z", "9", list("class", "cafe", "level", "2", "name", "Elm", "z", "9")},
		{"z", "", list("class", "cafe", "level", "2", "name", "Elm")},
		{"Name", "", list("class", "cafe", "level", "2", "name", "Elm")},
	} {
		wantsSet(t, list("class", "cafe", "level", "2", "name", "Elm"), x.key, x.value, x.want, api.OK)
	}
	wantsSet(t, nil, "a", "1", list("a", "1"), api.OK)
	wantsSet(t, nil, "a", "", nil, api.OK)
	wantsSet(t, list("a", "1"), "a", "", nil, api.OK)
}

// P9.1, I3: merges that come from another program.
func TestKnownMerges(t *testing.T) {
	for _, x := range []struct {
		base, ours, theirs, want []api.Tag
		conflicts                []string
	}{
		{nil, nil, nil, nil, nil},
		{nil, list("class", "a", "open", "50"), list("open", "b"), list("class", "a"), []string{"open"}},
		{list("class", "A \"B\"", "level", "a", "name_de", "\n", "open", "\n"), list("class", "A \"B\"", "level", "a", "name_de", "\n"), list("class", "A \"B\"", "level", "a", "name", "a", "name_de", "\n", "open", "b"), list("class", "A \"B\"", "level", "a", "name", "a", "name_de", "\n", "open", "\n"), []string{"open"}},
		{nil, list("class", "A \"B\""), list("name", "A \"B\""), list("class", "A \"B\"", "name", "A \"B\""), nil},
		{list("Z", "\n", "class", "b", "open", "b"), list("Z", "\n", "class", "b"), list("Z", "\n", "class", "b", "open", "a"), list("Z", "\n", "class", "b", "open", "b"), []string{"open"}},
		{list("class", "A \"B\""), list("class", "A \"B\""), list("class", "A \"B\""), list("class", "A \"B\""), nil},
		{list("level", "50"), nil, list("level", "a"), list("level", "50"), []string{"level"}},
		{list("class", "50", "name", "b", "open", "\n"), list("class", "50", "level", "50", "name", "50", "open", "\n"), list("level", "\n", "name", "b", "name_de", "b", "open", "\n"), list("name", "50", "name_de", "b", "open", "\n"), []string{"level"}},
		{list("Z", "50", "k_1", "\n", "open", "50"), list("Z", "50", "class", "A \"B\"", "k_1", "b", "open", "50"), list("Z", "50", "k_1", "\n", "open", "50"), list("Z", "50", "class", "A \"B\"", "k_1", "b", "open", "50"), nil},
		{list("k_1", "A \"B\"", "level", "b", "name", "a", "open", "a"), list("Z", "a", "k_1", "A \"B\"", "level", "b", "name", "A \"B\"", "open", "a"), list("Z", "\n", "k_1", "A \"B\"", "level", "b", "name", "a", "open", "a"), list("k_1", "A \"B\"", "level", "b", "name", "A \"B\"", "open", "a"), []string{"Z"}},
		{list("name", "A \"B\"", "open", "\n"), list("name", "A \"B\"", "open", "\n"), list("k_1", "\n", "level", "\n", "name", "A \"B\"", "name_de", "a", "open", "\n"), list("k_1", "\n", "level", "\n", "name", "A \"B\"", "name_de", "a", "open", "\n"), nil},
		{list("k_1", "b"), list("k_1", "a", "level", "b"), list("k_1", "A \"B\"", "name", "A \"B\""), list("k_1", "b", "level", "b", "name", "A \"B\""), []string{"k_1"}},
		{list("name_de", "a"), list("level", "\n", "name_de", "a"), list("name", "50", "name_de", "a"), list("level", "\n", "name", "50", "name_de", "a"), nil},
	} {
		wantsMerge(t, x.base, x.ours, x.theirs, x.want, x.conflicts)
	}
}

// P9.1, I1: how many tags, how long keys and how long values are valid.
func TestValidLimits(t *testing.T) {
	for n := range 100 {
		wantsValid(t, run("k", 0, n, "v"), n <= maxTags)
	}
	for _, n := range []int{256, 257, 316, 1 << 16} {
		var l []api.Tag
		allTexts("abcdefghijklmnopqrst", 4, func(s string) {
			if len(l) < n && s != "" {
				l = append(l, api.Tag{Key: s, Value: "v"})
			}
		})
		wantsValid(t, l, false)
	}
	for n := range 600 {
		wantsValid(t, list(repeat("k", n), "v"), 1 <= n && n <= maxName)
		wantsValid(t, list("k", repeat("v", n)), 1 <= n && n <= maxValue)
		wantsValid(t, list("a", "v", "k", repeat("v", n), "z", "v"), 1 <= n && n <= maxValue)
		// What counts are bytes, not what they are or what stands for them.
		wantsValid(t, list("k", repeat("\xc3\xa9", n)), 1 <= n && 2*n <= maxValue)
		wantsValid(t, list("k", repeat(`"`, n)), 1 <= n && n <= maxValue)
		wantsValid(t, list("k", repeat("\x00", n)), 1 <= n && n <= maxValue)
	}
}

// P9.1, I1: each byte as a key, in a key, and as a value.
func TestEachByte(t *testing.T) {
	for b := range 256 {
		wantsValid(t, list(oneByte(b), "v"), has(letters, byte(b)))
		wantsValid(t, list("k"+oneByte(b), "v"), has(word, byte(b)))
		wantsValid(t, list("k"+oneByte(b)+"k", "v"), has(word, byte(b)))
		wantsValid(t, list("k", oneByte(b)), true)
		wantsParse(t, textOf(t, list("k", "a"+oneByte(b)+"b")), list("k", "a"+oneByte(b)+"b"), api.OK)
	}
}

// P9.1, I1: keys are in strictly increasing order, byte by byte.
func TestValidOrder(t *testing.T) {
	var keys []string
	allTexts("Aaz0_", 3, func(s string) {
		if plainKey.MatchString(s) {
			keys = append(keys, s)
		}
	})
	for _, a := range keys {
		for _, b := range keys {
			wantsValid(t, list(a, "1", b, "1"), a < b)
			wantsValid(t, list(a, "1", b, "2", "zzzz", "3"), a < b)
			wantsValid(t, list("A", "1", "AA", "2", a, "1", b, "2"), "AA" < a && a < b)
		}
	}
}

// P9.1, I1, I2, I3, I4, P1: tags that are not valid are not set, merged or written.
func TestWrongTags(t *testing.T) {
	good := list("a", "1", "k", "2")
	for _, l := range wrong() {
		if plainValid(l) {
			t.Fatalf("%s are valid", some(l))
		}
		wantsValid(t, l, false)
		for _, key := range []string{"a", "k", "zz", "", "7"} {
			for _, value := range []string{"1", "", repeat("v", maxValue+1)} {
				wantsSet(t, l, key, value, nil, api.ErrArg)
			}
		}
		wantsText(t, l, "", api.ErrArg)
		for _, other := range [][]api.Tag{nil, good, l} {
			wantsMerge(t, l, other, other, nil, nil)
			wantsMerge(t, other, l, other, nil, nil)
			wantsMerge(t, other, other, l, nil, nil)
			wantsMerge(t, good, other, l, nil, nil)
			wantsMerge(t, good, l, other, nil, nil)
		}
		if s := plainText(l); len(s) <= maxBytes {
			wantsParse(t, s, nil, api.ErrSyntax)
		}
	}
}

// P9.1, I1: random tags, with keys in any order.
func TestRandomValid(t *testing.T) {
	r := rand.New(rand.NewSource(91))
	count := map[bool]int{}
	for range 5000 {
		l := someTags(r, 6)
		for range r.Intn(3) {
			l = append(l, api.Tag{Key: someKey(r), Value: someValue(r)})
		}
		want := plainValid(l)
		count[want]++
		wantsValid(t, l, want)
	}
	if count[true] < 1000 || count[false] < 1000 {
		t.Error(count)
	}
}

// P9.1, I1: the value of the first tag with a key, of any tags.
func TestGet(t *testing.T) {
	l := list("name", "Elm", "class", "x", "", "none", "name", "Oak", "7 !", "y", "void", "", "void", "z")
	wantsGet(t, l, "name", "Elm", true)
	wantsGet(t, l, "class", "x", true)
	wantsGet(t, l, "", "none", true)
	wantsGet(t, l, "7 !", "y", true)
	wantsGet(t, l, "void", "", true)
	for _, key := range []string{"nam", "name ", "Name", "names", "clas", "Elm", "x", "7", "\x00", repeat("name", 99)} {
		wantsGet(t, l, key, "", false)
	}
	wantsGet(t, nil, "a", "", false)
	wantsGet(t, nil, "", "", false)
	wantsGet(t, []api.Tag{{}}, "", "", true)
	many := append(run("k", 0, 99, "v"), list("last", repeat("v", 9999))...)
	wantsGet(t, many, "last", repeat("v", 9999), true)
	for i, x := range many[:99] {
		wantsGet(t, with(many, i, api.Tag{Key: x.Key, Value: "w"}), x.Key, "w", true)
		wantsGet(t, slices.Delete(slices.Clone(many), i, i+1), x.Key, "", false)
	}
}

// P9.1, I2, P1: which keys and values are none that can be set; this comes before the number of tags.
func TestSetArguments(t *testing.T) {
	for _, l := range [][]api.Tag{nil, list("a", "1"), list("a", "1", "k", "2"), run("k", 0, maxTags, "v")} {
		for _, key := range []string{"", "7", "_", "_a", "a-b", "a b", " a", "a ", "a\n", "\x00", "a\x00", "\xc3\xa9", "a=", `"a"`, "a#", repeat("k", maxName+1), repeat("k", 280)} {
			for _, value := range []string{"", "1", repeat("v", maxValue), repeat("v", maxValue+1)} {
				wantsSet(t, l, key, value, nil, api.ErrArg)
			}
		}
		for _, n := range []int{maxValue + 1, maxValue + 2, 256, 257, 456, 512, 1 << 16} {
			for _, key := range []string{"a", "k", "k00", "z"} {
				wantsSet(t, l, key, repeat("v", n), nil, api.ErrArg)
			}
		}
	}
	for n := 1; n <= maxValue; n++ {
		wantsSet(t, list("a", "1"), "b", repeat("v", n), list("a", "1", "b", repeat("v", n)), api.OK)
		wantsSet(t, list("b", "1"), "b", repeat("\n", n), list("b", repeat("\n", n)), api.OK)
	}
	for n := 1; n <= maxName; n++ {
		wantsSet(t, list("A", "1"), repeat("k", n), "v", list("A", "1", repeat("k", n), "v"), api.OK)
	}
}

// P9.1, I2: there are at most 60 tags.
func TestSetLimit(t *testing.T) {
	all := run("k", 0, maxTags, "v")
	for i, x := range all {
		wantsSet(t, all, x.Key, "w", with(all, i, api.Tag{Key: x.Key, Value: "w"}), api.OK)
		wantsSet(t, all, x.Key, "v", all, api.OK)
		wantsSet(t, all, x.Key+"a", "w", nil, api.ErrLimit)
		wantsSet(t, all, x.Key+"a", "", all, api.OK)
		less := slices.Delete(slices.Clone(all), i, i+1)
		wantsSet(t, all, x.Key, "", less, api.OK)
		wantsSet(t, less, x.Key, "v", all, api.OK)
		wantsSet(t, less, x.Key, "", less, api.OK)
	}
	for _, key := range []string{"a", "A", "k", "z"} {
		wantsSet(t, all, key, "w", nil, api.ErrLimit)
		wantsSet(t, all, key, "", all, api.OK)
	}
}

// P9.1, I3: one key, whatever value it has in the base and on both sides, or none.
func TestMergeOneKey(t *testing.T) {
	values := []string{"", "1", "2", "3", `"`, "\n"}
	tags := func(value string) []api.Tag { return plainSet(list("a", "x", "z", "y"), "k", value) }
	for _, base := range values {
		for _, ours := range values {
			for _, theirs := range values {
				want, conflicts := base, []string{"k"}
				switch {
				case ours == theirs, theirs == base:
					want, conflicts = ours, nil
				case ours == base:
					want, conflicts = theirs, nil
				}
				wantsMerge(t, tags(base), tags(ours), tags(theirs), tags(want), conflicts)
				wantsMerge(t, plainSet(nil, "k", base), plainSet(nil, "k", ours), plainSet(nil, "k", theirs), plainSet(nil, "k", want), conflicts)
			}
		}
	}
}

// P9.1, I3: tags after the first 60 of a merge are left out, and their keys are conflicts; numbers that come from another program.
func TestMergeLimit(t *testing.T) {
	join := func(l ...[]api.Tag) []api.Tag { return slices.Concat(l...) }
	// Both sides add 40 tags.
	wantsMerge(t, nil, run("a", 0, 40, "1"), run("b", 0, 40, "1"), join(run("a", 0, 40, "1"), run("b", 0, 20, "1")), keysOf(run("b", 20, 40, "1")))
	wantsMerge(t, nil, run("b", 0, 40, "1"), run("a", 0, 40, "1"), join(run("a", 0, 40, "1"), run("b", 0, 20, "1")), keysOf(run("b", 20, 40, "1")))
	// Tags that nobody has changed are left out, too.
	z := run("z", 0, 20, "0")
	wantsMerge(t, z, join(run("a", 0, 40, "1"), z), join(run("b", 0, 5, "1"), z), join(run("a", 0, 40, "1"), run("b", 0, 5, "1"), z[:15]), keysOf(z[15:]))
	// A conflict that is left out is one conflict, as it is with a value of the base before the end.
	wantsMerge(t, z, join(run("a", 0, 40, "1"), run("z", 0, 20, "1")), join(run("b", 0, 5, "1"), run("z", 0, 20, "2")), join(run("a", 0, 40, "1"), run("b", 0, 5, "1"), z[:15]), keysOf(z))
	// A conflict without a value of the base takes no place.
	wantsMerge(t, nil, join(run("a", 0, 40, "1"), run("z", 0, 20, "1")), join(run("b", 0, 25, "1"), run("z", 0, 20, "2")), join(run("a", 0, 40, "1"), run("b", 0, 20, "1")), slices.Concat(keysOf(run("b", 20, 25, "1")), keysOf(z)))
	wantsMerge(t, nil, join(run("a", 0, 30, "1"), run("c", 0, 30, "1")), join(run("b", 0, 30, "1"), run("c", 0, 30, "2")), join(run("a", 0, 30, "1"), run("b", 0, 30, "1")), keysOf(run("c", 0, 30, "1")))
	// Nor does a key that a side has removed.
	wantsMerge(t, z, run("a", 0, 40, "1"), join(run("b", 0, 20, "1"), z), join(run("a", 0, 40, "1"), run("b", 0, 20, "1")), nil)
	// One tag is too many.
	base := run("k", 0, maxTags-1, "v")
	for _, x := range []struct{ ours, theirs string }{{"a", "z"}, {"z", "a"}, {"a", "b"}, {"y", "z"}, {"z", "y"}, {"k10a", "k10b"}} {
		all := plainSet(plainSet(base, x.ours, "1"), x.theirs, "2")
		wantsMerge(t, base, plainSet(base, x.ours, "1"), plainSet(base, x.theirs, "2"), all[:maxTags], []string{all[maxTags].Key})
		less := base[1:]
		wantsMerge(t, less, plainSet(less, x.ours, "1"), plainSet(less, x.theirs, "2"), plainSet(all, "k00", ""), nil)
	}
}

// P9.1, I3: random merges, some of them with more than 60 tags, as the plain ones are.
func TestRandomMerges(t *testing.T) {
	r := rand.New(rand.NewSource(92))
	conflicts, left := 0, 0
	for range 5000 {
		base := someTags(r, 8)
		ours, theirs := someChange(r, base, 8), someChange(r, base, 8)
		if r.Intn(2) == 0 {
			base, ours, theirs = someMany(r), someMany(r), someMany(r)
		}
		want, keys := plainMerge(base, ours, theirs)
		wantsMerge(t, base, ours, theirs, want, keys)
		if len(keys) > 0 {
			conflicts++
		}
		if len(want) == maxTags && len(keys) > 0 && keys[len(keys)-1] > want[maxTags-1].Key {
			left++
		}
		if t.Failed() {
			t.FailNow()
		}
	}
	if conflicts < 1000 || left < 100 {
		t.Errorf("%d merges with conflicts, %d with more than 60 tags", conflicts, left)
	}
}

// P9.1, I4, P1: a text has at most 20000 bytes.
func TestTextLimit(t *testing.T) {
	for n := maxBytes - 3; n <= maxBytes+3; n++ {
		l := full(n)
		wantsValid(t, l, true)
		s := plainText(l)
		if len(s) != n {
			t.Fatalf("%d bytes, want %d", len(s), n)
		}
		if n <= maxBytes {
			wantsText(t, l, s, api.OK)
			wantsParse(t, s, l, api.OK)
		} else {
			wantsText(t, l, "", api.ErrLimit)
			wantsParse(t, s, nil, api.ErrLimit)
		}
	}
	long := run("k2345678901234567890_x", 0, maxTags, repeat("\n", maxValue))
	wantsValid(t, long, true)
	wantsText(t, long, "", api.ErrLimit)
	wantsParse(t, plainText(long), nil, api.ErrLimit)
	// Tags that are not valid come before their text.
	for i := range long {
		wantsText(t, with(long, i, api.Tag{Key: long[i].Key, Value: repeat("\n", maxValue+1)}), "", api.ErrArg)
		wantsText(t, with(long, i, api.Tag{Key: long[i].Key}), "", api.ErrArg)
	}
	wantsText(t, append(long, api.Tag{Key: "z", Value: "v"}), "", api.ErrArg)
}

// P9.1, I4, P1: a text of more than 20000 bytes is too long, whatever is in it; a shorter one is not.
func TestParseLimit(t *testing.T) {
	for _, unit := range []string{" ", "\n", "#", "! ", "a", ";", `"`, "\xff", "a=", `a="x" `, `""`, "7", "\x00", "a "} {
		for _, n := range []int{maxBytes - 2, maxBytes - 1, maxBytes} {
			wantsParse(t, repeat(unit, n)[:n], nil, api.ErrSyntax)
		}
		for _, n := range []int{maxBytes + 1, maxBytes + 2, 1 << 16, 1<<16 + 5} {
			wantsParse(t, repeat(unit, n)[:n], nil, api.ErrLimit)
		}
	}
}

// P9.1, I4: texts that are none of valid tags.
func TestWrongTexts(t *testing.T) {
	for _, s := range []string{
		"a", "a=", "=", `"1"`, `="1"`, `a"1"`, `a "1"`, "a=1", "a=b", `a=="1"`, `a:"1"`, `a-"1"`, `a="1";`, `a="1",`, `a="1", b="2"`, `a="1";b="2"`, "a b c", ";;;", "7 8 9", `"a"="1"`, `7="1"`, `_="1"`, `_a="1"`, `a-b="1"`, "a=\xc3\xa9", "\xc3\xa9=\"1\"",
		" ", "\n", "\t", "#", "# a", ` a="1"`, `a="1" `, `a ="1"`, `a= "1"`, "a=\"1\"\n", "\na=\"1\"", "\ta=\"1\"", `a="1"b="2"`, `a="1"  b="2"`, "a=\"1\"\tb=\"2\"", "a=\"1\"\nb=\"2\"", "a=\"1\" \nb=\"2\"", "a=\"1\"#\nb=\"2\"", `a="1"#`, `a="1" #`, `a="1" # b="2"`, "#\na=\"1\"", "a=#\n\"1\"",
		`a=""`, `a="" b="1"`, `a="1" b=""`, `b="1" a="2"`, `a="1" a="1"`, `a="1" a="2"`, `a="1" b="2" a="3"`, `a="1" c="2" b="3"`, `a="1" B="2"`, `aa="1" a="2"`, `a="1" b`, `a="1" b=`, `a="1" b "2"`, `a="1" ="2"`, `a="1" "2"`, `a="1" b="2" c`,
		`a="1`, `a=1"`, `a="1""`, `a="1"2"`, `a="\"`, `a="\a"`, `a="\t"`, `a="\\\"`, `a="\x41"`, `a="\N"`, "a=\"1\n\"", "a=\"\n\"", "a=\"1\\\n\"", "a='1'", "a=`1`", "a=\"1\"\x00", "a=\"1\"\r", "a=\"1\"\r\nb=\"2\"", "!", `a="1" !`, "\xef\xbb\xbfa=\"1\"",
		repeat("k", maxName+1) + `="1"`, `a="1" ` + repeat("k", maxName+1) + `="1"`, `a="` + repeat("v", maxValue+1) + `"`, `a="` + repeat(`\n`, maxValue+1) + `"`, `a="1" b="` + repeat("v", 9999) + `"`,
		plainText(run("k", 0, maxTags+1, "v")), plainText(run("k", 0, 99, "v")), plainText(append(run("k", 0, 99, "v"), run("l", 0, 99, "v")...)), plainText(run("k", 0, maxTags, "v")) + " ", plainText(append(run("k", 0, maxTags-1, "v"), list("a", "1")...)),
	} {
		wantsParse(t, s, nil, api.ErrSyntax)
	}
}

// P9.1, I4: keys and values of each length, and each number of tags.
func TestParseLengths(t *testing.T) {
	wants := func(l []api.Tag) {
		t.Helper()
		if plainValid(l) {
			wantsParse(t, plainText(l), l, api.OK)
		} else {
			wantsParse(t, plainText(l), nil, api.ErrSyntax)
		}
	}
	for n := range 300 {
		wants(list("a", repeat("v", n)))
		wants(list("a", repeat("\n", n), "b", "1"))
		wants(list("a", "1", "b", repeat("\xc3\xa9", n)))
		wants(list(repeat("k", n)+"k", "1"))
		wants(list("a", "1", repeat("k", n)+"k", "1"))
	}
	for n := range 100 {
		wants(run("k", 0, n, "v"))
		wants(run("k", 0, n, repeat("\\", 80)))
	}
}

// P9.1, P9.2, I4: all short texts of the bytes that matter, alone and after a tag, as the plain parser has them.
func TestShortTexts(t *testing.T) {
	count := map[api.Errno]int{}
	check := func(s string) {
		l, e := plainParse(s)
		wantsParse(t, s, l, e)
		count[e]++
		if t.Failed() {
			t.FailNow()
		}
	}
	allTexts("an=\"\\ \n#", 6, check)
	allTexts("ab=\" \n#", 6, func(s string) { check(`a="1"` + s) })
	allTexts("\"\\n\n x", 5, func(s string) { check(`b="x` + s + `"`) })
	if count[api.OK] < 500 || count[api.ErrSyntax] < 100000 {
		t.Error(count)
	}
}

// P9.1, P9.2, I4: random texts, most of them of tags that something was done to, as the plain parser has them.
func TestRandomTexts(t *testing.T) {
	r := rand.New(rand.NewSource(93))
	count := map[api.Errno]int{}
	for range 20000 {
		l := someTags(r, 4)
		if r.Intn(3) == 0 {
			l = append(l, api.Tag{Key: someKey(r), Value: pick(r, "", someValue(r))})
		}
		s := plainText(l)
		for range r.Intn(3) {
			i := r.Intn(len(s) + 1)
			j := i + r.Intn(min(3, len(s)-i+1))
			s = s[:i] + pick(r, "", " ", "\n", "\t", `"`, `\`, "=", "#", "a", "1", oneByte(r.Intn(256)), ` b="2"`) + s[j:]
		}
		want, e := plainParse(s)
		count[e]++
		wantsParse(t, s, want, e)
		if t.Failed() {
			t.FailNow()
		}
	}
	if count[api.OK] < 5000 || count[api.ErrSyntax] < 5000 {
		t.Error(count)
	}
}

// P9.2: Parse returns tags for their text, a text that Parse accepts is that of its result, and different tags have different texts.
func TestTexts(t *testing.T) {
	r := rand.New(rand.NewSource(94))
	of := map[string][]api.Tag{}
	for range 10000 {
		l := someTags(r, pick(r, 1, 2, 5, 30))
		s := textOf(t, l)
		wantsParse(t, s, l, api.OK)
		if s != plainText(l) {
			t.Fatalf("Text(%s) = %q", some(l), s)
		}
		if other, ok := of[s]; ok && !slices.Equal(l, other) {
			t.Fatalf("%s and %s have the same text", some(l), some(other))
		}
		of[s] = l
	}
	allTexts("a1=\"\\ ", 7, func(s string) {
		if l, e := tag.Parse(s); e == api.OK && textOf(t, l) != s {
			t.Fatalf("%q has %s, whose text is %q", s, some(l), textOf(t, l))
		}
	})
}

// P9.3: after Set, the key has the value, and all other keys are as before; setting it again to what it was takes this back.
func TestSetting(t *testing.T) {
	r := rand.New(rand.NewSource(95))
	for range 10000 {
		l := someTags(r, pick(r, 3, 10, 50))
		key, value := someKey(r), pick(r, "", someValue(r))
		if len(l) > 0 {
			key = pick(r, key, l[r.Intn(len(l))].Key)
		}
		was, _ := tag.Get(l, key)
		got := set(t, l, key, value)
		wantsValid(t, got, true)
		wantsGet(t, got, key, value, value != "")
		for _, x := range slices.Concat(l, got) {
			if x.Key != key {
				value, ok := tag.Get(l, x.Key)
				wantsGet(t, got, x.Key, value, ok)
			}
		}
		wantsSet(t, l, key, value, plainSet(l, key, value), api.OK)
		wantsSet(t, got, key, was, l, api.OK)
		wantsSet(t, got, key, value, got, api.OK)
		if t.Failed() {
			t.FailNow()
		}
	}
}

// P9.4: Merge is symmetric in both sides; if one side is the base, or both are the same, it is the other side.
func TestMergeSides(t *testing.T) {
	r := rand.New(rand.NewSource(96))
	for range 3000 {
		base := someTags(r, 10)
		ours, theirs := someChange(r, base, 10), someChange(r, base, 10)
		switch r.Intn(4) {
		case 0:
			ours, theirs = someTags(r, 10), someTags(r, 10)
		case 1:
			base, ours, theirs = someMany(r), someMany(r), someMany(r)
		}
		merged, conflicts := tag.Merge(base, ours, theirs)
		wantsValid(t, merged, true)
		wantsMerge(t, base, theirs, ours, merged, conflicts)
		wantsMerge(t, base, base, theirs, theirs, nil)
		wantsMerge(t, base, ours, base, ours, nil)
		wantsMerge(t, base, ours, ours, ours, nil)
		wantsMerge(t, base, base, base, base, nil)
		if t.Failed() {
			t.FailNow()
		}
	}
	wantsMerge(t, run("k", 0, maxTags, "1"), nil, run("k", 0, maxTags, "1"), nil, nil)
	wantsMerge(t, nil, run("k", 0, maxTags, "1"), run("k", 0, maxTags, "1"), run("k", 0, maxTags, "1"), nil)
	wantsMerge(t, run("a", 0, maxTags, "1"), run("b", 0, maxTags, "1"), run("b", 0, maxTags, "1"), run("b", 0, maxTags, "1"), nil)
}

// P9.5: a key is a conflict exactly if both sides have changed it in another way; otherwise it has what the side that changed it has.
func TestConflicts(t *testing.T) {
	r := rand.New(rand.NewSource(97))
	count := 0
	for range 5000 {
		base := someTags(r, 15)
		ours, theirs := someChange(r, base, 10), someChange(r, base, 10)
		merged, conflicts := tag.Merge(base, ours, theirs)
		if !slices.IsSorted(conflicts) || len(slices.Compact(slices.Clone(conflicts))) != len(conflicts) {
			t.Fatalf("%q are not in order", conflicts)
		}
		for _, key := range append(keysOf(slices.Concat(base, ours, theirs)), conflicts...) {
			b, _ := tag.Get(base, key)
			o, _ := tag.Get(ours, key)
			h, _ := tag.Get(theirs, key)
			if is := o != b && h != b && o != h; is != slices.Contains(conflicts, key) {
				t.Fatalf("%q with %q, %q and %q: conflict %v", key, b, o, h, !is)
			}
			want := b
			if o != b && h == b || o == h {
				want = o
			} else if o == b {
				want = h
			}
			wantsGet(t, merged, key, want, want != "")
		}
		count += len(conflicts)
		if t.Failed() {
			t.FailNow()
		}
	}
	if count < 2000 {
		t.Errorf("only %d conflicts", count)
	}
}

// P9.6: setting different keys on both sides commutes with merging.
func TestSettingBothSides(t *testing.T) {
	r := rand.New(rand.NewSource(98))
	for range 5000 {
		base := someTags(r, 15)
		a, b := someKey(r), someKey(r)
		if len(base) > 0 {
			a, b = pick(r, a, base[r.Intn(len(base))].Key), pick(r, b, base[r.Intn(len(base))].Key)
		}
		if a == b {
			continue
		}
		// What is set is not what the other side has changed before.
		keep := func(l []api.Tag, key string) []api.Tag {
			was, _ := tag.Get(base, key)
			return set(t, l, key, was)
		}
		ours, theirs := keep(someChange(r, base, 8), b), keep(someChange(r, base, 8), a)
		v, w := pick(r, "", someValue(r)), pick(r, "", someValue(r))
		before, conflicts := tag.Merge(base, ours, theirs)
		wantsMerge(t, base, set(t, ours, a, v), set(t, theirs, b, w), set(t, set(t, before, a, v), b, w), conflicts)
		wantsMerge(t, base, set(t, base, a, v), set(t, base, b, w), set(t, set(t, base, b, w), a, v), nil)
		if t.Failed() {
			t.FailNow()
		}
	}
}

// P1: long arguments are answered, too.
func TestLongArguments(t *testing.T) {
	const long = 1 << 20
	for _, unit := range []string{"a", `"`, "\n", "\\", "\xff", `a="1" `} {
		s := repeat(unit, long)
		wantsParse(t, s, nil, api.ErrLimit)
		for _, l := range [][]api.Tag{list("k", s), list(s, "v"), list(s, s)} {
			wantsValid(t, l, false)
			wantsGet(t, l, l[0].Key, l[0].Value, true)
			wantsSet(t, l, "k", "v", nil, api.ErrArg)
			wantsText(t, l, "", api.ErrArg)
			wantsMerge(t, l, nil, l, nil, nil)
		}
		wantsSet(t, nil, s, "v", nil, api.ErrArg)
		wantsSet(t, nil, "k", s, nil, api.ErrArg)
	}
	many := make([]api.Tag, long)
	for i := range many {
		many[i] = api.Tag{Key: "k", Value: "v"}
	}
	wantsValid(t, many, false)
	wantsGet(t, many, "x", "", false)
	wantsSet(t, many, "k", "v", nil, api.ErrArg)
	wantsText(t, many, "", api.ErrArg)
	wantsMerge(t, many, many, many, nil, nil)
}

// P3: equal calls yield equal results, whatever became of the results before; arguments stay as they are, and share no memory with results.
func TestIndependence(t *testing.T) {
	r := rand.New(rand.NewSource(99))
	// A list has room after its end that a call may not write to, and keys at another place in memory.
	roomy := func(l []api.Tag) ([]api.Tag, []api.Tag) {
		room := append(slices.Clone(l), list("room", "1", "room", "2", "room", "3")...)
		for i := range room {
			room[i].Key, room[i].Value = strings.Clone(room[i].Key), strings.Clone(room[i].Value)
		}
		return room, room[:len(l)]
	}
	for range 2000 {
		base := someTags(r, 8)
		sides := [3][]api.Tag{base, pick(r, base, someChange(r, base, 4)), pick(r, base, someChange(r, base, 4))}
		var rooms, args [3][]api.Tag
		for i := range sides {
			rooms[i], args[i] = roomy(sides[i])
		}
		key, value := someKey(r), pick(r, "", someValue(r))
		merged, conflicts := plainMerge(sides[0], sides[1], sides[2])
		for range 2 {
			m, c := tag.Merge(args[0], args[1], args[2])
			s, e := tag.Set(args[0], key, value)
			text := textOf(t, args[0])
			p, f := tag.Parse(text)
			if !slices.Equal(m, merged) || !slices.Equal(c, conflicts) || !slices.Equal(s, plainSet(base, key, value)) || !slices.Equal(p, base) || text != plainText(base) || e != api.OK || f != api.OK {
				t.Fatalf("another result for %s, %s and %s", some(sides[0]), some(sides[1]), some(sides[2]))
			}
			for _, l := range [][]api.Tag{m, s, p} {
				clear(l[:cap(l)])
			}
			clear(c[:cap(c)])
			for i := range sides {
				if want, _ := roomy(sides[i]); !slices.Equal(rooms[i], want) {
					t.Fatalf("%s has become %s", some(want), some(rooms[i]))
				}
			}
		}
	}
}
