package tag_test

import (
	"fmt"
	"math/rand"
	"regexp"
	"slices"
	"sort"
	"strings"
	"testing"

	"planisphere/api"
	"planisphere/tag"
)

// The limits of the chapter, as it writes them.
const (
	maxTags  = 60
	maxValue = 200
	maxName  = 24
	maxBytes = 20000
)

const (
	letters = "ABCDEFGHIJKLMNOPQRSTUVWXYZabcdefghijklmnopqrstuvwxyz"
	word    = letters + "0123456789_"
)

func repeat(s string, n int) string      { return strings.Repeat(s, n) }
func has(bytes string, b byte) bool      { return strings.IndexByte(bytes, b) >= 0 }
func head(s string) string               { return s[:min(len(s), 200)] }
func pick[T any](r *rand.Rand, l ...T) T { return l[r.Intn(len(l))] }
func oneByte(b int) string               { return string([]byte{byte(b)}) }

// with returns tags with another one at a place.
func with(l []api.Tag, i int, t api.Tag) []api.Tag {
	l = slices.Clone(l)
	l[i] = t
	return l
}

// list returns the tags of keys and values in turn.
func list(l ...string) []api.Tag {
	var tags []api.Tag
	for i := 0; i < len(l); i += 2 {
		tags = append(tags, api.Tag{Key: l[i], Value: l[i+1]})
	}
	return tags
}

// run returns tags with one value, whose keys are a text and the numbers of two digits from one to before another.
func run(key string, from, to int, value string) []api.Tag {
	var tags []api.Tag
	for i := from; i < to; i++ {
		tags = append(tags, api.Tag{Key: fmt.Sprintf("%s%02d", key, i), Value: value})
	}
	return tags
}

// keysOf returns the keys of tags.
func keysOf(l []api.Tag) []string {
	var keys []string
	for _, t := range l {
		keys = append(keys, t.Key)
	}
	return keys
}

// full returns 60 tags whose text has some bytes.
func full(bytes int) []api.Tag {
	tags := run("k2345678901234567890_x", 0, maxTags, "")
	rest := bytes - len(tags)*(len(tags[0].Key)+len(`=""`)+maxValue) - (len(tags) - 1)
	for i := range tags {
		quotes := min(rest, maxValue)
		tags[i].Value = repeat(`"`, quotes) + repeat("v", maxValue-quotes)
		rest -= quotes
	}
	return tags
}

// some cuts what a message shows of tags.
func some(l []api.Tag) string { return head(fmt.Sprintf("%d tags %q", len(l), l)) }

// set returns what Set returns where it has no error.
func set(t *testing.T, l []api.Tag, key, value string) []api.Tag {
	t.Helper()
	got, e := tag.Set(l, key, value)
	if e != api.OK {
		t.Fatalf("Set(%s, %q, %q): %d", some(l), key, head(value), e)
	}
	return got
}

// textOf returns what Text returns where it has no error.
func textOf(t *testing.T, l []api.Tag) string {
	t.Helper()
	s, e := tag.Text(l)
	if e != api.OK {
		t.Fatalf("Text(%s): %d", some(l), e)
	}
	return s
}

func wantsValid(t *testing.T, l []api.Tag, want bool) {
	t.Helper()
	if got := tag.Valid(l); got != want {
		t.Errorf("Valid(%s) = %v", some(l), got)
	}
}

func wantsGet(t *testing.T, l []api.Tag, key, value string, found bool) {
	t.Helper()
	if v, ok := tag.Get(l, key); v != value || ok != found {
		t.Errorf("Get(%s, %q) = %q, %v, want %q, %v", some(l), key, head(v), ok, head(value), found)
	}
}

func wantsSet(t *testing.T, l []api.Tag, key, value string, want []api.Tag, err api.Errno) {
	t.Helper()
	if got, e := tag.Set(l, key, value); !slices.Equal(got, want) || e != err {
		t.Errorf("Set(%s, %q, %q) = %s, %d, want %s, %d", some(l), key, head(value), some(got), e, some(want), err)
	}
}

func wantsMerge(t *testing.T, base, ours, theirs, want []api.Tag, conflicts []string) {
	t.Helper()
	got, c := tag.Merge(base, ours, theirs)
	if !slices.Equal(got, want) || !slices.Equal(c, conflicts) {
		t.Errorf("Merge(%s, %s, %s) = %s, %q, want %s, %q", some(base), some(ours), some(theirs), some(got), c, some(want), conflicts)
	}
}

func wantsText(t *testing.T, l []api.Tag, want string, err api.Errno) {
	t.Helper()
	if got, e := tag.Text(l); got != want || e != err {
		t.Errorf("Text(%s) = %q, %d, want %q, %d", some(l), head(got), e, head(want), err)
	}
}

func wantsParse(t *testing.T, s string, want []api.Tag, err api.Errno) {
	t.Helper()
	if got, e := tag.Parse(s); !slices.Equal(got, want) || e != err {
		t.Errorf("Parse(%q), of %d bytes = %s, %d, want %s, %d", head(s), len(s), some(got), e, some(want), err)
	}
}

var (
	plainKey    = regexp.MustCompile(`^[A-Za-z][A-Za-z0-9_]{0,23}$`)
	plainTag    = regexp.MustCompile(`^([A-Za-z][A-Za-z0-9_]*)="((?:[^"\\\n]|\\["\\n])*)"`)
	plainPairs  = strings.NewReplacer(`\`, `\\`, `"`, `\"`, "\n", `\n`)
	plainValues = strings.NewReplacer(`\\`, `\`, `\"`, `"`, `\n`, "\n")
)

// plainValid returns what Valid should return.
func plainValid(l []api.Tag) bool {
	seen := map[string]bool{}
	for _, t := range l {
		if !plainKey.MatchString(t.Key) || len(t.Value) < 1 || len(t.Value) > maxValue {
			return false
		}
		seen[t.Key] = true
	}
	return len(l) <= maxTags && len(seen) == len(l) && sort.StringsAreSorted(keysOf(l))
}

// plainText returns the text of valid tags.
func plainText(l []api.Tag) string {
	var parts []string
	for _, t := range l {
		parts = append(parts, t.Key+`="`+plainPairs.Replace(t.Value)+`"`)
	}
	return strings.Join(parts, " ")
}

// plainParse returns what Parse should return: tags are cut off the text one by one.
func plainParse(s string) ([]api.Tag, api.Errno) {
	if len(s) > maxBytes {
		return nil, api.ErrLimit
	}
	var l []api.Tag
	for more := s != ""; more; {
		m := plainTag.FindStringSubmatch(s)
		if m == nil {
			return nil, api.ErrSyntax
		}
		l = append(l, api.Tag{Key: m[1], Value: plainValues.Replace(m[2])})
		s = s[len(m[0]):]
		if more = s != ""; more && s[0] != ' ' {
			return nil, api.ErrSyntax
		}
		s = strings.TrimPrefix(s, " ")
	}
	if !plainValid(l) {
		return nil, api.ErrSyntax
	}
	return l, api.OK
}

// plainMap returns tags as a map.
func plainMap(l []api.Tag) map[string]string {
	m := map[string]string{}
	for _, t := range l {
		m[t.Key] = t.Value
	}
	return m
}

// plainTags returns the tags of a map, in order.
func plainTags(m map[string]string) []api.Tag {
	var l []api.Tag
	for k, v := range m {
		l = append(l, api.Tag{Key: k, Value: v})
	}
	sort.Slice(l, func(i, j int) bool { return l[i].Key < l[j].Key })
	return l
}

// plainSet returns the tags that Set should return for arguments that have no error.
func plainSet(l []api.Tag, key, value string) []api.Tag {
	m := plainMap(l)
	m[key] = value
	if value == "" {
		delete(m, key)
	}
	return plainTags(m)
}

// plainMerge returns what Merge should return: the changes of both sides are put on the base.
func plainMerge(base, ours, theirs []api.Tag) ([]api.Tag, []string) {
	if !plainValid(base) || !plainValid(ours) || !plainValid(theirs) {
		return nil, nil
	}
	was, a, b := plainMap(base), plainChange(base, ours), plainChange(base, theirs)
	conflicts := map[string]bool{}
	for k, v := range a {
		if w, both := b[k]; both && w != v {
			conflicts[k] = true
		}
	}
	for _, change := range []map[string]string{a, b} {
		for k, v := range change {
			if !conflicts[k] {
				was[k] = v
			}
		}
	}
	for k, v := range was {
		if v == "" {
			delete(was, k)
		}
	}
	l := plainTags(was)
	if len(l) > maxTags {
		for _, t := range l[maxTags:] {
			conflicts[t.Key] = true
		}
		l = l[:maxTags]
	}
	var keys []string
	for k := range conflicts {
		keys = append(keys, k)
	}
	sort.Strings(keys)
	return l, keys
}

// plainChange returns the keys that tags have changed, with their values; the empty text if there is none.
func plainChange(base, l []api.Tag) map[string]string {
	change, was, is := map[string]string{}, plainMap(base), plainMap(l)
	for _, t := range slices.Concat(base, l) {
		if was[t.Key] != is[t.Key] {
			change[t.Key] = is[t.Key]
		}
	}
	return change
}

// allTexts calls a function for all texts of at most some bytes of an alphabet.
func allTexts(alphabet string, most int, f func(string)) {
	b := make([]byte, 0, most)
	var more func()
	more = func() {
		f(string(b))
		if len(b) < most {
			for i := range len(alphabet) {
				b = append(b, alphabet[i])
				more()
				b = b[:len(b)-1]
			}
		}
	}
	more()
}

// someName returns a name.
func someName(r *rand.Rand) string {
	b := []byte{letters[r.Intn(len(letters))]}
	for n := pick(r, 0, 1, 5, maxName-1, r.Intn(maxName)); len(b) <= n; {
		b = append(b, word[r.Intn(len(word))])
	}
	return string(b)
}

// someKey returns a name that others often have, too.
func someKey(r *rand.Rand) string {
	return pick(r, "a", "b", "c", "A", "a0", "a_", "aa", "class", "name", "name_de", "z", someName(r))
}

// someValue returns a value of 1 to 200 bytes, often one that others have, too.
func someValue(r *rand.Rand) string {
	b := make([]byte, 1+pick(r, 0, 1, 9, maxValue-1, r.Intn(maxValue)))
	for i := range b {
		b[i] = pick(r, byte(r.Intn(256)), '"', '\\', '\n', 'n', ' ', '#', '=')
	}
	return pick(r, "1", "2", "3", `"`, "\n", string(b))
}

// someTags returns valid tags, at most some of them.
func someTags(r *rand.Rand, most int) []api.Tag {
	m := map[string]string{}
	for range r.Intn(most + 1) {
		m[someKey(r)] = someValue(r)
	}
	return plainTags(m)
}

// someMany returns at most 60 valid tags, often as many, with keys of a hundred.
func someMany(r *rand.Rand) []api.Tag {
	l := run("k", 0, 100, "0")
	r.Shuffle(len(l), func(i, j int) { l[i], l[j] = l[j], l[i] })
	m := map[string]string{}
	for _, t := range l[:pick(r, 20, maxTags, r.Intn(maxTags+1))] {
		m[t.Key] = pick(r, "1", "1", "2")
	}
	return plainTags(m)
}

// someChange returns tags that have changed, by at most some keys.
func someChange(r *rand.Rand, l []api.Tag, most int) []api.Tag {
	m := plainMap(l)
	for range r.Intn(most + 1) {
		key := someKey(r)
		if len(l) > 0 {
			key = pick(r, key, l[r.Intn(len(l))].Key)
		}
		if m[key] = someValue(r); r.Intn(3) == 0 {
			delete(m, key)
		}
	}
	return plainTags(m)
}

// wrong returns lists of tags that are not valid, most of them for one reason only.
func wrong() [][]api.Tag {
	lists := [][]api.Tag{
		run("k", 0, maxTags+1, "v"), run("k", 0, 99, "v"), list("b", "1", "a", "2"), list("a", "1", "a", "1"), list("a", "1", "a", "2"), list("a", "1", "c", "1", "b", "1"), list("a", "1", "b", "1", "a", "1"),
		list("a", "1", "B", "1"), list("a_", "1", "aA", "1"), list("aa", "1", "a_", "1"), list("aa", "1", "a", "1"), list("k10", "1", "k1", "1", "k2", "1"),
	}
	for _, bad := range []api.Tag{{Key: "", Value: "1"}, {Key: "7", Value: "1"}, {Key: "_a", Value: "1"}, {Key: "a-b", Value: "1"}, {Key: "a ", Value: "1"}, {Key: "k\n", Value: "1"}, {Key: "k\x00", Value: "1"}, {Key: "k\xc3\xa9", Value: "1"}, {Key: repeat("k", maxName+1), Value: "1"}, {Key: "k", Value: ""}, {Key: "k", Value: repeat("v", maxValue+1)}, {}} {
		lists = append(lists, []api.Tag{bad}, []api.Tag{{Key: "A", Value: "1"}, bad}, []api.Tag{bad, {Key: "z", Value: "1"}})
	}
	// The one that is not valid has any place.
	for i := range maxTags {
		l := run("k", 0, maxTags, "v")
		lists = append(lists, with(l, i, api.Tag{Key: l[i].Key}), with(l, i, api.Tag{Key: l[i].Key + "-", Value: "v"}))
		if i > 0 {
			lists = append(lists, with(l, i, api.Tag{Key: l[i-1].Key, Value: "v"}), with(l, i, api.Tag{Key: "k", Value: "v"}))
		}
	}
	return lists
}
