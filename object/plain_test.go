package object_test

import (
	"fmt"
	"math/rand"
	"regexp"
	"slices"
	"sort"
	"strconv"
	"strings"
	"testing"

	"planisphere/api"
	"planisphere/digest"
	"planisphere/object"
)

// The limits of the chapters, as they write them.
const (
	maxAt    = 1048575
	maxRefs  = 2000
	maxTags  = 60
	maxValue = 200
	maxName  = 24
	maxBytes = 20000
)

const (
	letters = "ABCDEFGHIJKLMNOPQRSTUVWXYZabcdefghijklmnopqrstuvwxyz"
	word    = letters + "0123456789_"
)

// plainWords has the words of the kinds from 1 to 5.
var plainWords = []string{"", "node", "way", "area", "route", "turn"}

func repeat(s string, n int) string      { return strings.Repeat(s, n) }
func head(s string) string               { return s[:min(len(s), 200)] }
func pick[T any](r *rand.Rand, l ...T) T { return l[r.Intn(len(l))] }

// fields returns a text that shows all fields of an object.
func fields(o api.Object) string {
	return fmt.Sprintf("%q of kind %d at %d with %q and %q", o.Id, o.Kind, o.At, o.Refs, o.Tags)
}

// some cuts what a message shows of an object.
func some(o api.Object) string {
	return fmt.Sprintf("%s (%d refs, %d tags)", head(fields(o)), len(o.Refs), len(o.Tags))
}

// tags returns the tags of keys and values in turn.
func tags(l ...string) []api.Tag {
	var list []api.Tag
	for i := 0; i < len(l); i += 2 {
		list = append(list, api.Tag{Key: l[i], Value: l[i+1]})
	}
	return list
}

// node returns a node with the tags of keys and values in turn.
func node(id string, x, y int, l ...string) api.Object {
	return api.Object{Id: id, Kind: api.KindNode, At: api.Point{X: x, Y: y}, Tags: tags(l...)}
}

// refs returns an object with references that stand in a text with blanks between them, and the tags of keys and values in turn.
func refs(kind int, id, names string, l ...string) api.Object {
	return api.Object{Id: id, Kind: kind, Refs: strings.Fields(names), Tags: tags(l...)}
}

// names returns different names of some bytes.
func names(n, bytes int) []string {
	var l []string
	for i := range n {
		l = append(l, fmt.Sprintf("r%0*d", bytes-1, i))
	}
	return l
}

// manyTags returns tags with one value.
func manyTags(n int, value string) []api.Tag {
	var l []api.Tag
	for i := range n {
		l = append(l, api.Tag{Key: fmt.Sprintf("k%07d", i), Value: value})
	}
	return l
}

// quoted returns tags with one value of 200 bytes each, some of which, the first ones, are quotes.
func quoted(n, quotes int) []api.Tag {
	l := manyTags(n, "")
	for i := range l {
		first := min(quotes, maxValue)
		l[i].Value = repeat(`"`, first) + repeat("v", maxValue-first)
		quotes -= first
	}
	return l
}

// with returns an object that has been changed; the first one stays as it is.
func with(o api.Object, change func(*api.Object)) api.Object {
	o.Refs, o.Tags = slices.Clone(o.Refs), slices.Clone(o.Tags)
	change(&o)
	return o
}

// one returns a valid object of each kind, with its references and with tags.
func one() []api.Object {
	return []api.Object{
		node("n1", 3, 4, "class", "cafe", "name", "Elm"), refs(api.KindWay, "w1", "a b a c", "class", "street"), refs(api.KindArea, "a1", "a b c d", "name", "\n"),
		refs(api.KindRoute, "r1", "a a b", "name", `"`), refs(api.KindTurn, "t1", "a b c", "if", "always"),
	}
}

func wantsValid(t *testing.T, o api.Object, want bool) {
	t.Helper()
	if got := object.Valid(o); got != want {
		t.Errorf("Valid(%s) = %v", some(o), got)
	}
}

func wantsSame(t *testing.T, a, b api.Object, want bool) {
	t.Helper()
	if object.Same(a, b) != want || object.Same(b, a) != want {
		t.Errorf("Same(%s, %s) = %v, %v, want %v", some(a), some(b), object.Same(a, b), object.Same(b, a), want)
	}
}

func wantsText(t *testing.T, o api.Object, want string, err api.Errno) {
	t.Helper()
	if got, e := object.Text(o); got != want || e != err {
		t.Errorf("Text(%s) = %q, %d, want %q, %d", some(o), head(got), e, head(want), err)
	}
}

func wantsParse(t *testing.T, text string, want api.Object, err api.Errno) {
	t.Helper()
	if got, e := object.Parse(text); !plainSame(got, want) || e != err {
		t.Errorf("Parse(%q), of %d bytes = %s, %d, want %s, %d", head(text), len(text), some(got), e, some(want), err)
	}
}

func wantsDigest(t *testing.T, o api.Object, want string) {
	t.Helper()
	if got := object.Digest(o); got != want {
		t.Errorf("Digest(%s) = %q, want %q", some(o), got, want)
	}
}

// wantsWrong checks what all functions answer for an object that is not valid.
func wantsWrong(t *testing.T, o api.Object) {
	t.Helper()
	wantsValid(t, o, false)
	wantsText(t, o, "", api.ErrArg)
	wantsDigest(t, o, "")
	wantsSame(t, o, o, true)
}

// wantsAll checks what all functions answer for a valid object.
func wantsAll(t *testing.T, o api.Object) {
	t.Helper()
	wantsValid(t, o, true)
	text := plainText(o)
	if len(text) > maxBytes {
		wantsText(t, o, "", api.ErrLimit)
		wantsParse(t, text, api.Object{}, api.ErrLimit)
	} else {
		wantsText(t, o, text, api.OK)
		wantsParse(t, text, o, api.OK)
	}
	wantsDigest(t, o, digest.List(plainList(o)))
	wantsSame(t, o, o, true)
}

// wantsPlain checks what all functions answer for any object.
func wantsPlain(t *testing.T, o api.Object) {
	t.Helper()
	if plainValid(o) {
		wantsAll(t, o)
	} else {
		wantsWrong(t, o)
	}
}

const (
	namePattern   = `[A-Za-z][A-Za-z0-9_]{0,23}`
	numberPattern = `(?:0|[1-9][0-9]{0,6})`
	tagPattern    = ` (` + namePattern + `)="((?:[^"\\\n]|\\["\\n])+)"`
)

var (
	plainName   = regexp.MustCompile(`^` + namePattern + `$`)
	plainTag    = regexp.MustCompile(tagPattern)
	plainObject = regexp.MustCompile(`^(?:node (` + namePattern + `) (` + numberPattern + `) (` + numberPattern + `)|(way|area|route|turn) (` + namePattern + `) \((` + namePattern + `(?: ` + namePattern + `)*)\))((?:` + tagPattern + `)*)$`)
	plainPairs  = strings.NewReplacer(`\`, `\\`, `"`, `\"`, "\n", `\n`)
	plainValues = strings.NewReplacer(`\\`, `\`, `\"`, `"`, `\n`, "\n")
)

// plainValid returns what Valid should return.
func plainValid(o api.Object) bool {
	if !plainName.MatchString(o.Id) || !plainTags(o.Tags) {
		return false
	}
	n, different, neighbours := len(o.Refs), map[string]bool{}, false
	for i, ref := range o.Refs {
		if !plainName.MatchString(ref) {
			return false
		}
		different[ref] = true
		neighbours = neighbours || i > 0 && o.Refs[i-1] == ref
	}
	zero := o.At.X == 0 && o.At.Y == 0
	switch o.Kind {
	case 1:
		return n == 0 && o.At.X >= 0 && o.At.X <= maxAt && o.At.Y >= 0 && o.At.Y <= maxAt
	case 2:
		return zero && n >= 2 && n <= maxRefs && !neighbours
	case 3:
		return zero && n >= 3 && n <= maxRefs && len(different) == n
	case 4:
		return zero && n >= 1 && n <= maxRefs
	case 5:
		return zero && n == 3
	}
	return false
}

// plainTags reports whether tags are valid.
func plainTags(l []api.Tag) bool {
	keys := map[string]bool{}
	for _, t := range l {
		if !plainName.MatchString(t.Key) || len(t.Value) < 1 || len(t.Value) > maxValue {
			return false
		}
		keys[t.Key] = true
	}
	return len(l) <= maxTags && len(keys) == len(l) && sort.SliceIsSorted(l, func(i, j int) bool { return l[i].Key < l[j].Key })
}

// plainSame returns what Same should return.
func plainSame(a, b api.Object) bool { return fields(a) == fields(b) }

// plainText returns the text of a valid object, of any length.
func plainText(o api.Object) string {
	s := fmt.Sprintf("%s %s %v", plainWords[o.Kind], o.Id, o.Refs)
	s = strings.NewReplacer("[", "(", "]", ")").Replace(s)
	if o.Kind == 1 {
		s = fmt.Sprintf("node %s %d %d", o.Id, o.At.X, o.At.Y)
	}
	for _, t := range o.Tags {
		s += fmt.Sprintf(` %s="%s"`, t.Key, plainPairs.Replace(t.Value))
	}
	return s
}

// plainParse returns what Parse should return: the parts of a text that has a pattern.
func plainParse(text string) (api.Object, api.Errno) {
	if len(text) > maxBytes {
		return api.Object{}, api.ErrLimit
	}
	m := plainObject.FindStringSubmatch(text)
	if m == nil {
		return api.Object{}, api.ErrSyntax
	}
	o := api.Object{Id: m[1] + m[5], Kind: max(1, slices.Index(plainWords, m[4])), Refs: strings.Fields(m[6])}
	o.At.X, _ = strconv.Atoi(m[2])
	o.At.Y, _ = strconv.Atoi(m[3])
	for _, tag := range plainTag.FindAllStringSubmatch(m[7], -1) {
		o.Tags = append(o.Tags, api.Tag{Key: tag[1], Value: plainValues.Replace(tag[2])})
	}
	if !plainValid(o) {
		return api.Object{}, api.ErrSyntax
	}
	return o, api.OK
}

// plainList returns the list whose digest a valid object has.
func plainList(o api.Object) []string {
	l := []string{plainWords[o.Kind], o.Id, strconv.Itoa(o.At.X), strconv.Itoa(o.At.Y), strconv.Itoa(len(o.Refs))}
	l = append(l, o.Refs...)
	for _, t := range o.Tags {
		l = append(l, t.Key, t.Value)
	}
	return l
}

// joined returns the text that has the digest of a list.
func joined(l []string) string {
	s := ""
	for _, x := range l {
		s += strconv.Itoa(len(x)) + ":" + x
	}
	return s
}

// allTexts calls a function for all texts of at most some parts.
func allTexts(parts []string, most int, f func(string)) {
	var more func(s string, n int)
	more = func(s string, n int) {
		f(s)
		if n > 0 {
			for _, p := range parts {
				more(s+p, n-1)
			}
		}
	}
	more("", most)
}

// someName returns a name, often one that others have, too.
func someName(r *rand.Rand) string {
	b := []byte{letters[r.Intn(len(letters))]}
	for n := pick(r, 0, 1, 5, maxName-1, r.Intn(maxName)); len(b) <= n; {
		b = append(b, word[r.Intn(len(word))])
	}
	return pick(r, "a", "b", "c", "n1", "n2", "A", "node", "way", "area", string(b))
}

// someValue returns a value of 1 to 200 bytes, often one that others have, too.
func someValue(r *rand.Rand) string {
	b := make([]byte, 1+pick(r, 0, 1, 9, maxValue-1, r.Intn(maxValue)))
	for i := range b {
		b[i] = pick(r, byte(r.Intn(256)), '"', '\\', '\n', 'n', ' ', '(', ')', '=')
	}
	return pick(r, "1", "a", "b", ")", string(b))
}

// someTags returns valid tags.
func someTags(r *rand.Rand) []api.Tag {
	m := map[string]string{}
	for range pick(r, 0, 0, 1, 2, r.Intn(maxTags+1)) {
		m[someName(r)] = someValue(r)
	}
	var l []api.Tag
	for k, v := range m {
		l = append(l, api.Tag{Key: k, Value: v})
	}
	sort.Slice(l, func(i, j int) bool { return l[i].Key < l[j].Key })
	return l
}

// someObject returns a valid object.
func someObject(r *rand.Rand) api.Object {
	o := api.Object{Id: someName(r), Kind: 1 + r.Intn(5), Tags: someTags(r)}
	if o.Kind == 1 {
		coordinate := func() int { return pick(r, 0, 1, 9, 10, 1024, maxAt-1, maxAt, r.Intn(maxAt+1)) }
		o.At = api.Point{X: coordinate(), Y: coordinate()}
		return o
	}
	for n := pick(r, 2, 3, 3, 4, 2+r.Intn(40)); !plainValid(o); {
		if len(o.Refs) > n {
			o.Refs = nil
		}
		o.Refs = append(o.Refs, someName(r))
	}
	return o
}

// someChange returns an object, valid or not, that differs from another one in one thing, or not at all.
func someChange(r *rand.Rand, o api.Object) api.Object {
	return with(o, func(o *api.Object) {
		n := pick(r, -1, 0, 1, 2, 3, 4, 5, 6, maxAt, maxAt+1)
		switch i := r.Intn(9); {
		case i == 0:
			o.Id = pick(r, someName(r), "", "7")
		case i == 1:
			o.Kind = n
		case i == 2:
			o.At.X = n
		case i == 3:
			o.At.Y = n
		case i == 4:
			o.Refs = append(o.Refs, pick(r, someName(r), "7"))
		case i == 5 && len(o.Refs) > 0:
			o.Refs[r.Intn(len(o.Refs))] = pick(r, someName(r), "a-b")
		case i == 6 && len(o.Refs) > 0:
			o.Refs = o.Refs[:len(o.Refs)-1]
		case i == 7:
			o.Tags = append(o.Tags, api.Tag{Key: someName(r), Value: someValue(r)})
		case i == 8 && len(o.Tags) > 0:
			o.Tags[r.Intn(len(o.Tags))] = api.Tag{Key: someName(r), Value: pick(r, someValue(r), "")}
		}
	})
}
