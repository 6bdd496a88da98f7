package digest_test

import (
	"slices"
	"strconv"
	"strings"
	"testing"

	"planisphere/digest"
)

// plainSum computes a digest word for word as the chapter says it, apart from the package.
func plainSum(text string) string {
	bytes := append([]byte(text), 0)
	for len(bytes)%8 != 0 {
		bytes = append(bytes, 0)
	}
	state := uint64(1181783497276652981) ^ uint64(len(text))
	for i := 0; i < len(bytes); i += 8 {
		block := uint64(0)
		for j := 0; j < 8; j++ {
			block = block*256 + uint64(bytes[i+j])
		}
		x := state ^ block
		x = x * 2862933555777941757
		x = x ^ (x >> 32)
		x = x * 3935559000370003845
		x = x ^ (x >> 29)
		state = x
	}
	text16 := strconv.FormatUint(state, 16)
	return strings.Repeat("0", 16-len(text16)) + text16
}

// plainJoined returns the joined text of a list.
func plainJoined(l []string) string {
	text := ""
	for _, element := range l {
		text += strconv.Itoa(len(element)) + ":" + element
	}
	return text
}

// allBytes returns a text with each byte once.
func allBytes() string {
	b := make([]byte, 256)
	for i := range b {
		b[i] = byte(i)
	}
	return string(b)
}

// someTexts returns texts of all lengths around the first multiples of 8, with ordinary bytes, bytes 0 and bytes above 127, also at their ends.
func someTexts() []string {
	var l []string
	for n := 0; n <= 41; n++ {
		for _, b := range []byte{0, 1, 'a', 0x7f, 0x80, 0xff} {
			l = append(l, strings.Repeat(string([]byte{b}), n))
		}
		counting := allBytes()[33 : 33+n]
		l = append(l, counting, allBytes()[256-n:], counting+"\x00", counting+"\x00\x00\x00")
	}
	return append(l, allBytes(), strings.Repeat("planisphere ", 1000))
}

// someLists returns lists of some elements, among them empty ones and those that look like joined texts.
func someLists() [][]string {
	return [][]string{nil, {""}, {"", ""}, {"", "", ""}, {"a"}, {"a", ""}, {"", "a"}, {"a", "bc"}, {"ab", "c"}, {"abc"}, {"a2:bc"}, {"1:a2:bc"}, {"1:a", "2:bc"}, {":"}, {"0:"}, {"\x00"}, {"\x00", "\x00"}, {"\x00\x00"}, {"\xff\x80", ""}, {"123456789"}, {"0123456789"}, {"0123456789", "x"}, {strings.Repeat("x", 99)}, {strings.Repeat("x", 100), ""}, {"é", "山頂"}, {"山", "é頂"}, {allBytes(), "", allBytes()}}
}

// apart reports a pair of different texts that have one digest.
type apart struct {
	t    *testing.T
	seen map[string]string
}

func newApart(t *testing.T) *apart { return &apart{t: t, seen: map[string]string{}} }

func (a *apart) add(text, digest string) {
	a.t.Helper()
	if other, ok := a.seen[digest]; ok && other != text {
		a.t.Fatalf("%q and %q have the digest %s", other, text, digest)
	}
	a.seen[digest] = text
}

// P1.1: digests that were computed by another program.
func TestSumKnown(t *testing.T) {
	for _, test := range []struct{ text, want string }{
		{"", "6031a84606eccf8b"},
		{"a", "1e7827cf6b033208"},
		{"\x00", "94d86f9921017098"},
		{"ab", "473fd2605fd9d4b8"},
		{"abcdefg", "2977922405af7e4d"},
		{"abcdefg\x00", "302f49c84143d41d"},
		{"abcdefgh", "f45a0a40653d542d"},
		{"abcdefgh\x00", "ecd864824aebd799"},
		{"abcdefghi", "e7068903771cbb92"},
		{"abcdefghijklmno", "d024c3bd8f8d5676"},
		{"abcdefghijklmnop", "1ce7461be5bbeb6d"},
		{"abcdefghijklmnopq", "4b8a0f0867934275"},
		{"\xff\xff\xff\xff\xff\xff\xff", "60ff7587bec2e15a"},
		{"\x80\xff\xc3\xa9", "a074d08d4a272aee"},
		{"\xff\xff\xff\xff\xff\xff\xff\xff", "4e1383dff230bc95"},
		{"\x00\x00\x00\x00\x00\x00\x00\x00", "b7f64c188176193c"},
		{strings.Repeat("\x00", 16), "e1271cdb0b9cb469"},
		{"The quick brown fox\x00\x00\x00", "6f9d5060fbdc82bf"},
		{"planisphere keeps a map that many people edit", "d860fd602d9fc48a"},
		{allBytes(), "b00bfa0743e00239"},
	} {
		if got := digest.Sum(test.text); got != test.want {
			t.Errorf("Sum(%q) = %s, want %s", test.text, got, test.want)
		}
	}
}

// P1.1: digests of texts of all lengths, as the chapter's words say.
func TestSumPlain(t *testing.T) {
	for _, text := range someTexts() {
		if got, want := digest.Sum(text), plainSum(text); got != want {
			t.Errorf("Sum(%q) = %s, want %s", text, got, want)
		}
	}
}

// P1.1: digests of lists that were computed by another program.
func TestListKnown(t *testing.T) {
	for _, test := range []struct {
		l    []string
		want string
	}{
		{nil, "6031a84606eccf8b"},
		{[]string{""}, "eeea49064fcd0fa2"},
		{[]string{"", ""}, "07e89a25bec1d4f3"},
		{[]string{"a", "bc"}, "a23701e03e394e5a"},
		{[]string{"abcdefgh"}, "1475e624006ff02f"},
		{[]string{"0123456789"}, "066bae416387af1c"},
		{[]string{"\xff\x00", ":"}, "634837e48ee5a31a"},
		{[]string{"é", "山頂"}, "12d5007ca72c53bc"},
		{[]string{strings.Repeat("x", 100), ""}, "de5af26837310311"},
	} {
		if got := digest.List(test.l); got != test.want {
			t.Errorf("List(%q) = %s, want %s", test.l, got, test.want)
		}
	}
}

// P1.1: the digest of a list is that of its joined text.
func TestListJoined(t *testing.T) {
	if got, want := digest.List([]string{"a", "bc"}), digest.Sum("1:a2:bc"); got != want {
		t.Errorf("List(a, bc) = %s, want %s", got, want)
	}
	for _, l := range someLists() {
		if got, want := digest.List(l), plainSum(plainJoined(l)); got != want {
			t.Errorf("List(%q) = %s, want %s", l, got, want)
		}
	}
}

// P1.1: which texts are digests.
func TestIs(t *testing.T) {
	for _, test := range []struct {
		text string
		want bool
	}{
		{"0123456789abcdef", true},
		{"fedcba9876543210", true},
		{"0000000000000000", true},
		{"9999999999999999", true},
		{"aaaaaaaaaaaaaaaa", true},
		{"ffffffffffffffff", true},
		{"0123456789abcdeF", false},
		{"A123456789abcdef", false},
		{"0123456789ABCDEF", false},
		{"0x23456789abcdef", false},
		{"-123456789abcdef", false},
		{"0123456789abcde\n", false},
		{" 123456789abcdef", false},
		{"0123456789abcdé", false},  // 16 bytes
		{"0123456789abcdeé", false}, // 16 runes
		{"0123456789abcde０", false}, // the last one is a wide digit 0
	} {
		if got := digest.Is(test.text); got != test.want {
			t.Errorf("Is(%q) = %v", test.text, got)
		}
	}
}

// P1.1: a digest has 16 digits, no more and no fewer.
func TestIsLength(t *testing.T) {
	for n := range 70 {
		for _, digit := range []string{"0", "9", "a", "f"} {
			if text := strings.Repeat(digit, n); digest.Is(text) != (n == 16) {
				t.Errorf("Is(%q) = %v", text, n != 16)
			}
		}
	}
}

// P1.1: each byte counts at each place.
func TestIsBytes(t *testing.T) {
	for at := range 16 {
		for b := range 256 {
			text := []byte("0123456789abcdef")
			text[at] = byte(b)
			want := strings.IndexByte("0123456789abcdef", byte(b)) >= 0
			if digest.Is(string(text)) != want {
				t.Errorf("Is(%q) = %v", text, !want)
			}
		}
	}
}

// checkForm reports what is not 16 digits from 0 to 9 and a to f.
func checkForm(t *testing.T, got string) {
	t.Helper()
	if len(got) != 16 || strings.Trim(got, "0123456789abcdef") != "" || !digest.Is(got) {
		t.Errorf("%q is no digest", got)
	}
}

// P1.2: Sum and List return digests, also where the last state is a small number.
func TestForm(t *testing.T) {
	for _, text := range someTexts() {
		checkForm(t, digest.Sum(text))
	}
	for _, l := range someLists() {
		checkForm(t, digest.List(l))
	}
	zeros := 0
	for i := range 5000 {
		got := digest.Sum(strconv.Itoa(i))
		checkForm(t, got)
		if strings.HasPrefix(got, "00") {
			zeros++
		}
	}
	if zeros == 0 {
		t.Error("no digest begins with zeros")
	}
}

// textsOf calls a function for all texts of some bytes that are not longer than a length.
func textsOf(bytes string, longest int, do func(text string)) {
	var longer func(text string)
	longer = func(text string) {
		do(text)
		if len(text) < longest {
			for i := range len(bytes) {
				longer(text + bytes[i:i+1])
			}
		}
	}
	longer("")
}

// P1.3: all texts of at most 2 bytes, and all of at most 7 bytes that are made of a few.
func TestShortTexts(t *testing.T) {
	a := newApart(t)
	add := func(text string) { a.add(text, digest.Sum(text)) }
	textsOf(allBytes(), 2, add)
	textsOf("\x00\x01a\x80\xff", 7, add)
	textsOf("\x00\x10", 7, add)
	if len(a.seen) < 150000 {
		t.Error(len(a.seen))
	}
}

// P1.4: texts that differ in one block, which is the first, a middle, the last or an unfinished one.
func TestOneBlock(t *testing.T) {
	for _, n := range []int{8, 9, 16, 23, 24, 30, 32} {
		text := strings.Repeat("planisphere!", 3)[:n]
		for from := 0; from < n; from += 8 {
			oneBlock(t, text, from, min(8, n-from))
		}
	}
}

// oneBlock checks texts that differ in some bytes from a place on.
func oneBlock(t *testing.T, text string, from, size int) {
	t.Helper()
	a := newApart(t)
	for at := range size {
		for b := range 256 {
			other := []byte(text)
			other[from+at] = byte(b)
			a.add(string(other), digest.Sum(string(other)))
		}
	}
	textsOf("\x00a\xff", size, func(part string) {
		other := text[:from] + part + text[from+len(part):]
		a.add(other, digest.Sum(other))
	})
}

// P1.5: lists whose elements, one after the other, are the same text.
func TestListsOfOneText(t *testing.T) {
	a := newApart(t)
	for _, l := range someLists() {
		a.add(plainJoined(l), digest.List(l))
	}
	if len(a.seen) != len(someLists()) {
		t.Errorf("%d lists have %d digests", len(someLists()), len(a.seen))
	}
}

// shortLists calls a function for all lists whose joined texts have at most 7 bytes and whose elements are made of some bytes.
func shortLists(bytes string, do func(l []string)) {
	var longer func(l []string, room int)
	longer = func(l []string, room int) {
		do(l)
		if room >= 2 {
			textsOf(bytes, room-2, func(text string) {
				longer(append(slices.Clone(l), text), room-2-len(text))
			})
		}
	}
	longer(nil, 7)
}

// P1.5: lists with short joined texts; different ones have different digests.
func TestShortLists(t *testing.T) {
	digests := map[string]bool{}
	lists := 0
	shortLists("01:\x00\xff", func(l []string) {
		lists++
		digests[digest.List(l)] = true
	})
	if lists < 4000 || len(digests) != lists {
		t.Errorf("%d lists have %d digests", lists, len(digests))
	}
}

// P1.5: lists whose joined texts differ in one block only.
func TestListsOneBlock(t *testing.T) {
	a := newApart(t)
	for b := range 256 {
		l := []string{"lion", string([]byte{byte(b)}), "tiger"}
		a.add(plainJoined(l), digest.List(l))
	}
	if len(a.seen) != 256 {
		t.Error(len(a.seen))
	}
	first, second := []string{"123456", "abc", "d"}, []string{"123456", "a", "bcd"}
	if digest.List(first) == digest.List(second) {
		t.Errorf("%q and %q have one digest", first, second)
	}
}

// P1: long arguments are answered, too.
func TestLong(t *testing.T) {
	text := strings.Repeat("0123456789abcdef", 1<<16)
	if got, want := digest.Sum(text), plainSum(text); got != want {
		t.Errorf("%s, want %s", got, want)
	}
	if digest.Is(text) {
		t.Error("a long text is a digest")
	}
	l := slices.Repeat([]string{"", "a"}, 100000)
	if got, want := digest.List(l), plainSum(strings.Repeat("0:1:a", 100000)); got != want {
		t.Errorf("%s, want %s", got, want)
	}
}

// P3: equal arguments, at whatever place in memory, yield equal results, whatever was asked before; arguments stay as they are.
func TestEqualArguments(t *testing.T) {
	for _, text := range someTexts() {
		copied := strings.Clone(text + "x")[:len(text)]
		first := digest.Sum(text)
		digest.Sum(first + text)
		if second := digest.Sum(copied); first != second {
			t.Errorf("%q: %s and %s", text, first, second)
		}
		if digest.Is(text) != digest.Is(copied) {
			t.Errorf("Is(%q) differs", text)
		}
	}
	for _, l := range someLists() {
		kept := slices.Clone(l)
		first := digest.List(l)
		digest.List([]string{first})
		roomy := append(make([]string, 0, len(l)+7), l...)
		if second := digest.List(roomy); first != second {
			t.Errorf("%q: %s and %s", l, first, second)
		}
		if !slices.Equal(kept, l) {
			t.Errorf("%q became %q", kept, l)
		}
	}
	if digest.List(nil) != digest.List([]string{}) {
		t.Error("a nil list and an empty one differ")
	}
}
