package lexer_test

import (
	"math/rand"
	"slices"
	"strings"
	"testing"

	"planisphere/api"
	"planisphere/lexer"
)

// P8.1: the chapter's examples.
func TestExamples(t *testing.T) {
	wants(t, `way w1 7-"a\"b"# y`, good(list(name("way", 0), name("w1", 4), number("7", 7), symbol("-", 8), text(`a"b`, 9))))
	wants(t, "a !b", bad(api.ErrChar, 2))
	wants(t, "7x", bad(api.ErrNumber, 0))
	wants(t, `a "b`, bad(api.ErrChar, 2))
	wants(t, "\n"+repeat("n", 25), bad(api.ErrLimit, 1))
}

// P8.1, H1: tokens that come from another program.
func TestKnown(t *testing.T) {
	for _, x := range []struct {
		s    string
		want []api.Token
	}{
		{"area A_1 { n1 n2 n3 } class=\"park\" name=\"caf\xc3\xa9 \\\"X\\\"\\n\\\\\"", list(name("area", 0), name("A_1", 5), symbol("{", 9), name("n1", 11), name("n2", 14), name("n3", 17), symbol("}", 20), name("class", 22), symbol("=", 27), text("park", 28), name("name", 35), symbol("=", 39), text("caf\xc3\xa9 \"X\"\n\\", 40))},
		{"mo-fr 9:00-17:30, sa 10:00-12:00 # and never \"su", list(name("mo", 0), symbol("-", 2), name("fr", 3), number("9", 6), symbol(":", 7), number("00", 8), symbol("-", 10), number("17", 11), symbol(":", 13), number("30", 14), symbol(",", 16), name("sa", 18), number("10", 21), symbol(":", 23), number("00", 24), symbol("-", 26), number("12", 27), symbol(":", 29), number("00", 30))},
		{"# a comment, with \"quotes\", 7x and !\n\n\tneeds name where amenity=\"bench\"#", list(name("needs", 39), name("name", 45), name("where", 50), name("amenity", 56), symbol("=", 63), text("bench", 64))},
		{"9999999 0000000 1234567", list(number("9999999", 0), number("0000000", 8), number("1234567", 16))},
		{"a-1", list(name("a", 0), symbol("-", 1), number("1", 2))},
		{"a--b", list(name("a", 0), symbol("-", 1), symbol("-", 2), name("b", 3))},
		{"<>=/", list(symbol("<", 0), symbol(">", 1), symbol("=", 2), symbol("/", 3))},
		{"a<b>c=d/e", list(name("a", 0), symbol("<", 1), name("b", 2), symbol(">", 3), name("c", 4), symbol("=", 5), name("d", 6), symbol("/", 7), name("e", 8))},
		{"(((a)))", list(symbol("(", 0), symbol("(", 1), symbol("(", 2), name("a", 3), symbol(")", 4), symbol(")", 5), symbol(")", 6))},
		{"x.y:z;w,v", list(name("x", 0), symbol(".", 1), name("y", 2), symbol(":", 3), name("z", 4), symbol(";", 5), name("w", 6), symbol(",", 7), name("v", 8))},
		{"\"a\"\"b\"c\"d\"7\"e\"", list(text("a", 0), text("b", 3), name("c", 6), text("d", 7), number("7", 10), text("e", 11))},
		{"\"\\n\\n\\\\\\n\\\"\"", list(text("\n\n\\\n\"", 0))},
		{"\"tab\tand #no comment\"", list(text("tab\tand #no comment", 0))},
		{"\"\x00\x01\xfe\xff\r\"", list(text("\x00\x01\xfe\xff\r", 0))},
		{"\"\xe2\x82\xac\"", list(text("\xe2\x82\xac", 0))},
		{"x_", list(name("x_", 0))},
		{"ABCDEFGHIJKLMNOPQRSTUVWX YZabcdefghijklmnopqrstuv wxyz0123456789_", list(name("ABCDEFGHIJKLMNOPQRSTUVWX", 0), name("YZabcdefghijklmnopqrstuv", 25), name("wxyz0123456789_", 50))},
		{"a23456789012345678901234", list(name("a23456789012345678901234", 0))},
		{"", nil}, {" ", nil}, {"\n\t ", nil}, {"#", nil}, {"#a", nil}, {"##\n#!\n", nil}, {"\n#7x", nil},
	} {
		wants(t, x.s, good(x.want))
	}
}

// P8.1, H1, P1: errors that come from another program.
func TestKnownErrors(t *testing.T) {
	for _, x := range []struct {
		s   string
		err api.Errno
		at  int
	}{
		{"a1b2 1 2_", api.ErrNumber, 7}, {"1a", api.ErrNumber, 0}, {"12 0x1F", api.ErrNumber, 3}, {"10000000", api.ErrNumber, 0}, {"00000001", api.ErrNumber, 0},
		{"7_", api.ErrNumber, 0}, {"7__", api.ErrNumber, 0}, {"7A", api.ErrNumber, 0}, {"7z9", api.ErrNumber, 0}, {"12345678901234567890123456", api.ErrNumber, 0}, {"a ; 12345678x", api.ErrNumber, 4},
		{"\"a\\tb\"", api.ErrChar, 0}, {"\"open", api.ErrChar, 0}, {"\"open\\\"", api.ErrChar, 0}, {"\"open\\", api.ErrChar, 0}, {"\"line\nfeed\"", api.ErrChar, 0},
		{"ok \"a\\", api.ErrChar, 3}, {"ok \"\\\n\"", api.ErrChar, 3}, {"ok \"\"\"", api.ErrChar, 5},
		{"a\r\nb", api.ErrChar, 1}, {"a\x0bb", api.ErrChar, 1}, {"a\x0cb", api.ErrChar, 1}, {"a\xc2\xa0b", api.ErrChar, 1}, {"\xef\xbb\xbfa", api.ErrChar, 0}, {"na\xc3\xafve", api.ErrChar, 2}, {"7\xd9\xa1", api.ErrChar, 1},
		{"it's", api.ErrChar, 2}, {"a+b", api.ErrChar, 1}, {"1*2", api.ErrChar, 1}, {"50%", api.ErrChar, 2}, {"a&b|c", api.ErrChar, 1}, {"x?y", api.ErrChar, 1}, {"@home", api.ErrChar, 0}, {"$1", api.ErrChar, 0},
		{"^", api.ErrChar, 0}, {"~", api.ErrChar, 0}, {"`a`", api.ErrChar, 0}, {"a\\b", api.ErrChar, 1}, {"_x", api.ErrChar, 0}, {"__", api.ErrChar, 0},
		{"a234567890123456789012345", api.ErrLimit, 0}, {"a_234567890123456789012345!", api.ErrLimit, 0},
	} {
		wants(t, x.s, bad(x.err, x.at))
	}
}

// P8.1, H1: each byte at the beginning, after a name, after a number and after a symbol.
func TestEachByte(t *testing.T) {
	for i := range 256 {
		b, c := byte(i), string([]byte{byte(i)})
		first, afterName, afterNumber := bad(api.ErrChar, 0), bad(api.ErrChar, 1), bad(api.ErrChar, 1)
		switch {
		case has(letters, b):
			first, afterName, afterNumber = good(list(name(c, 0))), good(list(name("a"+c, 0))), bad(api.ErrNumber, 0)
		case has(digits, b):
			first, afterName, afterNumber = good(list(number(c, 0))), good(list(name("a"+c, 0))), good(list(number("7"+c, 0)))
		case b == '_':
			afterName, afterNumber = good(list(name("a_", 0))), bad(api.ErrNumber, 0)
		case has(symbols, b):
			first, afterName, afterNumber = good(list(symbol(c, 0))), good(list(name("a", 0), symbol(c, 1))), good(list(number("7", 0), symbol(c, 1)))
		case has(gaps+"#", b):
			first, afterName, afterNumber = good(nil), good(list(name("a", 0))), good(list(number("7", 0)))
		}
		wants(t, c, first)
		wants(t, "a"+c, afterName)
		wants(t, "7"+c, afterNumber)
		afterSymbol := bad(first.err, 1)
		if first.err == api.OK {
			afterSymbol = good(append(list(symbol(";", 0)), shifted(first.tokens, 1)...))
		}
		wants(t, ";"+c, afterSymbol)
	}
}

// P8.1, H1: each byte in a string, after a backslash in a string, and in a comment.
func TestEachByteInside(t *testing.T) {
	pairs := map[byte]string{'\\': "\\", '"': "\"", 'n': "\n"}
	for i := range 256 {
		b, c := byte(i), string([]byte{byte(i)})
		inString, inComment := good(list(text("x"+c+"y", 0))), good(list(name("d", 4)))
		switch b {
		case '"':
			inString = bad(api.ErrChar, 4)
		case '\\', '\n':
			inString = bad(api.ErrChar, 0)
		}
		if b == '\n' {
			inComment = good(list(name("b", 2), name("d", 4)))
		}
		wants(t, `"x`+c+`y"`, inString)
		wants(t, "#"+c+"b\nd", inComment)
		pair := bad(api.ErrChar, 0)
		if s, ok := pairs[b]; ok {
			pair = good(list(text("x"+s+"y", 0)))
		}
		wants(t, `"x\`+c+`y"`, pair)
	}
}

// P8.1, H1: all texts of two bytes, and all short ones of the bytes that matter, as the plain lexer has them.
func TestShortTexts(t *testing.T) {
	errors := map[api.Errno]int{}
	check := func(s string) {
		got, want := lex(s), plainLex(s)
		if !got.is(want) {
			t.Fatalf("Lex(%q) = %v, want %v", s, got, want)
		}
		errors[got.err]++
	}
	for i := range 1 << 16 {
		check(string([]byte{byte(i >> 8), byte(i)}))
	}
	allTexts("a7_\"\\n\n# ;!", 5, check)
	for _, e := range []api.Errno{api.OK, api.ErrChar, api.ErrNumber} {
		if errors[e] < 1000 {
			t.Errorf("only %d texts with %d", errors[e], e)
		}
	}
}

// P8.1, H1: random texts, as the plain lexer has them.
func TestRandomTexts(t *testing.T) {
	r := rand.New(rand.NewSource(81))
	errors := map[api.Errno]int{}
	for range 20000 {
		s := pick(r, someBytes(r, 30), someText(r, 20), someWrong(r), someText(r, 5)+someBytes(r, 4)+someText(r, 5))
		want := plainLex(s)
		errors[want.err]++
		if got := lex(s); !got.is(want) {
			t.Fatalf("Lex(%q) = %v, want %v", s, got, want)
		}
	}
	for _, e := range []api.Errno{api.OK, api.ErrChar, api.ErrNumber, api.ErrLimit} {
		if errors[e] < 500 {
			t.Errorf("only %d texts with %d", errors[e], e)
		}
	}
}

// P8.1, H1: texts of 20000 bytes, and longer ones, whatever is in them.
func TestBytesLimit(t *testing.T) {
	for _, unit := range []string{" ", "\n", "#", "! ", "7", "a", ";", `"`, "\xff", "a ", `"x" `, "\x00"} {
		for _, n := range []int{maxBytes + 1, maxBytes + 2, 2 * maxBytes, 1 << 16, 1<<16 + 5} {
			wants(t, repeat(unit, n)[:n], bad(api.ErrLimit, -1))
		}
		full := repeat(unit, maxBytes)[:maxBytes]
		if want := plainLex(full); want.at != -1 {
			wants(t, full, want)
		} else {
			t.Errorf("%q: no text of 20000 bytes", unit)
		}
	}
	wants(t, repeat(" ", maxBytes-1)+"a", good(list(name("a", maxBytes-1))))
	wants(t, "a"+repeat("\n", maxBytes-1), good(list(name("a", 0))))
	wants(t, "7#"+repeat("x", maxBytes-2), good(list(number("7", 0))))
	wants(t, `"`+repeat("x", maxBytes-2)+`"`, good(list(text(repeat("x", maxBytes-2), 0))))
	wants(t, `"`+repeat(`\n`, maxBytes/2-1)+`"`, good(list(text(repeat("\n", maxBytes/2-1), 0))))
	wants(t, `"`+repeat("x", maxBytes-1), bad(api.ErrChar, 0))
	wants(t, repeat(" ", maxBytes-1)+"!", bad(api.ErrChar, maxBytes-1))
	wants(t, repeat(" ", maxBytes-1)+`"`, bad(api.ErrChar, maxBytes-1))
}

// P8.1, H1: 5000 tokens are not too many; the 5001st one is, if it is one.
func TestTokensLimit(t *testing.T) {
	for _, unit := range []string{";", "a ", "7,", `"" `, "x\n", "1#\n", `""`, "; \t"} {
		one := tokensOf(t, unit)
		full := repeat(unit, maxTokens/len(one))
		tokens := tokensOf(t, full)
		if len(tokens) != maxTokens {
			t.Fatalf("%q: %d tokens", unit, len(tokens))
		}
		for i := range tokens {
			if want := one[i%len(one)]; tokens[i] != (api.Token{Kind: want.Kind, Text: want.Text, At: i/len(one)*len(unit) + want.At}) {
				t.Fatalf("%q: token %d is %q at %d", unit, i, tokens[i].Text, tokens[i].At)
			}
		}
		n := len(full)
		for _, gap := range []string{" ", "\n", "#", "#x", " \n# 7x !"} {
			wants(t, full+gap, good(tokens))
		}
		for _, next := range []string{";", "a", "7", `"x"`, repeat("x", 24), "9999999", "; ; ;", "; !", "a 7x", "- \"", "7 " + repeat("x", 25)} {
			wants(t, full+" "+next, bad(api.ErrLimit, n+1))
			wants(t, full+"#\n "+next, bad(api.ErrLimit, n+3))
		}
		for _, next := range []string{"!", "_", `"`, `"\x"`, "\"\n\"", "\r", "! ;"} {
			wants(t, full+" "+next, bad(api.ErrChar, n+1))
		}
		for _, next := range []string{"7x", "12345678", "7_ a"} {
			wants(t, full+"\t"+next, bad(api.ErrNumber, n+1))
		}
		wants(t, full+" !"+repeat(";", 9), bad(api.ErrChar, n+1))
		wants(t, "! "+full+";", bad(api.ErrChar, 0))
	}
}

// P8.1, H1: names of 24 bytes are not too long, and numbers of 7 digits are not; longer ones are, whatever follows them.
func TestTokenLimits(t *testing.T) {
	for _, before := range []string{"", " ", "\n", ";", "a ", `""`, "#x\n"} {
		first, at := tokensOf(t, before), len(before)
		for n := 1; n <= 60; n++ {
			for _, s := range []string{repeat("x", n), "Z" + repeat("_", n-1), "k" + repeat("9", n-1)} {
				want := bad(api.ErrLimit, at)
				if n <= maxName {
					want = good(append(slices.Clone(first), name(s, at)))
				}
				wants(t, before+s, want)
				wants(t, before+s+" ", want)
			}
			if n > maxName {
				wants(t, before+repeat("x", n)+"!", bad(api.ErrLimit, at))
			}
			digits := repeat("0123456789", 6)[:n]
			want := bad(api.ErrNumber, at)
			if n <= 7 {
				want = good(append(slices.Clone(first), number(digits, at)))
			}
			wants(t, before+digits, want)
			wants(t, before+digits+"\t", want)
			for _, next := range []string{"a", "Z", "_", "x!", "_;", repeat("x", 25)} {
				wants(t, before+digits+next, bad(api.ErrNumber, at))
			}
		}
	}
	for _, n := range []int{255, 256, 257, 280, 281, maxBytes} {
		wants(t, repeat("x", n), bad(api.ErrLimit, 0))
		wants(t, repeat("9", n), bad(api.ErrNumber, 0))
	}
}

// P8.1, H1, P1: of several errors, the first one from left to right counts.
func TestFirstError(t *testing.T) {
	for _, x := range []struct {
		s   string
		err api.Errno
	}{{"!", api.ErrChar}, {`"`, api.ErrChar}, {`"\a"`, api.ErrChar}, {"7x", api.ErrNumber}, {"12345678", api.ErrNumber}, {repeat("x", 25), api.ErrLimit}} {
		for _, other := range []string{"!", `"`, "7x", "12345678", repeat("y", 25), repeat(";", 5001), `"b"`} {
			wants(t, x.s+"\n"+other, bad(x.err, 0))
			wants(t, "a \n"+x.s+"\n"+other, bad(x.err, 3))
		}
	}
}

// P8.2: tokens stand at their offsets, one behind the other, with nothing but gaps between them.
func TestPlaces(t *testing.T) {
	r := rand.New(rand.NewSource(82))
	onlyGap := func(s string) bool { return len(plainGap.FindString(s)) == len(s) }
	for range 5000 {
		s := someText(r, 30)
		end := 0
		for i, k := range tokensOf(t, s) {
			// A comment between two tokens has ended with a line feed.
			if k.At < end || !onlyGap(s[end:k.At]) || i > 0 && strings.LastIndexByte(s[end:k.At], '#') > strings.LastIndexByte(s[end:k.At], '\n') {
				t.Fatalf("%q: no gap before %q at %d", s, k.Text, k.At)
			}
			if !strings.HasPrefix(s[k.At:], spelling(k)) {
				t.Fatalf("%q: %q is not at %d", s, k.Text, k.At)
			}
			if k.Kind == api.TokenString && !strings.HasPrefix(s[k.At:], lexer.Quote(k.Text)) {
				t.Fatalf("%q: %q at %d is not as Quote writes it", s, k.Text, k.At)
			}
			end = k.At + len(spelling(k))
		}
		if !onlyGap(s[end:]) {
			t.Fatalf("%q: no gap from %d on", s, end)
		}
	}
}

// P8.3: tokens that are written with one blank after each are read again.
func TestAgain(t *testing.T) {
	r := rand.New(rand.NewSource(83))
	for i := range 5000 {
		s := someText(r, 1+i/50)
		tokens := tokensOf(t, s)
		again := ""
		for _, k := range tokens {
			if k.Kind == api.TokenString {
				again += lexer.Quote(k.Text) + " "
			} else {
				again += k.Text + " "
			}
		}
		if len(again) > maxBytes {
			t.Fatal("the text is too long for this test")
		}
		if got := tokensOf(t, again); !slices.Equal(placeless(got), placeless(tokens)) {
			t.Fatalf("%q: %v, but %q: %v", s, good(tokens), again, good(got))
		}
	}
}

// P8.4: the tokens of two texts with a line feed between them.
func TestParts(t *testing.T) {
	r := rand.New(rand.NewSource(84))
	for range 5000 {
		a, b := someText(r, 12), someText(r, 12)
		want := append(slices.Clone(tokensOf(t, a)), shifted(tokensOf(t, b), len(a)+1)...)
		if got := tokensOf(t, a+"\n"+b); !slices.Equal(got, want) {
			t.Fatalf("%q and %q: %v, want %v", a, b, good(got), good(want))
		}
	}
	half := repeat("; ", 2500)
	if got := tokensOf(t, half+"\n"+half); len(got) != maxTokens {
		t.Errorf("%d tokens", len(got))
	}
	wants(t, half+"\n"+half+"\n;", bad(api.ErrLimit, 10002))
	long := `"` + repeat("x", 9998) + `"`
	wants(t, long+"\n"+long, bad(api.ErrLimit, -1))
}

// P8.5: a text before an error has none, and the text from there on has the same one.
func TestBeginnings(t *testing.T) {
	r := rand.New(rand.NewSource(85))
	found := map[api.Errno]int{}
	check := func(s string) {
		got := lex(s)
		if got.err == api.OK || got.at == -1 {
			return
		}
		found[got.err]++
		if a := lex(s[:got.at]); a.err != api.OK {
			t.Fatalf("%q: %d at %d, but before it %d", s, got.err, got.at, a.err)
		}
		if b := lex(s[got.at:]); b.err != got.err || b.at != 0 {
			t.Fatalf("%q: %d at %d, but from there on %d at %d", s, got.err, got.at, b.err, b.at)
		}
	}
	for range 5000 {
		check(someWrong(r))
		check(someBytes(r, 12))
	}
	allTexts("a7_\"\\\n#!", 4, check)
	for _, e := range []api.Errno{api.ErrChar, api.ErrNumber, api.ErrLimit} {
		if found[e] < 100 {
			t.Errorf("only %d texts with %d", found[e], e)
		}
	}
	full := repeat("a ", 5000)
	wants(t, full+"b", bad(api.ErrLimit, 10000))
	if got := tokensOf(t, full); len(got) != maxTokens {
		t.Errorf("%d tokens", len(got))
	}
}

// P8.6: gaps at the beginning, at the end and after tokens change nothing but offsets.
func TestGaps(t *testing.T) {
	r := rand.New(rand.NewSource(86))
	for range 3000 {
		s := someText(r, 12)
		tokens := tokensOf(t, s)
		wants(t, s+pick(r, someGap(r), "\n#7x", "\n#", " ", "#"), good(tokens))
		gap := someGap(r)
		wants(t, gap+s, good(shifted(tokens, len(gap))))
		for i, k := range tokens {
			end := k.At + len(spelling(k))
			want := append(slices.Clone(tokens[:i+1]), shifted(tokens[i+1:], len(gap))...)
			wants(t, s[:end]+gap+s[end:], good(want))
		}
		if t.Failed() {
			t.FailNow()
		}
	}
}

// P8.6: such gaps change nothing but the offset of an error.
func TestGapsBeforeErrors(t *testing.T) {
	r := rand.New(rand.NewSource(87))
	for range 3000 {
		s := someWrong(r)
		was, gap := lex(s), someGap(r)
		wants(t, gap+s, bad(was.err, was.at+len(gap)))
		for _, k := range tokensOf(t, s[:was.at]) {
			end := k.At + len(spelling(k))
			wants(t, s[:end]+gap+s[end:], bad(was.err, was.at+len(gap)))
		}
		wants(t, s+pick(r, " ", "\t", "\n"), was)
		if t.Failed() {
			t.FailNow()
		}
	}
}

// P8.7, H2: strings that come from another program.
func TestKnownQuotes(t *testing.T) {
	for s, want := range map[string]string{
		"": `""`, "a": `"a"`, " ": `" "`, "\n": `"\n"`, `\`: `"\\"`, `"`: `"\""`, `\n`: `"\\n"`, `\"`: `"\\\""`, `""`: `"\"\""`, "\\\n": `"\\\n"`,
		"A \"B\"": `"A \"B\""`, "a\tb\rc": "\"a\tb\rc\"", "#x": `"#x"`, "\x00\xff\xc3": "\"\x00\xff\xc3\"", "caf\xc3\xa9": "\"caf\xc3\xa9\"", "\n\n\"\\": `"\n\n\"\\"`,
	} {
		if got := lexer.Quote(s); got != want {
			t.Errorf("Quote(%q) = %q, want %q", s, got, want)
		}
	}
	for i := range 256 {
		s := string([]byte{byte(i)})
		want := `"` + s + `"`
		switch byte(i) {
		case '"', '\\':
			want = `"\` + s + `"`
		case '\n':
			want = `"\n"`
		}
		if got := lexer.Quote(s); got != want {
			t.Errorf("Quote(%q) = %q, want %q", s, got, want)
		}
	}
}

// P8.7: what Quote returns is one string that stands for the text; different texts have different ones.
func TestQuotes(t *testing.T) {
	r := rand.New(rand.NewSource(88))
	of := map[string]string{}
	check := func(s string) {
		q := lexer.Quote(s)
		if other, ok := of[q]; ok && other != s {
			t.Fatalf("%q and %q have the same string", s, other)
		}
		of[q] = s
		if q != written(s) {
			t.Fatalf("Quote(%q) = %q, want %q", s, q, written(s))
		}
		if got := lex(q); !got.is(good(list(text(s, 0)))) {
			t.Fatalf("Quote(%q) = %q has %v", s, q, got)
		}
	}
	allTexts("\"\\n\n#a \x00", 5, check)
	for i := range 1 << 16 {
		check(string([]byte{byte(i >> 8), byte(i)}))
	}
	for range 5000 {
		check(someBytes(r, 60))
	}
	check(repeat("x", maxBytes-2))
	check(repeat("\n", maxBytes/2-1))
}

// P8.8, H3: which texts are names.
func TestKnownNames(t *testing.T) {
	for s, want := range map[string]bool{
		"": false, "a": true, "Z": true, "_": false, "0": false, "a0": true, "a_": true, "A_b9": true, "_a": false, "9a": false, " a": false, "a ": false, "a b": false, "a\n": false, "\na": false, "a\x00": false, "a-b": false, "a.b": false,
		`"a"`: false, "a#": false, "#a": false, "\xc3\xa9": false, "a\xc3\xa9": false, "\xffa": false, "\uff21": false, "a\u0660": false, ";": false, "7": false,
		"way": true, "always": true, "abcdefghijklmnopqrstuvwx": true, "abcdefghijklmnopqrstuvwxy": false, "Z_3456789012345678901234": true, "Z_34567890123456789012345": false,
	} {
		if got := lexer.Name(s); got != want {
			t.Errorf("Name(%q) = %v", s, got)
		}
	}
	for n := range 600 {
		if got := lexer.Name(repeat("n", n)); got != (1 <= n && n <= maxName) {
			t.Errorf("%d bytes: %v", n, got)
		}
	}
	long := "abcdefghijklmnopqrstuvwx"
	for i := range long {
		for b := range 256 {
			s := long[:i] + string([]byte{byte(b)}) + long[i+1:]
			if got := lexer.Name(s); got != (isWord(byte(b)) && (i > 0 || has(letters, byte(b)))) {
				t.Errorf("Name(%q) = %v", s, got)
			}
		}
	}
}

// P8.8: a text is a name exactly if it is one token with this kind and text.
func TestNames(t *testing.T) {
	r := rand.New(rand.NewSource(89))
	names := 0
	check := func(s string) {
		got := lexer.Name(s)
		if got != lex(s).is(good(list(name(s, 0)))) {
			t.Fatalf("Name(%q) = %v, but it has %v", s, got, lex(s))
		}
		if got {
			names++
		}
	}
	allTexts("aZ9_ \"\n#-\xc3", 4, check)
	for i := range 1 << 16 {
		check(string([]byte{byte(i >> 8), byte(i)}))
	}
	for range 5000 {
		s := someName(r)
		check(s)
		check(s + string(pickByte(r, letters)))
		check(s[:len(s)-1] + string([]byte{byte(r.Intn(256))}))
		check(someBytes(r, 30))
	}
	if names < 5000 {
		t.Errorf("only %d names", names)
	}
}

// P1: long arguments are answered, too.
func TestLongArguments(t *testing.T) {
	const long = 1 << 22
	for _, unit := range []string{"a", `"`, "\n", "\\", "#"} {
		s := repeat(unit, long)
		wants(t, s, bad(api.ErrLimit, -1))
		if lexer.Name(s) {
			t.Errorf("%d times %q is a name", long, unit)
		}
		if lexer.Quote(s) != written(s) {
			t.Errorf("%d times %q is not written as it should be", long, unit)
		}
	}
}

// P3: equal calls yield equal results, at whatever place in memory the texts are, and whatever became of the results before.
func TestIndependence(t *testing.T) {
	r := rand.New(rand.NewSource(90))
	for range 500 {
		s := pick(r, someText(r, 12), someWrong(r))
		first := lex(s)
		want := answer{slices.Clone(first.tokens), first.err, first.at}
		clear(first.tokens[:cap(first.tokens)])
		lex(someWrong(r))
		wants(t, strings.Clone(s), want)
		wants(t, (s + "!")[:len(s)], want)
		if lexer.Quote(s) != lexer.Quote(strings.Clone(s)) || lexer.Name(s) != lexer.Name(strings.Clone(s)) {
			t.Errorf("%q is not always the same", s)
		}
	}
}
