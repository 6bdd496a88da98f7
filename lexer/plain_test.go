package lexer_test

import (
	"fmt"
	"math/rand"
	"regexp"
	"slices"
	"strings"
	"testing"

	"planisphere/api"
	"planisphere/lexer"
)

// The limits of the chapter, as it writes them.
const (
	maxBytes  = 20000
	maxTokens = 5000
	maxName   = 24
)

const (
	letters = "ABCDEFGHIJKLMNOPQRSTUVWXYZabcdefghijklmnopqrstuvwxyz"
	digits  = "0123456789"
	symbols = ";,.:(){}[]=<>/-"
	gaps    = " \t\n"
)

func list(l ...api.Token) []api.Token { return l }
func name(s string, at int) api.Token { return api.Token{Kind: api.TokenName, Text: s, At: at} }
func number(s string, at int) api.Token {
	return api.Token{Kind: api.TokenNumber, Text: s, At: at}
}
func text(s string, at int) api.Token   { return api.Token{Kind: api.TokenString, Text: s, At: at} }
func symbol(s string, at int) api.Token { return api.Token{Kind: api.TokenSymbol, Text: s, At: at} }

// answer is what Lex returns.
type answer struct {
	tokens []api.Token
	err    api.Errno
	at     int
}

func (a answer) is(b answer) bool {
	return slices.Equal(a.tokens, b.tokens) && a.err == b.err && a.at == b.at
}

func (a answer) String() string {
	s := fmt.Sprintf("%d tokens, error %d at %d", len(a.tokens), a.err, a.at)
	for _, k := range a.tokens[:min(len(a.tokens), 9)] {
		s += fmt.Sprintf(", %d %q at %d", k.Kind, head(k.Text), k.At)
	}
	return s
}

func good(l []api.Token) answer            { return answer{l, api.OK, 0} }
func bad(e api.Errno, at int) answer       { return answer{nil, e, at} }
func has(bytes string, b byte) bool        { return strings.IndexByte(bytes, b) >= 0 }
func isWord(b byte) bool                   { return has(letters+digits+"_", b) }
func head(s string) string                 { return s[:min(len(s), 60)] }
func repeat(s string, n int) string        { return strings.Repeat(s, n) }
func written(s string) string              { return `"` + plainPairs.Replace(s) + `"` }
func pick[T any](r *rand.Rand, l ...T) T   { return l[r.Intn(len(l))] }
func pickByte(r *rand.Rand, s string) byte { return s[r.Intn(len(s))] }

// lex returns what Lex returns.
func lex(s string) answer {
	tokens, e, at := lexer.Lex(s)
	return answer{tokens, e, at}
}

// tokensOf returns the tokens of a text that has no error.
func tokensOf(t *testing.T, s string) []api.Token {
	t.Helper()
	a := lex(s)
	if a.err != api.OK || a.at != 0 {
		t.Fatalf("Lex(%q): %d at %d", head(s), a.err, a.at)
	}
	return a.tokens
}

// wants checks what Lex returns.
func wants(t *testing.T, s string, want answer) {
	t.Helper()
	if got := lex(s); !got.is(want) {
		t.Errorf("Lex(%q), of %d bytes: %v, want %v", head(s), len(s), got, want)
	}
}

var (
	plainGap    = regexp.MustCompile(`^(?:[ \t\n]|#[^\n]*)*`)
	plainName   = regexp.MustCompile(`^[A-Za-z][A-Za-z0-9_]*`)
	plainNumber = regexp.MustCompile(`^[0-9]+`)
	plainString = regexp.MustCompile(`^"(?:[^"\\\n]|\\["\\n])*"`)
	plainSymbol = regexp.MustCompile(`^[;,.:(){}\[\]=<>/\-]`)
	plainPairs  = strings.NewReplacer(`\`, `\\`, `"`, `\"`, "\n", `\n`)
	plainBytes  = strings.NewReplacer(`\\`, `\`, `\"`, `"`, `\n`, "\n")
)

// plainToken returns the first token of a text that begins with no gap, and the number of its bytes.
func plainToken(s string) (api.Token, int, api.Errno) {
	if m := plainName.FindString(s); m != "" {
		if len(m) > maxName {
			return api.Token{}, 0, api.ErrLimit
		}
		return name(m, 0), len(m), api.OK
	}
	if m := plainNumber.FindString(s); m != "" {
		if len(m) > 7 || len(m) < len(s) && isWord(s[len(m)]) {
			return api.Token{}, 0, api.ErrNumber
		}
		return number(m, 0), len(m), api.OK
	}
	if m := plainString.FindString(s); m != "" {
		return text(plainBytes.Replace(m[1:len(m)-1]), 0), len(m), api.OK
	}
	if m := plainSymbol.FindString(s); m != "" {
		return symbol(m, 0), 1, api.OK
	}
	return api.Token{}, 0, api.ErrChar
}

// plainLex returns what Lex should return: tokens and gaps are cut off the text one by one.
func plainLex(s string) answer {
	if len(s) > maxBytes {
		return bad(api.ErrLimit, -1)
	}
	var tokens []api.Token
	for at := 0; ; {
		at += len(plainGap.FindString(s[at:]))
		if at == len(s) {
			return good(tokens)
		}
		token, n, e := plainToken(s[at:])
		if e != api.OK {
			return bad(e, at)
		}
		if len(tokens) == maxTokens {
			return bad(api.ErrLimit, at)
		}
		token.At = at
		tokens = append(tokens, token)
		at += n
	}
}

// allTexts calls a function for all texts of at most some bytes of an alphabet.
func allTexts(alphabet string, most int, f func(string)) {
	b := make([]byte, 0, most)
	var more func()
	more = func() {
		f(string(b))
		if len(b) < most {
			for i := range len(alphabet) {
				b = append(b, alphabet[i])
				more()
				b = b[:len(b)-1]
			}
		}
	}
	more()
}

// someBytes returns a text of any bytes.
func someBytes(r *rand.Rand, most int) string {
	b := make([]byte, r.Intn(most+1))
	for i := range b {
		b[i] = byte(r.Intn(256))
		if r.Intn(3) == 0 {
			b[i] = pickByte(r, "\"\\\nn# a7")
		}
	}
	return string(b)
}

// someName returns a name, often one of 1 or of 24 bytes.
func someName(r *rand.Rand) string {
	b := []byte{pickByte(r, letters)}
	for n := pick(r, 0, 1, 5, maxName-1, r.Intn(maxName)); len(b) <= n; {
		b = append(b, pickByte(r, letters+digits+"_"))
	}
	return string(b)
}

// someSpelling returns a token as it may stand in a text.
func someSpelling(r *rand.Rand) string {
	switch r.Intn(4) {
	case 0:
		return someName(r)
	case 1:
		return pick(r, "0", "007", "9999999", "0000000", "12", "1440")
	case 2:
		return written(someBytes(r, 9))
	}
	return string(pickByte(r, symbols))
}

// someGap returns a gap that may stand between any two tokens, and in which a comment has ended.
func someGap(r *rand.Rand) string {
	s := ""
	for range 1 + r.Intn(3) {
		s += pick(r, " ", "\t", "\n", "  ", "\n\n", "#\n", "##\n", "# 7x ! \" \\ \xff\x00\n", "#"+strings.ReplaceAll(someBytes(r, 9), "\n", "")+"\n")
	}
	return s
}

// touch reports whether two tokens would be others if nothing were between them.
func touch(a, b string) bool {
	return isWord(a[len(a)-1]) && isWord(b[0])
}

// someText returns a text without an error, which has at most some tokens.
func someText(r *rand.Rand, most int) string {
	s, last := pick(r, "", someGap(r)), ""
	for range r.Intn(most + 1) {
		next := someSpelling(r)
		if last != "" && touch(last, next) || r.Intn(3) > 0 {
			s += someGap(r)
		}
		s += next
		last = next
	}
	return s + pick(r, "", someGap(r), "# 7x", "#")
}

// someWrong returns a text with an error; it may have others after it.
func someWrong(r *rand.Rand) string {
	for {
		s := someText(r, 6) + "\n" + pick(r, "!", "_", "\\", "\x00", "\xff", "\r", "é", "7x", "12_", "12345678", "99999999a", `"`, `"a`, `"a\x"`, `"\`, "\"a\n\"", `"a\"`, repeat("x", 25), repeat("x_9", 20))
		s += pick(r, "", "!", " 7x", someBytes(r, 5), " "+someText(r, 3))
		// What follows a string that has not ended may end it.
		if plainLex(s).err != api.OK {
			return s
		}
	}
}

// spelling returns how a token stands in a text.
func spelling(k api.Token) string {
	if k.Kind == api.TokenString {
		return written(k.Text)
	}
	return k.Text
}

// shifted returns tokens with other offsets.
func shifted(tokens []api.Token, by int) []api.Token {
	l := slices.Clone(tokens)
	for i := range l {
		l[i].At += by
	}
	return l
}

// placeless returns tokens without their offsets.
func placeless(tokens []api.Token) []api.Token {
	l := slices.Clone(tokens)
	for i := range l {
		l[i].At = 0
	}
	return l
}
