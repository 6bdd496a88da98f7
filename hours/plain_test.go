package hours_test

import (
	"fmt"
	"math/rand"
	"regexp"
	"slices"
	"strconv"
	"strings"
	"testing"

	"planisphere/api"
	"planisphere/hours"
	"planisphere/lexer"
)

// The limits of the chapter, as it writes them.
const (
	week       = 10080
	day        = 1440
	maxSpans   = 60
	maxBytes   = 20000
	maxTokens  = 5000
	lastMinute = 1000000000
)

var dayNames = []string{"mo", "tu", "we", "th", "fr", "sa", "su"}

func repeat(s string, n int) string      { return strings.Repeat(s, n) }
func head(s string) string               { return s[:min(len(s), 300)] }
func pick[T any](r *rand.Rand, l ...T) T { return l[r.Intn(len(l))] }
func some(l []api.Span) string           { return head(fmt.Sprintf("%d spans %v", len(l), l)) }

// list returns the spans with these ends, two for each.
func list(l ...int) []api.Span {
	var spans []api.Span
	for c := range slices.Chunk(l, 2) {
		spans = append(spans, api.Span{From: c[0], To: c[1]})
	}
	return spans
}

// run returns some spans of equal lengths, each that many minutes after the end of the one before.
func run(from, n, length, gap int) []api.Span {
	var spans []api.Span
	for range n {
		spans = append(spans, api.Span{From: from, To: from + length})
		from += length + gap
	}
	return spans
}

// result is what Parse returns.
type result struct {
	l   []api.Span
	err api.Errno
	at  int
}

func (x result) is(y result) bool { return slices.Equal(x.l, y.l) && x.err == y.err && x.at == y.at }
func (x result) String() string   { return fmt.Sprintf("%s, %d at %d", some(x.l), x.err, x.at) }

func good(l ...int) result             { return result{l: list(l...)} }
func bad(err api.Errno, at int) result { return result{err: err, at: at} }
func parse(text string) result         { l, e, at := hours.Parse(text); return result{l, e, at} }

func wants(t *testing.T, text string, want result) {
	t.Helper()
	if got := parse(text); !got.is(want) {
		t.Errorf("Parse(%q) = %v, want %v", head(text), got, want)
	}
}

func wantsText(t *testing.T, l []api.Span, want string, err api.Errno) {
	t.Helper()
	if got, e := hours.Text(l); got != want || e != err {
		t.Errorf("Text(%s) = %q, %d, want %q, %d", some(l), head(got), e, head(want), err)
	}
}

func wantsValid(t *testing.T, l []api.Span, want bool) {
	t.Helper()
	if got := hours.Valid(l); got != want {
		t.Errorf("Valid(%s) = %v", some(l), got)
	}
}

// wantsNext checks Next and Open.
func wantsNext(t *testing.T, l []api.Span, minute, want int, found bool) {
	t.Helper()
	if got, ok := hours.Next(l, minute); got != want || ok != found {
		t.Errorf("Next(%s, %d) = %d, %v, want %d, %v", some(l), minute, got, ok, want, found)
	}
	if got := hours.Open(l, minute); got != (found && want == minute) {
		t.Errorf("Open(%s, %d) = %v", some(l), minute, got)
	}
}

// wantsSets checks Both and Either, for both orders of two lists.
func wantsSets(t *testing.T, a, b, both, either []api.Span) {
	t.Helper()
	for range 2 {
		if got := hours.Both(a, b); !slices.Equal(got, both) {
			t.Errorf("Both(%s, %s) = %s, want %s", some(a), some(b), some(got), some(both))
		}
		if got := hours.Either(a, b); !slices.Equal(got, either) {
			t.Errorf("Either(%s, %s) = %s, want %s", some(a), some(b), some(got), some(either))
		}
		a, b = b, a
	}
}

func wantsNot(t *testing.T, l, want []api.Span) {
	t.Helper()
	if got := hours.Not(l); !slices.Equal(got, want) {
		t.Errorf("Not(%s) = %s, want %s", some(l), some(got), some(want))
	}
}

// parsed returns what Parse returns where it has no error.
func parsed(t *testing.T, text string) []api.Span {
	t.Helper()
	l, e, at := hours.Parse(text)
	if e != api.OK || at != 0 {
		t.Fatalf("Parse(%q): %d at %d", head(text), e, at)
	}
	return l
}

// textOf returns what Text returns where it has no error.
func textOf(t *testing.T, l []api.Span) string {
	t.Helper()
	s, e := hours.Text(l)
	if e != api.OK {
		t.Fatalf("Text(%s): %d", some(l), e)
	}
	return s
}

// minutes are a set of minutes of the week.
type minutes [week]bool

// minutesOf returns the minutes of spans, as far as the week has them.
func minutesOf(l []api.Span) *minutes {
	var m minutes
	for _, s := range l {
		for i := max(s.From, 0); i < min(s.To, week); i++ {
			m[i] = true
		}
	}
	return &m
}

// list returns the list of a set: there is one span for each minute that is in it while the one before is not.
func (m *minutes) list() []api.Span {
	var l []api.Span
	for i, in := range m {
		if in && (i == 0 || !m[i-1]) {
			l = append(l, api.Span{From: i, To: i})
		}
		if in {
			l[len(l)-1].To = i + 1
		}
	}
	return l
}

// with returns what a function says of each minute of two sets.
func (m *minutes) with(other *minutes, f func(a, b bool) bool) []api.Span {
	var is minutes
	for i := range m {
		is[i] = f(m[i], other[i])
	}
	return is.list()
}

// plainValid returns what Valid should return: each set of minutes has exactly one valid list.
func plainValid(l []api.Span) bool {
	for _, s := range l {
		if s.From < 0 || s.To > week {
			return false
		}
	}
	return slices.Equal(minutesOf(l).list(), l)
}

// plainNext returns what Next should return for a valid list and a minute that may be asked for: it tries the minutes of a week.
func plainNext(l []api.Span, minute int) (int, bool) {
	m := minutesOf(l)
	for i := minute; i < minute+week; i++ {
		if m[i%week] {
			return i, true
		}
	}
	return 0, false
}

// plainText returns the text of a valid list of at most 60 spans: it ends a time where a day or a span ends.
func plainText(l []api.Span) string {
	if len(l) == 0 {
		return "never"
	}
	if slices.Equal(l, list(0, week)) {
		return "always"
	}
	var times []string
	m := minutesOf(l)
	for d, name := range dayNames {
		for i := 0; i < day; i++ {
			from := i
			for i < day && m[d*day+i] {
				i++
			}
			if i > from {
				times = append(times, fmt.Sprintf("%s %d:%02d-%d:%02d", name, from/60, from%60, i/60, i%60))
			}
		}
	}
	return strings.Join(times, ", ")
}

// The classes of tokens: a for always and never, d for a day, n for a number, and the three symbols; x for any other one.
var (
	wholeText = regexp.MustCompile(`^(a|d(-d)?n:n-n:n(,(d(-d)?)?n:n-n:n)*)$`)
	endings   = []string{"a", "d-dn:n-n:n", "dn:n-n:n", ",n:n-n:n"}
	begun     = map[string]bool{}
)

func classOf(t api.Token) string {
	switch {
	case t.Kind == api.TokenName && (t.Text == "always" || t.Text == "never"):
		return "a"
	case t.Kind == api.TokenName && slices.Contains(dayNames, t.Text):
		return "d"
	case t.Kind == api.TokenNumber:
		return "n"
	case t.Kind == api.TokenSymbol && strings.Contains("-:,", t.Text):
		return t.Text
	}
	return "x"
}

// begins reports whether tokens begin a text of the grammar: whether one of some endings makes them one.
func begins(classes string) bool {
	begin, known := begun[classes]
	if !known {
		for _, e := range endings {
			for i := range len(e) + 1 {
				begin = begin || wholeText.MatchString(classes+e[i:])
			}
		}
		begun[classes] = begin
	}
	return begin
}

// plainParse returns what Parse should return.
func plainParse(text string) result {
	tokens, e, at := lexer.Lex(text)
	if e != api.OK {
		return bad(e, at)
	}
	classes := ""
	for i, t := range tokens {
		classes += classOf(t)
		if !begins(classes) {
			return bad(api.ErrSyntax, t.At)
		}
		if at := wrongNumber(tokens[:i+1], classes); at >= 0 {
			return bad(api.ErrRange, at)
		}
	}
	if !wholeText.MatchString(classes) {
		return bad(api.ErrEnd, len(text))
	}
	l := meant(tokens, classes).list()
	if len(l) > maxSpans {
		return bad(api.ErrLimit, len(text))
	}
	return result{l: l}
}

// wrongNumber returns the offset of a number that is out of range if the last one of some tokens shows it, and -1 otherwise.
func wrongNumber(tokens []api.Token, classes string) int {
	last := len(tokens) - 1
	number := func(back int) int { return numberOf(tokens[last-back]) }
	switch {
	case strings.HasSuffix(classes, ":n"):
		if !isMinute(tokens[last], number(2)) {
			return tokens[last].At
		}
		if strings.HasSuffix(classes, "n:n-n:n") && number(6) == number(2) && number(4) == number(0) {
			return tokens[last-2].At
		}
	case strings.HasSuffix(classes, "n-n") && number(0) > 24, strings.HasSuffix(classes, "dn") && number(0) > 23, strings.HasSuffix(classes, ",n") && number(0) > 23:
		return tokens[last].At
	}
	return -1
}

func numberOf(t api.Token) int {
	n, _ := strconv.Atoi(t.Text)
	return n
}

// isMinute reports whether a token is the number of the minutes after some hours.
func isMinute(t api.Token, hour int) bool {
	return len(t.Text) == 2 && t.Text < "60" && (hour < 24 || t.Text == "00")
}

// meant returns the minutes of a text of the grammar whose numbers are in range: for each time, it goes from minute to minute until the clock shows the end.
func meant(tokens []api.Token, classes string) *minutes {
	var m minutes
	if tokens[0].Text == "always" {
		return minutesOf(list(0, week))
	}
	var first, last int
	for i, t := range tokens {
		if d := slices.Index(dayNames, t.Text); d >= 0 {
			if last = d; i == 0 || classes[i-1] != '-' {
				first = d
			}
		}
		if strings.HasPrefix(classes[i:], "n:n-n:n") {
			from, to := 60*numberOf(t)+numberOf(tokens[i+2]), 60*numberOf(tokens[i+4])+numberOf(tokens[i+6])
			for _, d := range daysOf(first, last) {
				for i := d*day + from; i != d*day+to && i != d*day+day+to; i++ {
					m[i%week] = true
				}
			}
		}
	}
	return &m
}

// daysOf returns the days from a first to a last one.
func daysOf(first, last int) []int {
	if last < first {
		return slices.Concat(daysOf(first, 6), daysOf(0, last))
	}
	var l []int
	for d := first; d <= last; d++ {
		l = append(l, d)
	}
	return l
}

// someClock returns the text of a minute of the day, sometimes with further zeros.
func someClock(r *rand.Rand, minute int) string {
	return pick(r, "", "", "", "0", "00") + fmt.Sprintf("%d:%02d", minute/60, minute%60)
}

// someTime returns a time, of a few minutes only if it is to be short.
func someTime(r *rand.Rand, short bool) string {
	from := pick(r, r.Intn(day), 30*r.Intn(48), 0, day-1)
	to := (from + 1 + r.Intn(9)) % day
	if !short {
		to = pick(r, to, r.Intn(day+1), 30*r.Intn(49), max(from-1, 0), 0, day)
	}
	if to == from {
		to = from + 1
	}
	return someClock(r, from) + "-" + someClock(r, to)
}

// someParts returns a text of some parts.
func someParts(r *rand.Rand, most int) string {
	var parts []string
	short := r.Intn(2) == 0
	for range 1 + r.Intn(most) {
		days := pick(r, dayNames...) + pick(r, "", "-"+pick(r, dayNames...)) + " "
		for range 1 + r.Intn(3) {
			parts = append(parts, days+someTime(r, short))
			days = ""
		}
	}
	return strings.Join(parts, pick(r, ",", ", "))
}

// someGap returns a gap that is not empty.
func someGap(r *rand.Rand) string {
	return pick(r, " ", "  ", "\t", "\n", "# mo 1:00-2:00\n", "#\n", " # \" !\n\t")
}

// someList returns a valid list of about some spans, or less.
func someList(r *rand.Rand, most int) []api.Span {
	var m minutes
	for range r.Intn(most + 1) {
		from := pick(r, r.Intn(week), day*r.Intn(7), 0)
		to := min(week, from+1+pick(r, r.Intn(90), r.Intn(week), r.Intn(3), day-1, week))
		for i := from; i < to; i++ {
			m[i] = true
		}
	}
	for range r.Intn(3) {
		m[r.Intn(week)] = false
	}
	return m.list()
}

// someMany returns a valid list of many spans.
func someMany(r *rand.Rand) []api.Span {
	var m minutes
	for i := range m {
		m[i] = r.Intn(2) == 0
	}
	return m.list()
}

// wrong returns lists of spans that are not valid, most of them for one reason only.
func wrong() [][]api.Span {
	const least, greatest = -1 << 63, 1<<63 - 1
	lists := [][]api.Span{
		list(-1, 5), list(-5, -1), list(-1, 0), list(5, 5), list(0, 0), list(week, week), list(6, 5), list(week, 0), list(0, week+1), list(week, week+1), list(week-1, week+1), list(week+5, week+9),
		list(0, 5, 5, 9), list(0, 5, 4, 9), list(0, 5, 0, 5), list(0, 5, 1, 2), list(9, 12, 0, 5), list(9, 12, 0, 9), list(0, 9, 20, 30, 10, 15), list(0, 9, 20, 30, 30, 40), list(0, 9, 20, 20, 30, 40),
		list(least, 5), list(5, least), list(greatest, 5), list(5, greatest), list(least, greatest), list(greatest, least), list(least, least), list(greatest, greatest), list(1<<32, 1<<32+5), list(1<<32+5, 1<<33), list(0, 1<<32+5), list(-1<<32, 5),
		list(0, 5, 9, greatest), list(0, 5, least, 9), list(0, greatest, 9, 12), list(least, 5, 9, 12), list(-week, 0), list(-week, 5), list(week-5, week, week+5, week+9), list(0, week, 0, week),
		append(run(0, 70, 5, 5), api.Span{From: 3, To: 9}), run(0, week/2+1, 1, 1), run(0, week, 1, 0), run(-1, 60, 5, 5), append(run(0, 61, 5, 5), api.Span{}),
	}
	// The one that is not valid has any place.
	for i := range maxSpans {
		for _, s := range []api.Span{{}, {From: 20 * i, To: 20 * i}, {From: -1, To: 5}, {From: 20*i + 5, To: 20*i + 3}, {From: 20 * i, To: week + 1}} {
			l := run(0, maxSpans, 10, 10)
			l[i] = s
			lists = append(lists, l)
		}
	}
	return lists
}

// wrongMinutes are not from 0 to 1000000000.
func wrongMinutes() []int {
	return []int{-1, -5, -week, -week + 5, lastMinute + 1, lastMinute + week, 1 << 32, 1<<32 + 5, -1 << 32, -1 << 63, 1<<63 - 1}
}
