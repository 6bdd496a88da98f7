package hours

import (
	"strconv"

	"planisphere/api"
)

// minuteDigits is the number of digits of the minutes of a clock.
const minuteDigits = 2

// The greatest hours of the two clocks of a time.
const (
	lastHour = 23
	endHour  = 24
)

// failure ends reading by a panic: it is the first error, with its offset.
type failure struct {
	err api.Errno
	at  int
}

// tokens are those of a text that are not read yet.
type tokens struct {
	left []api.Token
	end  int // the length of the text
}

// next returns the next token; at the end of the text, one of no kind.
func (t *tokens) next() api.Token {
	if len(t.left) == 0 {
		return api.Token{At: t.end}
	}
	return t.left[0]
}

// accept reads the next token, if it has a kind and a text, and reports whether it has.
func (t *tokens) accept(kind int, text string) bool {
	if next := t.next(); next.Kind != kind || next.Text != text {
		return false
	}
	t.left = t.left[1:]
	return true
}

// symbol reads a symbol, which must be the next token.
func (t *tokens) symbol(text string) {
	if !t.accept(api.TokenSymbol, text) {
		panic(t.unexpected())
	}
}

// number reads a number, which must be the next token, and returns this token and its value.
func (t *tokens) number() (api.Token, int) {
	next := t.next()
	if next.Kind != api.TokenNumber {
		panic(t.unexpected())
	}
	t.left = t.left[1:]
	value, _ := strconv.Atoi(next.Text) // a number token has at most 7 digits
	return next, value
}

// unexpected returns the failure of a next token that may not follow, or of the end of the text.
func (t *tokens) unexpected() failure {
	if len(t.left) == 0 {
		return failure{api.ErrEnd, t.end}
	}
	return failure{api.ErrSyntax, t.next().At}
}

// reader reads the tokens of a text, and collects the spans of its times.
type reader struct {
	tokens
	spans []api.Span
}

// read returns the spans of the times of a text with some tokens and a length: spans of the week, as the times come.
func read(list []api.Token, end int) (spans []api.Span, e api.Errno, at int) {
	defer func() {
		if f, ok := recover().(failure); ok {
			spans, e, at = nil, f.err, f.at
		}
	}()
	r := reader{tokens: tokens{left: list, end: end}}
	r.text()
	return r.spans, api.OK, 0
}

// text reads a whole text.
func (r *reader) text() {
	switch {
	case r.accept(api.TokenName, always):
		r.add(0, api.Week)
	case !r.accept(api.TokenName, never):
		r.parts()
	}
	if len(r.left) > 0 {
		panic(r.unexpected())
	}
}

// parts reads parts with commas between them.
func (r *reader) parts() {
	days := r.days()
	r.time(days)
	for r.accept(api.TokenSymbol, ",") {
		// Only a new part begins with a name: a further time of the same days begins with a number.
		if r.next().Kind == api.TokenName {
			days = r.days()
		}
		r.time(days)
	}
}

// days reads a day, or a first and a last one, and returns all of them.
func (r *reader) days() []int {
	day := r.day()
	last := day
	if r.accept(api.TokenSymbol, "-") {
		last = r.day()
	}
	days := []int{day}
	for day != last {
		day = (day + 1) % len(dayNames)
		days = append(days, day)
	}
	return days
}

// day reads a day.
func (r *reader) day() int {
	for day, name := range dayNames {
		if r.accept(api.TokenName, name) {
			return day
		}
	}
	panic(r.unexpected())
}

// time reads a time, and adds what it has for some days.
func (r *reader) time(days []int) {
	from, _ := r.clock(lastHour)
	r.symbol("-")
	to, at := r.clock(endHour)
	if from == to {
		panic(failure{api.ErrRange, at})
	}
	if to < from {
		to += dayMinutes
	}
	for _, day := range days {
		r.add(day*dayMinutes+from, day*dayMinutes+to)
	}
}

// clock reads a clock with at most some hours, and returns its minute of the day and its offset.
func (r *reader) clock(most int) (minute, at int) {
	first, hours := r.number()
	if hours > most {
		panic(failure{api.ErrRange, first.At})
	}
	r.symbol(":")
	second, minutes := r.number()
	if len(second.Text) != minuteDigits || minutes >= hourMinutes || hours == endHour && minutes > 0 {
		panic(failure{api.ErrRange, second.At})
	}
	return hours*hourMinutes + minutes, first.At
}

// add adds a span that begins in the week; what it has after the end of the week is at its beginning.
func (r *reader) add(from, to int) {
	if to > api.Week {
		r.spans = append(r.spans, api.Span{From: 0, To: to - api.Week})
		to = api.Week
	}
	r.spans = append(r.spans, api.Span{From: from, To: to})
}
