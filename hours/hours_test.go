package hours_test

import (
	"fmt"
	"math/rand"
	"slices"
	"strconv"
	"strings"
	"testing"

	"planisphere/api"
	"planisphere/hours"
	"planisphere/lexer"
)

// P10.1: the chapter's examples.
func TestExamples(t *testing.T) {
	wants(t, "mo-tu 9:00-17:30", good(540, 1050, 1980, 2490))
	wants(t, "su 22:00-2:00", good(0, 120, 9960, 10080))
	wants(t, "sa-mo 0:00-24:00, 12:00-13:00", good(0, 1440, 7200, 10080))
	wants(t, "mo 9:00-9:00", bad(api.ErrRange, 8))
	wants(t, "mo 9:5-10:00", bad(api.ErrRange, 5))
	wants(t, "mo 24:00-1:00", bad(api.ErrRange, 3))
	wantsText(t, list(540, 1590), "mo 9:00-24:00, tu 0:00-2:30", api.OK)
}

// P10.1, J1, J2: texts with their spans and canonical texts that come from another program.
func TestKnown(t *testing.T) {
	for _, x := range []struct {
		s         string
		want      result
		canonical string
	}{
		{"always", good(0, 10080), "always"}, {"never", good(), "never"}, {" always # yes", good(0, 10080), "always"}, {"never\n", good(), "never"},
		{"mo 0:00-24:00", good(0, 1440), "mo 0:00-24:00"}, {"mo 0:00-0:01", good(0, 1), "mo 0:00-0:01"},
		{"su 23:59-24:00", good(10079, 10080), "su 23:59-24:00"}, {"su 23:59-0:00", good(10079, 10080), "su 23:59-24:00"}, {"su 23:59-0:01", good(0, 1, 10079, 10080), "mo 0:00-0:01, su 23:59-24:00"},
		{"mo-fr 9:00-17:30", good(540, 1050, 1980, 2490, 3420, 3930, 4860, 5370, 6300, 6810), "mo 9:00-17:30, tu 9:00-17:30, we 9:00-17:30, th 9:00-17:30, fr 9:00-17:30"},
		{"mo-fr 9:00-12:30, 13:30-18:00, sa 10:00-14:00", good(540, 750, 810, 1080, 1980, 2190, 2250, 2520, 3420, 3630, 3690, 3960, 4860, 5070, 5130, 5400, 6300, 6510, 6570, 6840, 7800, 8040), "mo 9:00-12:30, mo 13:30-18:00, tu 9:00-12:30, tu 13:30-18:00, we 9:00-12:30, we 13:30-18:00, th 9:00-12:30, th 13:30-18:00, fr 9:00-12:30, fr 13:30-18:00, sa 10:00-14:00"},
		{"fr-mo 20:00-4:00", good(0, 240, 1200, 1680, 6960, 7440, 8400, 8880, 9840, 10080), "mo 0:00-4:00, mo 20:00-24:00, tu 0:00-4:00, fr 20:00-24:00, sa 0:00-4:00, sa 20:00-24:00, su 0:00-4:00, su 20:00-24:00"},
		{"sa-fr 0:00-24:00", good(0, 10080), "always"},
		{"we-tu 12:00-11:00", good(0, 660, 720, 2100, 2160, 3540, 3600, 4980, 5040, 6420, 6480, 7860, 7920, 9300, 9360, 10080), "mo 0:00-11:00, mo 12:00-24:00, tu 0:00-11:00, tu 12:00-24:00, we 0:00-11:00, we 12:00-24:00, th 0:00-11:00, th 12:00-24:00, fr 0:00-11:00, fr 12:00-24:00, sa 0:00-11:00, sa 12:00-24:00, su 0:00-11:00, su 12:00-24:00"},
		{"tu-tu 8:00-7:59", good(1920, 3359), "tu 8:00-24:00, we 0:00-7:59"}, {"th-th 23:00-22:00", good(5700, 7080), "th 23:00-24:00, fr 0:00-22:00"},
		{"mo 22:00-6:00, tu 6:00-8:00, tu 7:30-9:15", good(1320, 1995), "mo 22:00-24:00, tu 0:00-9:15"},
		{"th 12:00-13:00, 12:30-13:30, 11:00-12:15, mo 1:00-2:00", good(60, 120, 4980, 5130), "mo 1:00-2:00, th 11:00-13:30"},
		{"su-mo 23:00-1:00", good(0, 60, 1380, 1500, 10020, 10080), "mo 0:00-1:00, mo 23:00-24:00, tu 0:00-1:00, su 23:00-24:00"},
		{"fr 000:00-0000024:00", good(5760, 7200), "fr 0:00-24:00"}, {"sa 00:05-00:10", good(7205, 7210), "sa 0:05-0:10"}, {"mo 1:00-2:00, mo 1:00-2:00", good(60, 120), "mo 1:00-2:00"},
		{"su 18:00-3:00, mo 2:00-4:00", good(0, 240, 9720, 10080), "mo 0:00-4:00, su 18:00-24:00"}, {"we 5:00-3:00, th 3:00-5:00", good(3180, 4620), "we 5:00-24:00, th 0:00-5:00"},
		{"mo-we 8:00-10:00, tu-th 9:00-11:00", good(480, 600, 1920, 2100, 3360, 3540, 4860, 4980), "mo 8:00-10:00, tu 8:00-11:00, we 8:00-11:00, th 9:00-11:00"},
		{"su 0:00-24:00, mo 0:00-24:00", good(0, 1440, 8640, 10080), "mo 0:00-24:00, su 0:00-24:00"},
		{"mo-su 12:00-12:01", good(720, 721, 2160, 2161, 3600, 3601, 5040, 5041, 6480, 6481, 7920, 7921, 9360, 9361), "mo 12:00-12:01, tu 12:00-12:01, we 12:00-12:01, th 12:00-12:01, fr 12:00-12:01, sa 12:00-12:01, su 12:00-12:01"},
		{"mo 12:00-24:00 , # to the end\n\tsa 6:00-7:00", good(720, 1440, 7560, 7620), "mo 12:00-24:00, sa 6:00-7:00"}, {"mo 1:00-2:00 # !", good(60, 120), "mo 1:00-2:00"},
		{"mo-su 6:00-5:59", good(0, 359, 360, 1799, 1800, 3239, 3240, 4679, 4680, 6119, 6120, 7559, 7560, 8999, 9000, 10080), "mo 0:00-5:59, mo 6:00-24:00, tu 0:00-5:59, tu 6:00-24:00, we 0:00-5:59, we 6:00-24:00, th 0:00-5:59, th 6:00-24:00, fr 0:00-5:59, fr 6:00-24:00, sa 0:00-5:59, sa 6:00-24:00, su 0:00-5:59, su 6:00-24:00"},
		{"mo-su 23:59-0:01, 0:01-0:02", good(0, 2, 1439, 1442, 2879, 2882, 4319, 4322, 5759, 5762, 7199, 7202, 8639, 8642, 10079, 10080), "mo 0:00-0:02, mo 23:59-24:00, tu 0:00-0:02, tu 23:59-24:00, we 0:00-0:02, we 23:59-24:00, th 0:00-0:02, th 23:59-24:00, fr 0:00-0:02, fr 23:59-24:00, sa 0:00-0:02, sa 23:59-24:00, su 0:00-0:02, su 23:59-24:00"},
		{"fr 17:59-18:00, 18:01-18:02", good(6839, 6840, 6841, 6842), "fr 17:59-18:00, fr 18:01-18:02"},
	} {
		wants(t, x.s, x.want)
		wantsText(t, x.want.l, x.canonical, api.OK)
		wants(t, x.canonical, x.want)
	}
}

// P10.1, J1, P1: errors that come from another program.
func TestKnownErrors(t *testing.T) {
	for _, x := range []struct {
		s   string
		err api.Errno
		at  int
	}{
		{"", api.ErrEnd, 0}, {"#mo 1:00-2:00", api.ErrEnd, 13}, {"  ", api.ErrEnd, 2}, {"\n\n", api.ErrEnd, 2}, {"mo", api.ErrEnd, 2}, {" mo ", api.ErrEnd, 4}, {"mo-", api.ErrEnd, 3}, {"mo-tu", api.ErrEnd, 5},
		{"mo 1", api.ErrEnd, 4}, {"mo 1:", api.ErrEnd, 5}, {"mo 1:00", api.ErrEnd, 7}, {"mo 1:00-", api.ErrEnd, 8}, {"mo 1:00-2", api.ErrEnd, 9}, {"mo 1:00-1", api.ErrEnd, 9}, {"mo 1:00-2:", api.ErrEnd, 10},
		{"mo 1:00-2:00,", api.ErrEnd, 13}, {"mo 1:00-2:00, tu", api.ErrEnd, 16}, {"mo 1:00-2:00, 3", api.ErrEnd, 15}, {"mo 1:00-2:00, # 3:00-4:00", api.ErrEnd, 25},
		{"1:00-2:00", api.ErrSyntax, 0}, {"-", api.ErrSyntax, 0}, {"mo,", api.ErrSyntax, 2}, {"mo,tu 1:00-2:00", api.ErrSyntax, 2}, {"mo-tu,", api.ErrSyntax, 5}, {"mo tu", api.ErrSyntax, 3}, {"mo--tu", api.ErrSyntax, 3}, {"mo-tu-we 1:00-2:00", api.ErrSyntax, 5},
		{"mo 1:00-2:00-3:00", api.ErrSyntax, 12}, {"mo 1:00-2:00 3:00-4:00", api.ErrSyntax, 13}, {"mo 1:00-2:00 tu 3:00-4:00", api.ErrSyntax, 13}, {"mo 1:00-2:00;", api.ErrSyntax, 12}, {"mo 1:00-2:00,,", api.ErrSyntax, 13}, {"mo 1:00-2:00, -", api.ErrSyntax, 14},
		{"mo 1:00-2:00, never", api.ErrSyntax, 14}, {"mo 1:00-2:00, always 1", api.ErrSyntax, 14}, {"always,", api.ErrSyntax, 6}, {"always mo 1:00-2:00", api.ErrSyntax, 7}, {"never never", api.ErrSyntax, 6}, {"never, mo 1:00-2:00", api.ErrSyntax, 5}, {"mo always", api.ErrSyntax, 3},
		{"mo 1 00", api.ErrSyntax, 5}, {"mo 1:00 2:00", api.ErrSyntax, 8}, {"mo 1:00,2:00", api.ErrSyntax, 7}, {"mo :00-2:00", api.ErrSyntax, 3}, {"mo 1::00", api.ErrSyntax, 5}, {"mo 1:-2:00", api.ErrSyntax, 5}, {"mo 1:00-tu 2:00", api.ErrSyntax, 8}, {"mo 1-2", api.ErrSyntax, 4}, {"mo 1.00-2.00", api.ErrSyntax, 4},
		{"MO 1:00-2:00", api.ErrSyntax, 0}, {"Always", api.ErrSyntax, 0}, {"NEVER", api.ErrSyntax, 0}, {"monday 1:00-2:00", api.ErrSyntax, 0}, {"mo_ 1:00-2:00", api.ErrSyntax, 0}, {"mo1:00-2:00", api.ErrSyntax, 0}, {"mo tuesday", api.ErrSyntax, 3}, {"mo-Fr 1:00-2:00", api.ErrSyntax, 3}, {"closed", api.ErrSyntax, 0}, {"24:00", api.ErrSyntax, 0},
		{`"always"`, api.ErrSyntax, 0}, {`"mo" 1:00-2:00`, api.ErrSyntax, 0}, {`mo "1":00-2:00`, api.ErrSyntax, 3}, {`mo 1":"00-2:00`, api.ErrSyntax, 4}, {`mo 1:"00"-2:00`, api.ErrSyntax, 5}, {`mo-"tu" 1:00-2:00`, api.ErrSyntax, 3}, {`mo "-"tu`, api.ErrSyntax, 3}, {`mo 1:00-2:00 "," 3:00-4:00`, api.ErrSyntax, 13}, {"[mo] 1:00-2:00", api.ErrSyntax, 0}, {"mo (1:00-2:00)", api.ErrSyntax, 3},
		{"mo 24:00-24:00", api.ErrRange, 3}, {"mo 24:00-2:00", api.ErrRange, 3}, {"mo 24", api.ErrRange, 3}, {"mo 25:00-2:00", api.ErrRange, 3}, {"mo 9999999:00-2:00", api.ErrRange, 3}, {"mo 1:00-25:00", api.ErrRange, 8}, {"mo 1:00-24:01", api.ErrRange, 11}, {"mo 1:00-24:59", api.ErrRange, 11}, {"mo 1:00-24:60", api.ErrRange, 11}, {"mo 1:00-24:0", api.ErrRange, 11}, {"mo 1:00-24:000", api.ErrRange, 11},
		{"mo 1:0-2:00", api.ErrRange, 5}, {"mo 1:000-2:00", api.ErrRange, 5}, {"mo 1:60-2:00", api.ErrRange, 5}, {"mo 1:99-2:00", api.ErrRange, 5}, {"mo 1:00-2:0", api.ErrRange, 10}, {"mo 1:00-2:5", api.ErrRange, 10}, {"mo 1:00-2:60", api.ErrRange, 10}, {"mo 1:00-2:005", api.ErrRange, 10},
		{"mo 1:00-1:00", api.ErrRange, 8}, {"mo 0:00-0:00", api.ErrRange, 8}, {"mo 0:00-00:00", api.ErrRange, 8}, {"mo 01:00-1:00", api.ErrRange, 9}, {"mo 23:59-023:59", api.ErrRange, 9}, {"mo-su 12:00-12:00", api.ErrRange, 12}, {"mo 1:00-2:00, 3:00-3:00", api.ErrRange, 19}, {"mo 1:00-2:00, tu 3:00-3:00", api.ErrRange, 22}, {"mo 1:00-2:00, 24:00-1:00", api.ErrRange, 14}, {"mo 23:00-24:00,tu 0:00-1:00,24:00-1:00", api.ErrRange, 28},
		{"mo 1:00-2:00 !", api.ErrChar, 13}, {"always 1x", api.ErrNumber, 7}, {"mo 1:00am-2:00", api.ErrNumber, 5}, {"mo 1:00-2:00\r", api.ErrChar, 12}, {"mo 12345678:00-2:00", api.ErrNumber, 3}, {"mo 1:00\xe2\x80\x932:00", api.ErrChar, 7}, {"mo 1h", api.ErrNumber, 3}, {"mo 9:00-\"", api.ErrChar, 8}, {"mo 1:00-2:00, \"tu", api.ErrChar, 14},
	} {
		wants(t, x.s, bad(x.err, x.at))
	}
}

// P10.1, J1, P1: the first of several errors in the order of tokens, after those of the lexer.
func TestFirstError(t *testing.T) {
	for _, x := range []struct {
		s   string
		err api.Errno
		at  int
	}{
		{"mo 1:00-1:00-", api.ErrRange, 8}, {"mo 1:00-1:00 x", api.ErrRange, 8}, {"mo 1:00-1:00,", api.ErrRange, 8}, {"mo 1:00-1:0", api.ErrRange, 10}, {"mo 1:00-1:99", api.ErrRange, 10}, {"mo 1:00-1:x", api.ErrSyntax, 10}, {"mo 1:00-1;", api.ErrSyntax, 9},
		{"mo 25 25", api.ErrRange, 3}, {"mo 24 x", api.ErrRange, 3}, {"mo 25:99-25:99", api.ErrRange, 3}, {"mo 24:99-1:00", api.ErrRange, 3}, {"mo 1:99-1:99", api.ErrRange, 5}, {"mo 1:7 x", api.ErrRange, 5}, {"mo 1:00-25 x", api.ErrRange, 8}, {"mo 1:00-2:7 x", api.ErrRange, 10}, {"mo 1:00-25:99", api.ErrRange, 8},
		{"mo x 25", api.ErrSyntax, 3}, {"mo - 25:00", api.ErrSyntax, 5}, {"mo 1 25", api.ErrSyntax, 5}, {"mo 1:00 25", api.ErrSyntax, 8}, {"mo 1:00-2:00 25", api.ErrSyntax, 13}, {"mo 1:00-2:00 25:00-25:00", api.ErrSyntax, 13}, {"mo 3:00-3:00, 24:00-1:00", api.ErrRange, 8}, {"mo 3:00-4:00, tu-3 25", api.ErrSyntax, 17},
		{"x !", api.ErrChar, 2}, {"mo 25:00-26:00 !", api.ErrChar, 15}, {"mo 1:00-1:00 7x", api.ErrNumber, 13}, {"x abcdefghijklmnopqrstuvwxy", api.ErrLimit, 2}, {"always always \"", api.ErrChar, 14}, {"x" + repeat(" ", maxBytes), api.ErrLimit, -1}, {repeat("x ", maxTokens+1), api.ErrLimit, 2 * maxTokens},
	} {
		wants(t, x.s, bad(x.err, x.at))
	}
	// One span too many shows only after the last token.
	many := manyTimes(maxSpans + 1)
	for s, want := range map[string]result{"": bad(api.ErrLimit, len(many)), " # end": bad(api.ErrLimit, len(many)+6), ",": bad(api.ErrEnd, len(many)+1), " x": bad(api.ErrSyntax, len(many)+1), ", 25": bad(api.ErrRange, len(many)+2), "!": bad(api.ErrChar, len(many)), ", su 0:00-24:00": bad(api.ErrLimit, len(many)+15), ", mo-we 0:00-24:00": good(0, 4320, 4330, 4340)} {
		wants(t, many+s, want)
	}
}

// manyTimes returns a text with some spans, 20 on each day, from Monday on.
func manyTimes(n int) string {
	var times []string
	for i := range n {
		times = append(times, fmt.Sprintf("%s %d:10-%d:20", dayNames[i/20], i%20, i%20))
	}
	return strings.Join(times, ", ")
}

// P10.1, J1: all hours and all minutes of both clocks, with each number of digits.
func TestEachClock(t *testing.T) {
	for n := range 130 {
		for zeros := range 5 {
			s := repeat("0", zeros) + strconv.Itoa(n)
			isMinute := len(s) == 2 && n < 60
			for text, ok := range map[string]bool{"tu 4:" + s + "-5:00": isMinute, "tu 4:00-5:" + s: isMinute, "tu " + s + ":03-23:59": n < 24, "tu 0:01-" + s + ":00": n < 25, "tu 0:01-" + s + ":59": n < 24} {
				want := plainParse(text)
				if (want.err == api.OK) != ok {
					t.Fatalf("%q has %d", text, want.err)
				}
				wants(t, text, want)
			}
		}
	}
	for _, n := range []int{256, 280, 1000, 1 << 16, 1<<16 + 12, 9999999} {
		wants(t, fmt.Sprintf("tu %d:00-12:00", n), bad(api.ErrRange, 3))
		wants(t, fmt.Sprintf("tu 1:00-%d:00", n), bad(api.ErrRange, 8))
		wants(t, fmt.Sprintf("tu 1:%d-2:00", n), bad(api.ErrRange, 5))
		wants(t, fmt.Sprintf("tu 1:00-2:%d", n), bad(api.ErrRange, 10))
	}
}

// P10.1, J1: times from each clock to each clock of some minutes, on the first, another and the last day.
func TestEachTime(t *testing.T) {
	clock := func(m int) string { return fmt.Sprintf("%d:%02d", m/60, m%60) }
	for i := range 4 * 24 {
		for j := range 4*24 + 1 {
			from, to := i/4*60+[]int{0, 1, 30, 59}[i%4], j/4*60+[]int{0, 1, 30, 59}[j%4]
			time := clock(from) + "-" + clock(to)
			switch {
			case from == to:
				wants(t, "mo "+time, bad(api.ErrRange, 4+len(clock(from))))
			case from < to:
				wants(t, "mo "+time, good(from, to))
				wants(t, "we "+time, good(2*day+from, 2*day+to))
				wants(t, "su "+time, good(6*day+from, 6*day+to))
			case to == 0:
				wants(t, "mo "+time, good(from, day))
				wants(t, "we "+time, good(2*day+from, 3*day))
				wants(t, "su "+time, good(6*day+from, week))
			default:
				wants(t, "mo "+time, good(from, day+to))
				wants(t, "we "+time, good(2*day+from, 3*day+to))
				wants(t, "su "+time, good(0, to, 6*day+from, week))
			}
		}
	}
}

// P10.1, J1: each pair of days.
func TestEachDays(t *testing.T) {
	for first, a := range dayNames {
		for last, b := range dayNames {
			for _, time := range []string{"9:00-17:30", "22:00-2:00", "0:00-24:00", "12:00-12:01", "0:01-0:00", "18:00-17:59", "8:00-9:00, 23:00-1:00, 8:30-10:00"} {
				var l []api.Span
				for _, d := range daysOf(first, last) {
					l = append(l, parsed(t, dayNames[d]+" 0:00-24:00")...)
				}
				wants(t, a+"-"+b+" 0:00-24:00", result{l: minutesOf(l).list()})
				wants(t, a+"-"+b+" "+time, plainParse(a+"-"+b+" "+time))
				wants(t, a+" "+time+","+b+" "+time, plainParse(a+" "+time+","+b+" "+time))
			}
		}
	}
}

// P10.1, J1: names that are no days, and symbols that are not those of the grammar, at each place.
func TestOtherTokens(t *testing.T) {
	text := []string{"mo", "-", "tu", "1", ":", "00", "-", "2", ":", "30", ",", "3", ":", "00", "-", "4", ":", "00", ",", "fr", "5", ":", "00", "-", "6", ":", "00"}
	wants(t, strings.Join(text, " "), good(60, 150, 180, 240, 1500, 1590, 1620, 1680, 6060, 6120))
	for i := range text {
		at := len(strings.Join(text[:i], " "))
		if i > 0 {
			at++
		}
		for _, other := range []string{"Mo", "MO", "m", "mon", "monday", "mo_", "mo2", "Sa", "so", "di", "Always", "NEVER", "alway", "closed", "ph", "off", "am", "x", `""`, `"` + text[i] + `"`, ";", ".", "(", ")", "{", "}", "[", "]", "=", "<", ">", "/"} {
			l := slices.Clone(text)
			l[i] = other
			wants(t, strings.Join(l, " "), bad(api.ErrSyntax, at))
		}
		for _, other := range []string{"-", ",", ":", "mo", "su", "always", "never", "7", "07", "25", "99", "007", "0000024"} {
			l := slices.Clone(text)
			l[i] = other
			s := strings.Join(l, " ")
			wants(t, s, plainParse(s))
		}
	}
}

// P10.1, J1: all texts of a few of the tokens that matter, alone and after some beginnings, as the plain reading has them.
func TestShortTexts(t *testing.T) {
	errors := map[api.Errno]int{}
	words := []string{"mo", "su", "always", "never", "-", ",", ":", "0", "23", "24", "00", "60", "x", `"mo"`}
	var check func(text string, more int)
	check = func(text string, more int) {
		got, want := parse(text), plainParse(text)
		if !got.is(want) {
			t.Fatalf("Parse(%q) = %v, want %v", text, got, want)
		}
		errors[got.err]++
		if more > 0 {
			for _, w := range words {
				check(text+" "+w, more-1)
			}
		}
	}
	check("", 4)
	for _, begin := range []string{"mo", "mo-", "su-mo", "mo 1", "mo 1:", "mo 1:00", "mo 1:00-", "mo 0:00-0", "mo 1:00-24:", "mo 1:00-2:00", "su 23:00-1:00,", "mo 1:00-2:00, su", "always", "never"} {
		check(begin, 3)
	}
	for _, e := range []api.Errno{api.OK, api.ErrSyntax, api.ErrEnd, api.ErrRange} {
		if errors[e] < 15 {
			t.Errorf("only %d texts with %d", errors[e], e)
		}
	}
}

// P10.1, P10.2, J1: random texts, and those in which some bytes have changed, as the plain reading has them; what Parse returns is valid.
func TestRandomTexts(t *testing.T) {
	r := rand.New(rand.NewSource(101))
	errors := map[api.Errno]int{}
	for range 1200 {
		s := someParts(r, pick(r, 2, 5, 30))
		wants(t, s, plainParse(s))
		for range 5 {
			b := []byte(s)
			i := r.Intn(len(b))
			changed := pick(r, s[:i], s[:i]+s[i+1:], s[:i]+string(pick(r, []byte("0123456789:-, ;mo")...))+s[i:], s[:i]+" "+s[i:], s[:i]+pick(r, "always", "tu", "24:00", ",")+s[i:])
			got, want := parse(changed), plainParse(changed)
			if !got.is(want) {
				t.Fatalf("Parse(%q) = %v, want %v", changed, got, want)
			}
			if !plainValid(got.l) || !hours.Valid(got.l) {
				t.Fatalf("Parse(%q) = %v, which is not valid", changed, got)
			}
			errors[got.err]++
		}
	}
	for _, e := range []api.Errno{api.OK, api.ErrSyntax, api.ErrEnd, api.ErrRange, api.ErrLimit, api.ErrNumber} {
		if errors[e] < 40 {
			t.Errorf("only %d texts with %d", errors[e], e)
		}
	}
}

// P10.1, J1: 60 spans are not too many; parts may be more, if the list has no more.
func TestSpansLimit(t *testing.T) {
	for n := 1; n <= 120; n++ {
		s := manyTimes(n)
		if want := minutesOf(run(10, 140, 10, 50)).list(); n <= maxSpans {
			wants(t, s, plainParse(s))
			if l := parsed(t, s); len(l) != n || l[0] != want[0] {
				t.Errorf("%d spans of %d", len(l), n)
			}
		} else {
			wants(t, s, bad(api.ErrLimit, len(s)))
		}
	}
	// The span around the end of the week is two.
	wants(t, manyTimes(58)+", su 23:59-0:05", plainParse(manyTimes(58)+", su 23:59-0:05"))
	s := manyTimes(59) + ", su 23:59-0:05"
	wants(t, s, bad(api.ErrLimit, len(s)))
	wants(t, s+", mo 0:05-0:10", plainParse(s+", mo 0:05-0:10"))
	if l := parsed(t, s+", mo 0:05-0:10"); len(l) != maxSpans {
		t.Errorf("%d spans", len(l))
	}
}

// P10.1, J1: texts of 5000 tokens and of 20000 bytes, and longer ones.
func TestLexerLimits(t *testing.T) {
	full := "we 5:00-6:00" + repeat(",5:00-6:00", maxTokens/8-1)
	wants(t, full, good(3180, 3240))
	wants(t, full+",", bad(api.ErrLimit, len(full)))
	wants(t, full+" 7:00", bad(api.ErrLimit, len(full)+1))
	wants(t, full+" !", bad(api.ErrChar, len(full)+1))
	long := full + repeat(" ", maxBytes-len(full))
	wants(t, long, good(3180, 3240))
	wants(t, long+" ", bad(api.ErrLimit, -1))
	wants(t, long+"!", bad(api.ErrLimit, -1))
	wants(t, repeat(" ", maxBytes), bad(api.ErrEnd, maxBytes))
	wants(t, repeat(" ", maxBytes-6)+"always", good(0, week))
	wants(t, repeat(" ", maxBytes-5)+"always", bad(api.ErrLimit, -1))
	wants(t, repeat("x", maxBytes+1), bad(api.ErrLimit, -1))
	days := "mo-su 23:59-0:01"
	wants(t, days+repeat(", su-sa 23:59-0:01", 400), plainParse(days))
}

// P10.1, J1: what the lexer refuses is refused with its error and offset.
func TestLexerErrors(t *testing.T) {
	for b := range 256 {
		for _, begin := range []string{"", "mo 1:00-2:00", "mo 1:00-2:00,", "always ", "x ", "mo 1:00-1"} {
			s := begin + string([]byte{byte(b)})
			if _, e, at := lexer.Lex(s); e != api.OK {
				wants(t, s, bad(e, at))
			} else {
				wants(t, s, plainParse(s))
			}
		}
	}
}

// P10.1, P10.2, J2: the text of each minute of the week alone, of the minutes before and after it, and of all others.
func TestEachMinute(t *testing.T) {
	for m := range week {
		clock := func(m int) string { return fmt.Sprintf("%d:%02d", m/60, m%60) }
		one := fmt.Sprintf("%s %s-%s", dayNames[m/day], clock(m%day), clock(m%day+1))
		wantsText(t, list(m, m+1), one, api.OK)
		wants(t, one, good(m, m+1))
		for _, l := range [][]api.Span{list(0, m+1), list(m, week), hours.Not(list(m, m+1))} {
			if m%61 == 0 || m%day < 2 || m%day > day-3 {
				wantsText(t, l, plainText(l), api.OK)
			}
			wants(t, textOf(t, l), result{l: l})
		}
	}
	wantsText(t, nil, "never", api.OK)
	wantsText(t, []api.Span{}, "never", api.OK)
	wantsText(t, list(0, week), "always", api.OK)
	wantsText(t, list(0, week-1), "mo 0:00-24:00, tu 0:00-24:00, we 0:00-24:00, th 0:00-24:00, fr 0:00-24:00, sa 0:00-24:00, su 0:00-23:59", api.OK)
	wantsText(t, list(1, week), "mo 0:01-24:00, tu 0:00-24:00, we 0:00-24:00, th 0:00-24:00, fr 0:00-24:00, sa 0:00-24:00, su 0:00-24:00", api.OK)
}

// P10.1, P10.2, J2: the texts of random lists; Parse returns the list for its text.
func TestTexts(t *testing.T) {
	r := rand.New(rand.NewSource(102))
	for range 3000 {
		l := someList(r, pick(r, 3, 10, 50))
		wantsText(t, l, plainText(l), api.OK)
		wants(t, textOf(t, l), result{l: l})
	}
	for range 300 {
		l := someMany(r)
		from := r.Intn(len(l) - maxSpans)
		l = l[from : from+maxSpans]
		wantsText(t, l, plainText(l), api.OK)
		wants(t, textOf(t, l), result{l: l})
	}
	// Spans that go over the ends of all days have the most times.
	l := run(30, 54, 10, 10)
	for d := range 6 {
		l = append(l, api.Span{From: day*(d+1) - 5, To: day*(d+1) + 5})
	}
	wantsText(t, l, plainText(l), api.OK)
	wants(t, textOf(t, l), result{l: l})
}

// P10.1, J2, P1: a list of more than 60 spans is valid, but has no text.
func TestTextLimit(t *testing.T) {
	for _, n := range []int{0, 1, 59, 60, 61, 62, 100, 256, 316, 1000, week/2 - 1, week / 2} {
		l := run(0, n, 1, 1)
		wantsValid(t, l, true)
		if n <= maxSpans {
			wantsText(t, l, plainText(l), api.OK)
		} else {
			wantsText(t, l, "", api.ErrLimit)
		}
		wantsValid(t, run(1, n, 1, 1), true)
		wantsNot(t, l, minutesOf(l).with(&minutes{}, func(a, b bool) bool { return !a }))
	}
	wantsText(t, run(0, week/2+1, 1, 1), "", api.ErrArg)
	wantsText(t, append(run(0, 61, 1, 1), api.Span{From: 121, To: 125}), "", api.ErrArg)
}

// P10.1, J2: all lists of at most two spans with ends of a few, and each end alone.
func TestValid(t *testing.T) {
	ends := []int{-2, -1, 0, 1, 2, 3, 4, day, week - 2, week - 1, week, week + 1}
	count := map[bool]int{}
	check := func(l []api.Span) {
		want := plainValid(l)
		wantsValid(t, l, want)
		count[want]++
	}
	check(nil)
	for _, a := range ends {
		for _, b := range ends {
			check(list(a, b))
			for _, c := range ends {
				for _, d := range ends {
					check(list(a, b, c, d))
				}
			}
		}
	}
	if count[true] < 100 || count[false] < 1000 {
		t.Error(count)
	}
	for m := range week {
		wantsValid(t, list(m, m+1), true)
		wantsValid(t, list(0, m+1), true)
		wantsValid(t, list(m, week), true)
		wantsValid(t, list(m, m), false)
		wantsValid(t, list(m+1, m), false)
	}
	r := rand.New(rand.NewSource(103))
	for range 300 {
		l := someMany(r)
		wantsValid(t, l, true)
		i := 1 + r.Intn(len(l)-1)
		l[i].From = l[i-1].To
		wantsValid(t, l, false)
	}
}

// P10.1, P1, J2 to J4: lists that are not valid have no text, no minutes and no sets.
func TestWrongLists(t *testing.T) {
	good := list(0, 5, 100, 200)
	for _, l := range wrong() {
		if plainValid(l) {
			t.Fatalf("%s are valid", some(l))
		}
		wantsValid(t, l, false)
		wantsText(t, l, "", api.ErrArg)
		for _, m := range []int{0, 3, 150, week, lastMinute, -1, lastMinute + 1} {
			wantsNext(t, l, m, 0, false)
		}
		wantsNot(t, l, nil)
		for _, other := range [][]api.Span{nil, good, list(0, week), l} {
			wantsSets(t, l, other, nil, nil)
		}
	}
}

// P10.1, J3: each minute of a week, at the beginning of all time and near its end, for some lists.
func TestNext(t *testing.T) {
	for _, l := range [][]api.Span{list(0, week), list(0, 1), list(week-1, week), list(0, 1, week-1, week), list(1, week-1), list(540, 1050, 1980, 2490), list(0, 120, 9960, 10080), run(0, 60, 100, 60), run(0, week/2, 1, 1), run(1, week/2, 1, 1), list(5000, 5001)} {
		m := minutesOf(l)
		for _, end := range []int{2*week - 1, lastMinute} {
			var next, found = 0, false
			for i := end + week; i > end-2*week && i >= 0; i-- {
				if m[i%week] {
					next, found = i, true
				}
				if i <= end {
					wantsNext(t, l, i, next, found)
				}
			}
		}
	}
}

// P10.1, P10.4, J3: random lists and minutes; a week later it is a week later.
func TestNextLater(t *testing.T) {
	r := rand.New(rand.NewSource(104))
	for range 3000 {
		l := pick(r, someList(r, 3), someList(r, 20), list(0, week), nil)
		if r.Intn(20) == 0 {
			l = someMany(r)
		}
		minute := pick(r, r.Intn(lastMinute+1), r.Intn(2*week), lastMinute-r.Intn(2*week), week*r.Intn(lastMinute/week), max(0, week*r.Intn(lastMinute/week)-1))
		want, found := plainNext(l, minute)
		wantsNext(t, l, minute, want, found)
		if minute+week > lastMinute {
			wantsNext(t, l, minute+week, 0, false)
		} else if found {
			wantsNext(t, l, minute+week, want+week, true)
		}
	}
}

// P10.1, P1, J3: minutes that are not from 0 to 1000000000.
func TestWrongMinutes(t *testing.T) {
	for _, l := range [][]api.Span{nil, list(0, week), list(0, 5, 100, 200), run(0, week/2, 1, 1)} {
		for _, m := range wrongMinutes() {
			wantsNext(t, l, m, 0, false)
		}
	}
	for _, m := range []int{0, 1, week - 1, week, lastMinute} {
		wantsNext(t, nil, m, 0, false)
		wantsNext(t, []api.Span{}, m, 0, false)
		wantsNext(t, list(0, week), m, m, true)
	}
}

// P10.1, P10.3, J4: all sets of seven blocks of minutes.
func TestAllSets(t *testing.T) {
	var lists [][]api.Span
	for bits := range 1 << 7 {
		var m minutes
		for i := range m {
			m[i] = bits>>(i/day)&1 == 1
		}
		lists = append(lists, m.list())
	}
	for a := range lists {
		wantsNot(t, lists[a], lists[len(lists)-1-a])
		for b := range lists {
			wantsSets(t, lists[a], lists[b], lists[a&b], lists[a|b])
		}
	}
}

// P10.1, P10.3, J4: random lists, some of many spans.
func TestSets(t *testing.T) {
	r := rand.New(rand.NewSource(105))
	for i := range 1500 {
		a, b := someList(r, pick(r, 2, 5, 40)), someList(r, pick(r, 2, 5, 40))
		if i%10 == 0 {
			a = someMany(r)
		}
		if i%20 == 0 {
			b = someMany(r)
		}
		x, y := minutesOf(a), minutesOf(b)
		wantsSets(t, a, b, x.with(y, func(a, b bool) bool { return a && b }), x.with(y, func(a, b bool) bool { return a || b }))
		wantsNot(t, a, x.with(y, func(a, b bool) bool { return !a }))
		for _, l := range [][]api.Span{hours.Both(a, b), hours.Either(a, b), hours.Not(a)} {
			wantsValid(t, l, true)
		}
	}
	// Spans that touch become one; spans of both that have the same ends are one.
	wantsSets(t, run(0, week/2, 1, 1), run(1, week/2, 1, 1), nil, list(0, week))
	wantsSets(t, list(10, 20), list(20, 30), nil, list(10, 30))
	wantsSets(t, list(10, 20), list(21, 30), nil, list(10, 20, 21, 30))
	wantsSets(t, list(10, 20), list(19, 30), list(19, 20), list(10, 30))
	wantsSets(t, list(10, 40), list(20, 30), list(20, 30), list(10, 40))
	wantsSets(t, list(10, 40), list(10, 30), list(10, 30), list(10, 40))
	wantsSets(t, list(10, 40), list(10, 40), list(10, 40), list(10, 40))
	wantsSets(t, list(0, 10, 20, 30, 40, 50), list(5, 45), list(5, 10, 20, 30, 40, 45), list(0, 50))
	wantsNot(t, nil, list(0, week))
	wantsNot(t, list(0, week), nil)
	wantsNot(t, list(0, 5), list(5, week))
	wantsNot(t, list(5, week), list(0, 5))
	wantsNot(t, list(1, week-1), list(0, 1, week-1, week))
}

// P10.5: the laws of sets.
func TestLaws(t *testing.T) {
	r := rand.New(rand.NewSource(106))
	for range 2000 {
		a, b := someList(r, pick(r, 3, 30)), someList(r, pick(r, 3, 30))
		wantsNot(t, hours.Not(a), a)
		wantsNot(t, hours.Both(a, b), hours.Either(hours.Not(a), hours.Not(b)))
		wantsNot(t, hours.Either(a, b), hours.Both(hours.Not(a), hours.Not(b)))
		wantsSets(t, a, hours.Not(a), nil, list(0, week))
		wantsSets(t, a, a, a, a)
		wantsSets(t, a, nil, nil, a)
		wantsSets(t, a, list(0, week), a, list(0, week))
	}
}

// P10.6: two texts of parts with a comma between them stand for the minutes of both.
func TestParts(t *testing.T) {
	r := rand.New(rand.NewSource(107))
	count := map[api.Errno]int{}
	for range 2000 {
		a, b := someParts(r, pick(r, 2, 20)), someParts(r, pick(r, 2, 20))
		x, y := parse(a), parse(b)
		if x.err != api.OK || y.err != api.OK {
			continue
		}
		s := a + pick(r, ",", ", ", " ,\n", ",# both\n") + b
		want := result{l: hours.Either(x.l, y.l)}
		if len(want.l) > maxSpans {
			want = bad(api.ErrLimit, len(s))
		}
		wants(t, s, want)
		count[want.err]++
	}
	if count[api.OK] < 1000 || count[api.ErrLimit] < 20 {
		t.Error(count)
	}
}

// P10.7: gaps between tokens make no difference, apart from offsets.
func TestGaps(t *testing.T) {
	r := rand.New(rand.NewSource(108))
	errors := map[api.Errno]int{}
	for range 3000 {
		s := pick(r, someParts(r, 3), someParts(r, 40), "always", "never", "")
		for range r.Intn(3) {
			i := r.Intn(len(s) + 1)
			s = s[:i] + pick(r, "mo", "24", "0", ":", "-", ",", ";", "x", "") + s[i+r.Intn(len(s)-i+1):]
		}
		tokens, e, _ := lexer.Lex(s)
		if e != api.OK {
			continue
		}
		text, at := someGap(r), map[int]int{}
		for _, x := range tokens {
			at[x.At] = len(text)
			text += x.Text + someGap(r)
		}
		want := parse(s)
		switch want.err {
		case api.ErrSyntax, api.ErrRange:
			want.at = at[want.at]
		case api.ErrEnd, api.ErrLimit:
			want.at = len(text)
		}
		wants(t, text, want)
		errors[want.err]++
	}
	for _, e := range []api.Errno{api.OK, api.ErrSyntax, api.ErrEnd, api.ErrRange, api.ErrLimit} {
		if errors[e] < 20 {
			t.Errorf("only %d texts with %d", errors[e], e)
		}
	}
	wants(t, "mo-tu1:00-2:00", bad(api.ErrSyntax, 3))
	wants(t, "mo-tu 1:00-2:00,3:00-4:00,su 5:00-6:00", plainParse("mo - tu 1 : 00 - 2 : 00 , 3 : 00 - 4 : 00 , su 5 : 00 - 6 : 00"))
}

// P3, P10.1: equal arguments yield equal results, arguments stay as they are, and results do not share memory with them.
func TestIndependent(t *testing.T) {
	r := rand.New(rand.NewSource(109))
	for range 500 {
		a, b := someList(r, 5), someList(r, 5)
		x, y := slices.Clone(a), slices.Clone(b)
		results := func() [][]api.Span {
			return [][]api.Span{hours.Both(a, b), hours.Either(a, b), hours.Not(a), hours.Either(a, nil), hours.Either(nil, a), hours.Both(a, list(0, week)), hours.Both(list(0, week), a), hours.Both(a, a), hours.Either(a, a)}
		}
		first, second := results(), results()
		if !slices.Equal(a, x) || !slices.Equal(b, y) {
			t.Fatalf("%s and %s have changed", some(x), some(y))
		}
		if textOf(t, a) != textOf(t, x) || !parse(textOf(t, a)).is(parse(textOf(t, x))) {
			t.Errorf("other texts of %s", some(a))
		}
		for i := range a {
			a[i] = api.Span{From: -7, To: -7}
		}
		for i := range b {
			b[i] = api.Span{From: -7, To: -7}
		}
		for i := range first {
			if !slices.Equal(first[i], second[i]) || !plainValid(first[i]) {
				t.Fatalf("result %d of %s and %s: %s, %s", i, some(x), some(y), some(first[i]), some(second[i]))
			}
		}
		// A slice that a result had in common with an earlier one would change with it.
		for _, l := range first {
			clear(l)
		}
		for i := range second {
			if !plainValid(second[i]) {
				t.Fatalf("result %d of %s and %s has changed: %s", i, some(x), some(y), some(second[i]))
			}
		}
	}
	// What is behind the end of an argument stays, too.
	whole := run(0, 10, 10, 10)
	hours.Either(whole[:5], list(300, 400))
	hours.Both(whole[:5], list(300, 400))
	hours.Not(whole[:5])
	if !slices.Equal(whole, run(0, 10, 10, 10)) {
		t.Error(whole)
	}
}
