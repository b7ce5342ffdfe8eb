package tests

import (
	"math"
	"regexp"
	"strconv"
	"strings"
	"testing"
	"time"

	"loop.example/g00704/impl"
)

const someTime = 1763283723 // November 16, 2025, 09:02:03, day 320 of its year

// timesToRender are the edges of times, and some with each field at its least and greatest.
var timesToRender = []int{
	0, 1, 59, 60, 3599, 3600, 86399, 86400, 31535999, 31536000, 68169600, 94694399, 951782400, 951868799,
	1709164800, 1709251199, someTime, 4107542399, 4107542400, 253370764800, impl.MaxTime - 1, impl.MaxTime,
}

// textOfLetter tells by Go's own calendar what a letter of a format stands for.
func textOfLetter(letter byte, n int) (string, bool) {
	u := time.Unix(int64(n), 0).UTC()
	switch letter {
	case 'Y':
		return u.Format("2006"), true
	case 'm':
		return u.Format("01"), true
	case 'd':
		return u.Format("02"), true
	case 'H':
		return u.Format("15"), true
	case 'M':
		return u.Format("04"), true
	case 'S':
		return u.Format("05"), true
	case 'j':
		return u.Format("002"), true
	case 's':
		return strconv.Itoa(n), true
	case '%':
		return "%", true
	}
	return "", false
}

// expectRender goes through a format by its first % each time, unlike the program.
func expectRender(format string, n int) string {
	ahead, behind, found := strings.Cut(format, "%")
	text := ahead
	for found {
		if behind == "" {
			return ""
		}
		piece, known := textOfLetter(behind[0], n)
		if !known {
			return ""
		}
		ahead, behind, found = strings.Cut(behind[1:], "%")
		text += piece + ahead
	}
	return text
}

func TestRender(t *testing.T) {
	for _, c := range []struct{ format, want string }{
		{"%Y", "2025"}, {"%m", "11"}, {"%d", "16"}, {"%H", "09"}, {"%M", "02"}, {"%S", "03"}, {"%j", "320"}, {"%s", "1763283723"}, {"%%", "%"},
		{"%Y%m%d%H%M%S%j%s%%", "202511160902033201763283723%"}, {"%%%s%j%S%M%H%d%m%Y", "%17632837233200302091611" + "2025"},
		{"-%Y%m%d", "-20251116"}, {"%H:%M:%S", "09:02:03"}, {".%s", ".1763283723"}, {"100%%", "100%"}, {"%%%%", "%%"}, {"%%Y", "%Y"}, {"%%%Y", "%2025"},
		{"%Y%Y", "20252025"}, {"%s.%s", "1763283723.1763283723"}, {"YmdHMSjs", "YmdHMSjs"}, {"a b\n", "a b\n"},
		{"", ""}, {"%", ""}, {"a%", ""}, {"%Y%", ""}, {"%%%", ""}, {"%x", ""}, {"%Y%x", ""}, {"%x%Y", ""}, {"% Y", ""}, {"%y", ""}, {"%D", ""}, {"%h", ""}, {"%J", ""}, {"%\x00", ""}, {"a%\x00b", ""}, {"%\xff", ""}, {"%é", ""},
	} {
		if got := impl.Render(c.format, someTime); got != c.want {
			t.Errorf("Render(%q, %d) = %q, want %q", c.format, someTime, got, c.want)
		}
	}
	const all = "%Y-%m-%d %H:%M:%S %j %s"
	for n, want := range map[int]string{
		0:                "1970-01-01 00:00:00 001 0",
		5:                "1970-01-01 00:00:05 001 5",
		951868799:        "2000-02-29 23:59:59 060 951868799",
		impl.MaxTime:     "9999-12-31 23:59:59 365 253402300799",
		-1:               "",
		impl.MaxTime + 1: "",
	} {
		if got := impl.Render(all, n); got != want {
			t.Errorf("Render(%q, %d) = %q, want %q", all, n, got, want)
		}
	}
}

func TestRenderOfNoTime(t *testing.T) {
	for _, n := range noTimes {
		for _, format := range []string{"", "a", "%%", "%Y", "%s", "-%Y%m%d", "%x", "%"} {
			if got := impl.Render(format, n); got != "" {
				t.Errorf("Render(%q, %d) = %q", format, n, got)
			}
		}
	}
}

func TestRenderOfEveryByte(t *testing.T) {
	for b := range 256 {
		plain, letter := string([]byte{'a', byte(b), 'b'}), string([]byte{'a', '%', byte(b), 'b'})
		for _, n := range timesToRender {
			if b != '%' && impl.Render(plain, n) != plain {
				t.Errorf("Render(%q, %d) = %q", plain, n, impl.Render(plain, n))
			}
			if got, want := impl.Render(letter, n), expectRender(letter, n); got != want {
				t.Errorf("Render(%q, %d) = %q, want %q", letter, n, got, want)
			}
		}
	}
}

func TestRenderOfEveryShortFormat(t *testing.T) {
	everyText("%YmdHMSjsx0", 4, func(format string) {
		for _, n := range []int{0, someTime} {
			if got, want := impl.Render(format, n), expectRender(format, n); got != want {
				t.Fatalf("Render(%q, %d) = %q, want %q", format, n, got, want)
			}
		}
	})
	long := strings.Repeat("%Y\xff%s%%", 5000)
	if got, want := impl.Render(long, someTime), strings.Repeat("2025\xff1763283723%", 5000); got != want {
		t.Error("a long format is told wrongly")
	}
}

func TestReadDate(t *testing.T) {
	const day = 1763251200 // midnight of someTime
	for _, c := range []struct {
		format, s string
		want      int
	}{
		// Y, m and d.
		{"%Y%m%d", "20251116", day}, {"-%Y%m%d", "-20251116", day}, {"%d.%m.%Y", "16.11.2025", day}, {"%d.%m.%Y %%", "16.11.2025 %", day},
		{"%Y%m%d", "19700101", 0}, {"%Y%m%d", "99991231", 253402214400}, {"\xff%Y\x00%m\n%d", "\xff2025\x0011\n16", day},
		// With some of H, M and S, or all.
		{"%Y%m%d%H", "2025111609", day + 9*3600}, {"%Y%m%d%M", "2025111602", day + 120}, {"%Y%m%d%S", "2025111603", day + 3},
		{"%H%M%S%d%m%Y", "09020316112025", someTime}, {"%Y-%m-%d_%H%M%S", "2025-11-16_090203", someTime}, {"%Y%m%d%H%M%S", "99991231235959", impl.MaxTime},
		{"%Y%m%d%H", "2025111623", day + 23*3600}, {"%Y%m%d%H", "2025111624", -1}, {"%Y%m%d%M", "2025111659", day + 59*60}, {"%Y%m%d%M", "2025111660", -1},
		{"%Y%m%d%S", "2025111659", day + 59}, {"%Y%m%d%S", "2025111660", -1}, {"%Y%m%d%H%M%S", "20161231235960", -1},
		// Days, months and years at their bounds.
		{"%Y%m%d", "20251130", 1764460800}, {"%Y%m%d", "20251131", -1}, {"%Y%m%d", "20251100", -1}, {"%Y%m%d", "20250016", -1}, {"%Y%m%d", "20251231", 1767139200},
		{"%Y%m%d", "20251232", -1}, {"%Y%m%d", "20251301", -1}, {"%Y%m%d", "20259999", -1}, {"%Y%m%d", "20250131", 1738281600}, {"%Y%m%d", "20250431", -1},
		{"%Y%m%d", "20240229", 1709164800}, {"%Y%m%d", "20000229", 951782400}, {"%Y%m%d", "20250229", -1}, {"%Y%m%d", "21000229", -1}, {"%Y%m%d", "20240230", -1},
		{"%Y%m%d", "19691231", -1}, {"%Y%m%d", "19000101", -1}, {"%Y%m%d", "00010101", -1}, {"%Y%m%d", "00000000", -1},
		// Formats that lack one of Y, m and d, and have no s.
		{"%Y%m", "202511", -1}, {"%Y%d", "202516", -1}, {"%m%d", "1116", -1}, {"%Y", "2025", -1}, {"%Y%j", "2025320", -1}, {"%H%M%S", "090203", -1}, {"%j", "320", -1},
		{"", "", -1}, {"a", "a", -1}, {"%%", "%", -1}, {"", "5", -1}, {"%%Y%m%d", "%Y1116", -1}, {"Ymd", "Ymd", -1}, {"%%s", "%s", -1}, {"s", "5", -1},
		// s.
		{"%s", "0", 0}, {"%s", "5", 5}, {".%s", ".5", 5}, {"%s.", "1763283723.", someTime}, {"%s", "253402300799", impl.MaxTime}, {"%s", "253402300800", -1},
		{"%s", "999999999999", -1}, {"%s", "1000000000000", -1}, {"%s", "18446744073709551621", -1}, {"%s", "00", -1}, {"%s", "05", -1}, {"%s", "0000000000005", -1}, {"%s", "0253402300799", -1},
		{"%s", "", -1}, {".%s", ".", -1}, {"%s", "-1", -1}, {"%s", "+5", -1}, {"%s", " 5", -1}, {"%s", "5 ", -1}, {"%s", "5x", -1}, {"%s", "x5", -1}, {"%s", "٥", -1},
		// s takes all digits that there are, also those that stand for what is behind it.
		{"%s5", "55", -1}, {"%s0", "00", -1}, {"%s%s", "55", -1}, {"%s%s", "00", -1}, {"%s%Y", "51970", -1}, {"%s%Y%m%d", "019700101", -1}, {"%s%%", "5%", 5}, {"5%s", "55", 5}, {"%Y%s", "19705", 5}, {"%sx5", "5x5", 5},
		// s and other letters: s tells the whole time, and the others must fit it.
		{"%Y%m%d %s", "20251116 1763283723", someTime}, {"%Y%m%d %s", "20251117 1763283723", -1}, {"%s %Y%m%d", "1763283723 20251116", someTime}, {"%s %Y%m%d", "1763283723 20261116", -1},
		{"%Y%m%d%H%M%S.%s", "20251116090203.1763283723", someTime}, {"%Y%m%d%H%M%S.%s", "20251116090204.1763283723", -1}, {"%H.%s", "09.1763283723", someTime}, {"%H.%s", "10.1763283723", -1},
		{"%s.%M", "1763283723.02", someTime}, {"%s.%M", "1763283723.03", -1}, {"%Y.%s", "2025.1763283723", someTime}, {"%Y.%s", "2024.1763283723", -1}, {"%S.%s", "xx.5", -1}, {"%S.%s", "5.5", -1},
		{"%j.%s", "320.1763283723", someTime}, {"%j.%s", "321.1763283723", -1}, {"%Y.%s", "9999.253402300799", impl.MaxTime}, {"%Y.%s", "9999.253402300800", -1},
		// A thing that is said twice.
		{"%Y%m%d%Y", "202511162025", day}, {"%Y%m%d%Y", "202511162026", -1}, {"%Y%Y%m%d", "202420251116", -1}, {"%Y%m%m%d", "2025111116", day}, {"%Y%m%m%d", "2025101116", -1}, {"%Y%m%m%d", "2025111216", -1},
		{"%Y%m%d%d", "2025111616", day}, {"%Y%m%d%d", "2025111617", -1}, {"%Y%m%d%d", "2025111716", -1}, {"%Y%m%d%H%H", "202511160909", day + 9*3600}, {"%Y%m%d%H%H", "202511160910", -1}, {"%Y%m%d%H%H", "202511169909", -1},
		{"%Y%m%d%M%M", "202511160202", day + 120}, {"%Y%m%d%M%M", "202511160302", -1}, {"%Y%m%d%S%S", "202511160303", day + 3}, {"%Y%m%d%S%S", "202511160304", -1}, {"%Y%m%d%S%S", "20251116xx03", -1},
		{"%s %s", "5 5", 5}, {"%s %s", "5 6", -1}, {"%s %s", "6 5", -1}, {"%s %s", "05 5", -1}, {"%s %s", "x 5", -1}, {"%Y%m%d%j%j", "20251116320320", day}, {"%Y%m%d%j%j", "20251116321320", -1}, {"%Y%m%d%j%j", "20251116320321", -1},
		// j.
		{"%Y%m%d%j", "20251116320", day}, {"%j%Y%m%d", "32020251116", day}, {"%Y%m%d%j", "20251116321", -1}, {"%Y%m%d%j", "20251116319", -1}, {"%Y%m%d%j", "20251116000", -1}, {"%Y%m%d%j", "20251116999", -1},
		{"%Y%m%d%j", "20241116321", 1731715200}, {"%Y%m%d%j", "20241231366", 1735603200}, {"%Y%m%d%j", "20251231366", -1}, {"%Y%m%d%j", "20251116xxx", -1}, {"%Y%m%d%j", "2025111632", -1},
		// Texts that are too short or too long, or have other bytes.
		{"-%Y%m%d", "-2025111", -1}, {"-%Y%m%d", "-202511166", -1}, {"-%Y%m%d", "-20251116 ", -1}, {"-%Y%m%d", "20251116", -1}, {"-%Y%m%d", "x20251116", -1}, {"-%Y%m%d", "-", -1}, {"-%Y%m%d", "", -1}, {"%Y%m%d", "", -1},
		{"%Y%m%d-", "20251116", -1}, {"%Y%m%d-", "20251116+", -1}, {"%Y-%m-%d", "2025-1-16", -1}, {"%Y-%m-%d", "2025-11-1", -1}, {"%Y-%m-%d", "20251-1-16", -1}, {"%Y-%m-%d", "2025/11/16", -1},
		{"%Y%m%d", "2025111x", -1}, {"%Y%m%d", "202511 6", -1}, {"%Y%m%d", "+0251116", -1}, {"%Y%m%d", "2025-116", -1}, {"%Y%m%d", "2025111\xff", -1}, {"%Y%m%d", "20251é6", -1}, {"%Y%m%d", "\x0002511" + "16", -1}, {"%Y%m%d", "2025111:", -1}, {"%Y%m%d", "2025111/", -1},
		// Formats that are broken.
		{"%Y%m%d%", "20251116", -1}, {"%Y%m%d%", "20251116%", -1}, {"%Y%m%d%", "", -1}, {"%Y%m%d%x", "20251116", -1}, {"%Y%m%d%x", "20251116x", -1}, {"%Y%m%d%x", "20251116%x", -1}, {"%x%s", "5", -1}, {"%s%", "5", -1},
		{"%s%", "", -1}, {"%s%x", "", -1}, {"%", "", -1}, {"%", "%", -1}, {"%x", "", -1}, {"%s%\x00", "5", -1}, {"%s%\x00", "5\x00", -1}, {"%x%Y%m%d", "", -1},
	} {
		if got := impl.ReadDate(c.format, c.s); got != c.want {
			t.Errorf("ReadDate(%q, %q) = %d, want %d", c.format, c.s, got, c.want)
		}
	}
}

// hasLetter tells whether a format has a letter behind a % of its own.
func hasLetter(format string, letter byte) bool {
	return strings.Contains(strings.ReplaceAll(format, "%%", ""), "%"+string(letter))
}

// keptTime is the time that a format keeps of a time; -1 where it doesn't tell enough.
func keptTime(format string, n int) int {
	if hasLetter(format, 's') {
		return n
	}
	if !hasLetter(format, 'Y') || !hasLetter(format, 'm') || !hasLetter(format, 'd') {
		return -1
	}
	kept := n - n%86400
	if hasLetter(format, 'H') {
		kept += n % 86400 / 3600 * 3600
	}
	if hasLetter(format, 'M') {
		kept += n % 3600 / 60 * 60
	}
	if hasLetter(format, 'S') {
		kept += n % 60
	}
	return kept
}

var digitsBehindS = regexp.MustCompile(`%s(?:[0-9]|%[YmdHMSjs])`)

// readsBack tells whether no digit stands right behind an s, which would take it.
func readsBack(format string) bool {
	return !digitsBehindS.MatchString(strings.ReplaceAll(format, "%%", "\x01"))
}

func TestDatesComeBackFromTheirFormats(t *testing.T) {
	pieces := []string{"", "%Y", "%m", "%d", "%H", "%M", "%S", "%j", "%s", "%%", "-", "0"}
	for _, begin := range []string{"", "%Y%m%d", "%d/%m/%Y.", "%s", "%s_"} {
		for _, a := range pieces {
			for _, b := range pieces {
				for _, c := range pieces {
					format := begin + a + b + c
					for _, n := range timesToRender {
						want := keptTime(format, n)
						if !readsBack(format) {
							want = -1
						}
						if got := impl.ReadDate(format, impl.Render(format, n)); got != want {
							t.Fatalf("ReadDate(%q, %q) = %d, want %d", format, impl.Render(format, n), got, want)
						}
					}
				}
			}
		}
	}
}

// What is read is rendered to the text that it was read from: so no text but
// those of TestDatesComeBackFromTheirFormats has a time.
func TestNoOtherTextHasADate(t *testing.T) {
	look := func(format, s string) {
		n := impl.ReadDate(format, s)
		if n != -1 && (n < 0 || n > impl.MaxTime || expectRender(format, n) != s || keptTime(format, n) != n) {
			t.Fatalf("ReadDate(%q, %q) = %d", format, s, n)
		}
	}
	for _, format := range []string{"%Y%m%d", "-%Y-%m-%d %H:%M:%S", "%d%m%Y%j", "%Y%m%d%Y%H", "%s", ".%s.", "%Y%m%d.%s", "%s %s", "%M%s", "%s%%%Y", "%Y", "%Y%m%H%M%S"} {
		for _, n := range timesToRender {
			s := impl.Render(format, n)
			for i := range len(s) + 1 {
				look(format, s[:i])
				look(format, s[i:])
				for _, sign := range []byte("0123456789-:/ %x\x00\xff") {
					look(format, s[:i]+string([]byte{sign})+s[i:])
					if i < len(s) {
						look(format, s[:i]+string([]byte{sign})+s[i+1:])
						look(format, s[:i]+s[i+1:])
					}
				}
			}
		}
	}
}

func TestEveryDayComesBackFromItsText(t *testing.T) {
	everyDay(func(c calendarDay) {
		// All centuries are alike but for their first years, and those of all have their turn.
		if c.year > 2410 && c.year%100 > 8 && c.year < 9990 {
			return
		}
		n := c.number * 86400
		s := impl.Render("-%Y%m%d", n)
		if len(s) != 9 || impl.ReadDate("-%Y%m%d", s) != n {
			t.Fatalf("day %v is %q", c, s)
		}
	})
	for n := 0; n <= impl.MaxTime; n += 23456789 {
		if s := impl.Render("%Y%m%d%H%M%S", n); impl.ReadDate("%Y%m%d%H%M%S", s) != n {
			t.Fatalf("time %d is %q", n, s)
		}
		if s := impl.Render("%s", n); impl.ReadDate("%s", s) != n {
			t.Fatalf("time %d is %q", n, s)
		}
	}
}

func TestAgeOf(t *testing.T) {
	for s, want := range map[string]int{
		// Digits alone.
		"0": 0, "10": 10, "007": 7, "000000000": 0, "999999999": 999999999, "1000000000": -1, "0000000001": -1,
		// Digits alone behind a part.
		"1d1": -1, "1s0": -1, "1w2d3": -1, "1m999999999": -1,
		// One part.
		"0s": 0, "1s": 1, "1m": 60, "1h": 3600, "1d": 86400, "1w": 604800, "90s": 90, "048h": 172800, "0w": 0, "999999999s": 999999999, "999999999m": 59999999940, "1000000000s": -1, "0000000001s": -1,
		// Several parts, in any order, one letter twice.
		"1d12h": 129600, "2m30s": 150, "1w1d1h1m1s": 694861, "1s1m1h1d1w": 694861, "1s1d": 86401, "1s1s": 2, "1d1d1d": 259200, "1h2w3h": 1224000, "0s0s0m": 0, "1s1000000000s": -1,
		// No digits ahead of a letter.
		"d": -1, "s1": -1, "1dh": -1, "d1h": -1, "1ss": -1,
		// Other texts.
		"": -1, "1x": -1, "1D": -1, "1S": -1, "1y": -1, "1M": -1, " 1s": -1, "1s ": -1, "1 s": -1, "1d 1h": -1, "-1": -1, "-1s": -1, "+1s": -1, "1.5h": -1, "1s\n": -1, "1\x00": -1, "1\xff": -1, "é": -1, "٣s": -1, "1s%": -1, "1/s": -1, "1:": -1,
		// Sums at MaxTime and one more.
		"418985w1d23h59m59s": impl.MaxTime, "418985w1d23h59m60s": -1, "418985w1d23h59m59s0w": impl.MaxTime, "418985w1d23h59m59s1s": -1, "1s418985w1d23h59m59s": -1,
		"418985w": 253402128000, "418986w": -1, "999999999w": -1, "2932896d23h59m59s": impl.MaxTime, "2932897d": -1, "70389527h59m59s": impl.MaxTime, "70389528h": -1, "999999999d": -1, "999999999h": -1,
	} {
		if got := impl.AgeOf(s); got != want {
			t.Errorf("AgeOf(%q) = %d, want %d", s, got, want)
		}
	}
	if got := impl.AgeOf(strings.Repeat("999999999s", 253)); got != 252999999747 {
		t.Error("many parts make", got)
	}
	// So many weeks that a sum of them all would have wrapped to another number.
	for _, parts := range []int{15251, 30501, 45752, 100000} {
		if got := impl.AgeOf(strings.Repeat("999999999w", parts)); got != -1 {
			t.Errorf("%d parts make %d", parts, got)
		}
	}
}

var (
	ageAlone = regexp.MustCompile(`^[0-9]{1,9}$`)
	ageParts = regexp.MustCompile(`^(?:[0-9]{1,9}[wdhms])+$`)
	agePart  = regexp.MustCompile(`([0-9]+)([wdhms])`)
	sizeForm = regexp.MustCompile(`^([0-9]{1,9})([kMG]?)$`)
)

func expectAge(s string) int {
	if ageAlone.MatchString(s) {
		n, _ := strconv.Atoi(s)
		return n
	}
	if !ageParts.MatchString(s) {
		return -1
	}
	units := map[string]int{"w": 604800, "d": 86400, "h": 3600, "m": 60, "s": 1}
	sum := 0
	for _, part := range agePart.FindAllStringSubmatch(s, -1) {
		n, _ := strconv.Atoi(part[1])
		sum += n * units[part[2]]
	}
	if sum > impl.MaxTime {
		return -1
	}
	return sum
}

func TestAgeOfEveryShortText(t *testing.T) {
	everyText("09wdhmsx", 5, func(s string) {
		if got, want := impl.AgeOf(s), expectAge(s); got != want {
			t.Fatalf("AgeOf(%q) = %d, want %d", s, got, want)
		}
	})
	for b := range 256 {
		for _, s := range []string{string([]byte{byte(b)}), string([]byte{'1', byte(b)}), string([]byte{'1', 's', byte(b)}), string([]byte{'1', byte(b), '1', 's'}), string([]byte{byte(b), '1', 's'})} {
			if got, want := impl.AgeOf(s), expectAge(s); got != want {
				t.Errorf("AgeOf(%q) = %d, want %d", s, got, want)
			}
		}
	}
}

func TestAgeText(t *testing.T) {
	for n, want := range map[int]string{
		0: "0s", 1: "1s", 59: "59s", 60: "1m", 61: "1m1s", 3540: "59m", 3599: "59m59s", 3600: "1h", 3601: "1h1s", 82800: "23h", 86399: "23h59m59s", 86400: "1d", 86460: "1d1m",
		518400: "6d", 604799: "6d23h59m59s", 604800: "1w", 604801: "1w1s", 604860: "1w1m", 90061: "1d1h1m1s", 694861: "1w1d1h1m1s", 1209599: "1w6d23h59m59s", 6048000: "10w",
		253402128000: "418985w", impl.MaxTime - 1: "418985w1d23h59m58s", impl.MaxTime: "418985w1d23h59m59s",
		-1: "", -86400: "", impl.MaxTime + 1: "", 999999999 * 604800: "", 1000000000 * 604800: "", math.MinInt: "", math.MaxInt: "",
	} {
		if got := impl.AgeText(n); got != want {
			t.Errorf("AgeText(%d) = %q, want %q", n, got, want)
		}
	}
	for _, n := range noTimes {
		if got := impl.AgeText(n); got != "" {
			t.Errorf("AgeText(%d) = %q", n, got)
		}
	}
}

var ageShape = regexp.MustCompile(`^(?:[1-9][0-9]*w)?(?:[1-6]d)?(?:(?:1[0-9]|2[0-3]|[1-9])h)?(?:[1-5]?[0-9]m)?(?:[1-5]?[0-9]s)?$`)

func TestAgesComeBackFromTheirText(t *testing.T) {
	look := func(n int) {
		s := impl.AgeText(n)
		if impl.AgeOf(s) != n || !ageShape.MatchString(s) || s == "" {
			t.Fatalf("AgeText(%d) = %q, of which AgeOf tells %d", n, s, impl.AgeOf(s))
		}
		for _, nothing := range []string{"w0", "d0", "h0", "m0"} {
			if strings.Contains(s, nothing) {
				t.Fatalf("AgeText(%d) = %q", n, s)
			}
		}
	}
	for n := range 700000 {
		look(n)
	}
	for n := 0; n <= impl.MaxTime; n += 1234567 {
		look(n)
	}
	for n := impl.MaxTime - 100000; n <= impl.MaxTime; n++ {
		look(n)
	}
}

func TestSizeOf(t *testing.T) {
	for s, want := range map[string]int{
		"0": 0, "5": 5, "512": 512, "999999999": 999999999, "1000000000": -1, "0000000005": -1, "007": 7, "000000001": 1,
		"0k": 0, "2k": 2048, "1k": 1024, "010k": 10240, "999999999k": 1023999998976, "1000000000k": -1,
		"1M": 1048576, "100M": 104857600, "0M": 0, "999999999M": 1048575998951424, "1000000000M": -1,
		"1G": 1073741824, "03G": 3221225472, "0G": 0, "999999999G": 1073741822926258176, "1000000000G": -1,
		"": -1, "k": -1, "M": -1, "G": -1, "1K": -1, "1m": -1, "1g": -1, "1T": -1, "1b": -1, "1kk": -1, "1kM": -1, "1MG": -1, "1kB": -1, "1k1": -1, "1k1M": -1, "k1": -1,
		" 1": -1, "1 ": -1, "1 k": -1, "-1": -1, "+1": -1, "1.5k": -1, "1k\n": -1, "1\x00": -1, "1\xff": -1, "٣": -1, "1/": -1, "1:": -1,
	} {
		if got := impl.SizeOf(s); got != want {
			t.Errorf("SizeOf(%q) = %d, want %d", s, got, want)
		}
	}
}

func TestSizeOfEveryShortText(t *testing.T) {
	expect := func(s string) int {
		parts := sizeForm.FindStringSubmatch(s)
		if parts == nil {
			return -1
		}
		n, _ := strconv.Atoi(parts[1])
		return n << map[string]int{"": 0, "k": 10, "M": 20, "G": 30}[parts[2]]
	}
	everyText("019kMGKx", 5, func(s string) {
		if got, want := impl.SizeOf(s), expect(s); got != want {
			t.Fatalf("SizeOf(%q) = %d, want %d", s, got, want)
		}
	})
	for b := range 256 {
		for _, s := range []string{string([]byte{byte(b)}), string([]byte{'1', byte(b)}), string([]byte{byte(b), '1'}), string([]byte{'1', 'k', byte(b)})} {
			if got, want := impl.SizeOf(s), expect(s); got != want {
				t.Errorf("SizeOf(%q) = %d, want %d", s, got, want)
			}
		}
	}
}

func TestGreaterSizesHaveGreaterLetters(t *testing.T) {
	for _, digits := range []string{"1", "9", "1023", "1024", "999999999"} {
		last := 0
		for _, letter := range []string{"", "k", "M", "G"} {
			n := impl.SizeOf(digits + letter)
			if n <= last || letter != "" && n != last*1024 {
				t.Errorf("SizeOf(%q) = %d behind %d", digits+letter, n, last)
			}
			last = n
		}
	}
}
