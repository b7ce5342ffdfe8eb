package tests

import (
	"fmt"
	"hash/crc32"
	"math/rand"
	"runtime"
	"strings"
	"sync"
	"testing"
	"time"

	"loop.example/g00704/impl"
)

// longText has so many bytes, in which runs are rare; no two sizes begin alike.
func longText(size int) string {
	random := rand.New(rand.NewSource(int64(size)))
	text := make([]byte, size)
	for i := range text {
		text[i] = byte(random.Intn(256))
	}
	return string(text)
}

// runnyText has so many bytes, mostly in runs of few bytes, among them 1.
func runnyText(size int) string {
	random := rand.New(rand.NewSource(int64(size)))
	var text []byte
	for len(text) < size {
		sign := "\x00\x01\x04a"[random.Intn(4)]
		for range 1 + random.Intn(9)*random.Intn(40) {
			text = append(text, sign)
		}
	}
	return string(text[:size])
}

// expectRuns takes all of one byte at once, and only then cuts it to runs of 255.
func expectRuns(s string) string {
	small := ""
	for s != "" {
		whole := 1
		for whole < len(s) && s[whole] == s[0] {
			whole++
		}
		for left := whole; left > 0; left -= 255 {
			small += expectRun(s[:1], min(left, 255))
		}
		s = s[whole:]
	}
	return small
}

func expectRun(sign string, count int) string {
	if count >= 4 || sign == "\x01" {
		return "\x01" + byteText(count) + sign
	}
	return strings.Repeat(sign, count)
}

// expectSpread refuses by what stands beside each run, without making runs again.
func expectSpread(s string) (string, bool) {
	text := ""
	last, count := "", 0
	for s != "" {
		sign, many, size := s[:1], 1, 1
		if sign == "\x01" {
			if len(s) < 3 {
				return "", false
			}
			sign, many, size = s[2:3], int(s[1]), 3
			if many == 0 || many < 4 && sign != "\x01" {
				return "", false
			}
		}
		switch {
		case sign != last || count == 255:
			last, count = sign, many
		case size == 3 || count >= 3:
			// A run goes on though it isn't full, or a fourth byte stands as it is.
			return "", false
		default:
			count++
		}
		text += strings.Repeat(sign, many)
		if len(text) > 3000 {
			return "", false
		}
		s = s[size:]
	}
	return text, true
}

func expectSquash(s string) string {
	if len(s) > 3000 {
		return ""
	}
	return fmt.Sprintf("SQ%05d%010d\n%s", len(s), crc32.ChecksumIEEE([]byte(s)), expectRuns(s))
}

// brief keeps a failure with a long text readable.
func brief(s string) string {
	if len(s) <= 60 {
		return fmt.Sprintf("%q", s)
	}
	return fmt.Sprintf("%q .. (%d bytes)", s[:60], len(s))
}

// checkSmall holds all that is told of a text against the second readings.
func checkSmall(t *testing.T, s string) {
	t.Helper()
	if got, want := impl.Crc(s), crc32.ChecksumIEEE([]byte(s)); got != want {
		t.Fatalf("Crc(%s) = %d, want %d", brief(s), got, want)
	}
	runs := impl.Runs(s)
	if want := expectRuns(s); runs != want {
		t.Fatalf("Runs(%s) = %s, want %s", brief(s), brief(runs), brief(want))
	}
	fits := len(s) <= impl.MaxData
	want := ""
	if fits {
		want = s
	}
	if text, ok := impl.Spread(runs); text != want || ok != fits {
		t.Fatalf("Spread of the runs of %s = %s, %v", brief(s), brief(text), ok)
	}
	small := impl.Squash(s)
	if small != expectSquash(s) {
		t.Fatalf("Squash(%s) = %s, want %s", brief(s), brief(small), brief(expectSquash(s)))
	}
	if text, ok := impl.Unsquash(small); text != want || ok != fits {
		t.Fatalf("Unsquash of the small form of %s = %s, %v", brief(s), brief(text), ok)
	}
	if len(runs) > 3*len(s) || len(small) > 3*len(s)+18 {
		t.Fatalf("%s has %d bytes of runs and %d of its small form", brief(s), len(runs), len(small))
	}
}

// checkSpread holds what is told of a text, which no text may have as its runs, against the second reading.
func checkSpread(t *testing.T, s string) {
	t.Helper()
	want, fits := expectSpread(s)
	got, ok := impl.Spread(s)
	if got != want || ok != fits {
		t.Fatalf("Spread(%s) = %s, %v; want %s, %v", brief(s), brief(got), ok, brief(want), fits)
	}
	if ok && impl.Runs(got) != s {
		t.Fatalf("Spread(%s) = %s, which has other runs", brief(s), brief(got))
	}
}

func TestMaxData(t *testing.T) {
	if impl.MaxData != 3000 {
		t.Errorf("MaxData = %d", impl.MaxData)
	}
}

func TestCrc(t *testing.T) {
	for _, c := range []struct {
		s    string
		want uint32
	}{
		{"", 0},
		{"a", 3904355907},
		{"123456789", 3421780262},
		{"\x00", 3523407757},
		{"\xff", 4278190080},
		{"\x00\x00\x00\x00", 558161692},
		{"\xff\xff\xff\xff", 4294967295},
		{"The quick brown fox jumps over the lazy dog", 1095738169},
	} {
		if got := impl.Crc(c.s); got != c.want {
			t.Errorf("Crc(%q) = %d, want %d", c.s, got, c.want)
		}
	}
}

func TestCrcOfEveryByte(t *testing.T) {
	seen := map[uint32]int{}
	for b := range 256 {
		got := impl.Crc(byteText(b))
		if want := crc32.ChecksumIEEE([]byte{byte(b)}); got != want {
			t.Errorf("Crc of the byte %d = %d, want %d", b, got, want)
		}
		if other, twice := seen[got]; twice {
			t.Errorf("the bytes %d and %d have one Crc", other, b)
		}
		seen[got] = b
	}
}

func TestCrcOfTextsThatAreOneButForABit(t *testing.T) {
	for _, s := range []string{"a", "abc", "\x00\x00\x00", "\xff\xff", "a line\nand another one\n", longText(50)} {
		seen := map[uint32]bool{impl.Crc(s): true}
		for i := range 8 * len(s) {
			turned := []byte(s)
			turned[i/8] ^= 1 << (i % 8)
			got := impl.Crc(string(turned))
			if want := crc32.ChecksumIEEE(turned); got != want {
				t.Errorf("Crc(%q) = %d, want %d", turned, got, want)
			}
			if seen[got] {
				t.Errorf("Crc(%q) is that of another one", turned)
			}
			seen[got] = true
		}
	}
}

func TestCrcOfLongTexts(t *testing.T) {
	for _, size := range []int{254, 255, 256, 257, 2999, 3000, 3001, 6000, 8001, 100000} {
		for _, s := range []string{longText(size), strings.Repeat("z", size), strings.Repeat("\x00", size), strings.Repeat("\x01", size), runnyText(size)} {
			if got, want := impl.Crc(s), crc32.ChecksumIEEE([]byte(s)); got != want {
				t.Errorf("Crc(%s) = %d, want %d", brief(s), got, want)
			}
		}
	}
}

func TestRuns(t *testing.T) {
	for _, c := range []struct{ s, want string }{
		{"", ""},
		{"a", "a"}, {"aa", "aa"}, {"aaa", "aaa"}, {"aaaa", "\x01\x04a"}, {"aaaaa", "\x01\x05a"},
		{"abab", "abab"}, {"aaab", "aaab"}, {"baaa", "baaa"}, {"xaaaaay", "x\x01\x05ay"},
		// Bytes 1, alone and more of them, and beside others.
		{"\x01", "\x01\x01\x01"}, {"\x01\x01", "\x01\x02\x01"}, {"\x01\x01\x01", "\x01\x03\x01"}, {"\x01\x01\x01\x01", "\x01\x04\x01"}, {"\x01\x01\x01\x01\x01", "\x01\x05\x01"},
		{"a\x01", "a\x01\x01\x01"}, {"\x01a", "\x01\x01\x01a"}, {"a\x01a", "a\x01\x01\x01a"}, {"\x01a\x01", "\x01\x01\x01a\x01\x01\x01"},
		{"a\x01\x01a", "a\x01\x02\x01a"}, {"aaaa\x01", "\x01\x04a\x01\x01\x01"}, {"\x01aaaa", "\x01\x01\x01\x01\x04a"}, {"aaa\x01aaa", "aaa\x01\x01\x01aaa"},
		{"\x01\x04a", "\x01\x01\x01\x04a"}, {"\x01\x01\x01a", "\x01\x03\x01a"}, {"\x00\x01\x02", "\x00\x01\x01\x01\x02"},
		// Runs of bytes 0, 10 and 255.
		{"\x00", "\x00"}, {"\x00\x00\x00", "\x00\x00\x00"}, {"\x00\x00\x00\x00", "\x01\x04\x00"}, {"\x00a", "\x00a"}, {"a\x00\x00\x00\x00", "a\x01\x04\x00"},
		{"\n\n\n", "\n\n\n"}, {"\n\n\n\n", "\x01\x04\n"}, {"a\n\n\n\n\nb", "a\x01\x05\nb"},
		{"\xff\xff\xff", "\xff\xff\xff"}, {"\xff\xff\xff\xff", "\x01\x04\xff"}, {"\xff\x01\xff", "\xff\x01\x01\x01\xff"},
		// Runs one behind the other.
		{"aaaabbbb", "\x01\x04a\x01\x04b"}, {"aaaabbbbb\x00\x00\x00\x00\xff\xff\xff\xff", "\x01\x04a\x01\x05b\x01\x04\x00\x01\x04\xff"}, {"aaabbb", "aaabbb"}, {"aaaabaaaa", "\x01\x04ab\x01\x04a"},
		// Bytes of signs that have more than one.
		{"éééé", "éééé"}, {"\xc3\xc3\xc3\xc3\xa9", "\x01\x04\xc3\xa9"}, {"\x80\x80\x80\x80", "\x01\x04\x80"},
	} {
		if got := impl.Runs(c.s); got != c.want {
			t.Errorf("Runs(%q) = %q, want %q", c.s, got, c.want)
		}
		if got, ok := impl.Spread(c.want); !ok || got != c.s {
			t.Errorf("Spread(%q) = %q, %v, want %q", c.want, got, ok, c.s)
		}
		checkSmall(t, c.s)
	}
}

func TestRunsThatAreFull(t *testing.T) {
	for _, c := range []struct {
		count int
		want  string
	}{
		{254, "\x01\xfez"}, {255, "\x01\xffz"}, {256, "\x01\xffzz"}, {257, "\x01\xffzzz"}, {258, "\x01\xffzzzz"}, {259, "\x01\xffz\x01\x04z"}, {260, "\x01\xffz\x01\x05z"},
		{509, "\x01\xffz\x01\xfez"}, {510, "\x01\xffz\x01\xffz"}, {511, "\x01\xffz\x01\xffzz"}, {513, "\x01\xffz\x01\xffzzzz"}, {514, "\x01\xffz\x01\xffz\x01\x04z"},
	} {
		for _, sign := range []string{"z", "\x00", "\n", "\x02", "\x04", "\xfe", "\xff"} {
			s := strings.Repeat(sign, c.count)
			want := strings.ReplaceAll(c.want, "z", sign)
			if sign == "\xff" || sign == "\xfe" {
				// The count may be the same byte: the text is told by its parts.
				want = expectRuns(s)
			}
			for _, around := range [][2]string{{"", ""}, {"x", ""}, {"", "x"}, {"x", "y"}, {"xxxx", "yyyy"}, {"\x01", "\x01"}} {
				text := around[0] + s + around[1]
				whole := expectRuns(around[0]) + want + expectRuns(around[1])
				if got := impl.Runs(text); got != whole {
					t.Errorf("Runs of %d times %q between %q = %q, want %q", c.count, sign, around, got, whole)
				}
				checkSmall(t, text)
			}
		}
	}
}

func TestRunsOfBytes1ThatAreFull(t *testing.T) {
	for _, c := range []struct {
		count int
		want  string
	}{
		{254, "\x01\xfe\x01"}, {255, "\x01\xff\x01"}, {256, "\x01\xff\x01\x01\x01\x01"}, {257, "\x01\xff\x01\x01\x02\x01"}, {258, "\x01\xff\x01\x01\x03\x01"}, {259, "\x01\xff\x01\x01\x04\x01"},
		{510, "\x01\xff\x01\x01\xff\x01"}, {511, "\x01\xff\x01\x01\xff\x01\x01\x01\x01"},
	} {
		s := strings.Repeat("\x01", c.count)
		if got := impl.Runs(s); got != c.want {
			t.Errorf("Runs of %d bytes 1 = %q, want %q", c.count, got, c.want)
		}
		if got, ok := impl.Spread(c.want); !ok || got != s {
			t.Errorf("Spread(%q) = %s, %v", c.want, brief(got), ok)
		}
		checkSmall(t, s)
	}
}

func TestRunsOfEveryByteAndCount(t *testing.T) {
	for b := range 256 {
		for _, count := range []int{1, 2, 3, 4, 5, 255, 256, 258, 259} {
			checkSmall(t, strings.Repeat(byteText(b), count))
		}
	}
	for count := range 1100 {
		checkSmall(t, strings.Repeat("z", count))
		checkSmall(t, strings.Repeat("\x01", count))
		checkSmall(t, "a"+strings.Repeat("\xff", count)+"\x01")
	}
}

func TestEveryShortTextComesBack(t *testing.T) {
	everyText("\x01a", 11, func(s string) { checkSmall(t, s) })
	everyText("\x00\x01\x04a", 6, func(s string) { checkSmall(t, s) })
	everyText("\x01\x02\n\xff", 6, func(s string) { checkSmall(t, s) })
}

func TestLongTextsComeBack(t *testing.T) {
	for _, size := range []int{1, 100, 1000, 2998, 2999, 3000, 3001, 3002, 3300, 6000, 9001} {
		for _, s := range []string{
			longText(size), runnyText(size), strings.Repeat("z", size), strings.Repeat("\x01", size), strings.Repeat("\x00", size), strings.Repeat("\xff", size),
			strings.Repeat("ab", size)[:size], strings.Repeat("a\x01", size)[:size], strings.Repeat("\x01a", size)[:size], strings.Repeat("aaaab", size)[:size], strings.Repeat("a line\n", size)[:size],
		} {
			checkSmall(t, s)
		}
	}
	for size := range 300 {
		checkSmall(t, longText(size))
		checkSmall(t, runnyText(10*size))
	}
}

func TestSpreadOfWhatNoTextHasAsItsRuns(t *testing.T) {
	full := "\x01\xffa"
	for _, s := range []string{
		// A byte 1 at the end and next to it.
		"\x01", "a\x01", "\x01\x04", "a\x01\x04", "\x01\x01", "\x01\x00", "\x01\xff", "\x01\x04a\x01", "\x01\x04a\x01\x04", "\x01\x01\x01\x01", "\x01\x01\x01\x01\x01", "aaa\x01",
		// A count of 0.
		"\x01\x00a", "\x01\x00\x01", "\x01\x00\x00", "a\x01\x00a", "a\x01\x00b", "\x01\x00ab", "\x01\x04a\x01\x00a", "\x01\x00a\x01\x04b",
		// A count of 1 to 3 of a byte that isn't 1.
		"\x01\x01a", "\x01\x02a", "\x01\x03a", "\x01\x01\x00", "\x01\x02\x02", "\x01\x03\xff", "b\x01\x03a", "\x01\x03ab", full + "\x01\x01a", full + "\x01\x03a",
		// Four and more bytes as they are.
		"aaaa", "aaaaa", "baaaa", "aaaab", "\x00\x00\x00\x00", "\n\n\n\n", "\xff\xff\xff\xff", strings.Repeat("a", 255), strings.Repeat("a", 256), full + "aaaa", full + "aaaaa",
		// A byte 1 as it is.
		"\x01a", "a\x01b", "\x01\x01\x01\x01a", "ab\x01cd\x01", "\x01\x02\x01\x01",
		// Runs of one byte right behind each other of which the first isn't full.
		"\x01\x04aa", "\x01\x04aaaa", "a\x01\x04a", "aaa\x01\x04a", "\x01\x04a\x01\x04a", "\x01\xfea\x01\x04a", "\x01\xfeaa", "\x01\x04a\x01\xffa", "\x01\x01\x01\x01\x01\x01", "\x01\x01\x01\x01\xff\x01", "\x01\xfe\x01\x01\x01\x01",
		"a" + full, full + "a" + full, full + "\x01\x04aa", full + "aaa\x01\x04a", full + full + "a\x01\x04a",
	} {
		if got, ok := impl.Spread(s); ok || got != "" {
			t.Errorf("Spread(%q) = %q, %v", s, got, ok)
		}
		checkSpread(t, s)
	}
}

func TestSpreadOfFullRuns(t *testing.T) {
	full := "\x01\xffa"
	for _, c := range []struct {
		s    string
		size int
	}{
		{full, 255}, {full + "a", 256}, {full + "aa", 257}, {full + "aaa", 258}, {full + "\x01\x04a", 259}, {full + "\x01\xfea", 509},
		{full + full, 510}, {full + full + "a", 511}, {full + full + "aaa", 513}, {full + full + "\x01\x04a", 514}, {full + full + full, 765},
	} {
		if got, ok := impl.Spread(c.s); !ok || got != strings.Repeat("a", c.size) {
			t.Errorf("Spread(%q) = %s, %v, want %d times a", c.s, brief(got), ok, c.size)
		}
	}
}

// It looks through all texts for the one with those runs: this is the chapter's own sentence.
func TestSpreadOfEveryShortText(t *testing.T) {
	for _, c := range []struct {
		alphabet         string
		most, mostOfText int
	}{
		// Three bytes of runs stand for at most as many as the greatest byte here tells, so that no text is left out.
		{"\x01\x04\x05", 7, 11},
		{"\x00\x01\x04", 7, 9},
		{"\x01\x02\x03\x04", 6, 8},
		{"\x01\x02", 9, 9},
	} {
		text := map[string]string{}
		everyText(c.alphabet, c.mostOfText, func(s string) { text[expectRuns(s)] = s })
		everyText(c.alphabet, c.most, func(s string) {
			want, has := text[s]
			if got, ok := impl.Spread(s); got != want || ok != has {
				t.Fatalf("Spread(%q) = %q, %v; want %q, %v", s, got, ok, want, has)
			}
		})
	}
	everyText("\x00\x01\x03\x04a\xff", 6, func(s string) { checkSpread(t, s) })
}

func TestSpreadOfEveryThreeBytes(t *testing.T) {
	for count := range 256 {
		for b := range 256 {
			checkSpread(t, "\x01"+byteText(count)+byteText(b))
		}
	}
}

func TestSpreadAtTheLimit(t *testing.T) {
	runs := strings.Repeat("\x01\xffz", 11)
	for _, c := range []struct {
		s    string
		size int
		ok   bool
	}{
		{runs + "\x01\xc2z", 2999, true}, {runs + "\x01\xc3z", 3000, true}, {runs + "\x01\xc4z", 3001, false}, {runs + "\x01\xffz", 3060, false}, {runs + "\x01\xc3zy", 3001, false}, {"y" + runs + "\x01\xc3z", 3001, false}, {"y" + runs + "\x01\xc2z", 3000, true},
		{strings.Repeat("ab", 1500), 3000, true}, {strings.Repeat("ab", 1500) + "a", 3001, false},
		{strings.Repeat("\x01\x01\x01a", 1500), 3000, true}, {strings.Repeat("\x01\x01\x01a", 1500) + "b", 3001, false}, {strings.Repeat("\x01\x01\x01a", 1500) + "\x01\x01\x01", 3001, false},
		{strings.Repeat("\x01\xffz", 100000), 0, false}, {strings.Repeat("\x01\xffa\x01\xffb", 100000), 0, false}, {strings.Repeat("\x01\x00a", 100000), 0, false}, {strings.Repeat("ab", 100000), 0, false}, {strings.Repeat("\x01", 100000), 0, false},
	} {
		got, ok := impl.Spread(c.s)
		if ok != c.ok || ok && len(got) != c.size || !ok && got != "" {
			t.Errorf("Spread(%s) = %s, %v", brief(c.s), brief(got), ok)
		}
		if ok && expectRuns(got) != c.s {
			t.Errorf("Spread(%s) = %s, which has other runs", brief(c.s), brief(got))
		}
	}
}

func TestSquash(t *testing.T) {
	for _, c := range []struct{ s, want string }{
		{"", "SQ000000000000000\n"},
		{"a", "SQ000013904355907\na"},
		{"aaaa\n", "SQ000050885795689\n\x01\x04a\n"},
		{"123456789", "SQ000093421780262\n123456789"},
		{"\x01", "SQ000012768625435\n\x01\x01\x01"},
		{"\x00\x00\x00\x00", "SQ000040558161692\n\x01\x04\x00"},
		{"\xff\xff\xff\xff", "SQ000044294967295\n\x01\x04\xff"},
		{"\n", "SQ000010852952723\n\n"},
	} {
		if got := impl.Squash(c.s); got != c.want {
			t.Errorf("Squash(%q) = %q, want %q", c.s, got, c.want)
		}
		if got, ok := impl.Unsquash(c.want); !ok || got != c.s {
			t.Errorf("Unsquash(%q) = %q, %v", c.want, got, ok)
		}
		checkSmall(t, c.s)
	}
}

// Most remainders have ten digits: those with noughts ahead are looked for.
func TestSquashHasNoughtsAhead(t *testing.T) {
	found := map[int]bool{}
	for n := 0; len(found) < 5 && n < 3000000; n++ {
		s := fmt.Sprint(n)
		sum := crc32.ChecksumIEEE([]byte(s))
		noughts := 10 - len(fmt.Sprint(sum))
		if found[noughts] {
			continue
		}
		found[noughts] = true
		want := fmt.Sprintf("SQ0000%d%s%d\n", len(s), strings.Repeat("0", noughts), sum)
		if got := impl.Squash(s); !strings.HasPrefix(got, want) {
			t.Errorf("Squash(%q) = %q, want %q ahead", s, got, want)
		}
		checkSmall(t, s)
	}
	if len(found) < 5 {
		t.Errorf("only %v noughts were found", found)
	}
	for _, c := range []struct {
		size int
		want string
	}{{9, "SQ00009"}, {10, "SQ00010"}, {99, "SQ00099"}, {100, "SQ00100"}, {999, "SQ00999"}, {1000, "SQ01000"}, {3000, "SQ03000"}} {
		if got := impl.Squash(longText(c.size)); !strings.HasPrefix(got, c.want) {
			t.Errorf("Squash of %d bytes begins with %s", c.size, brief(got))
		}
	}
}

func TestSquashAtTheLimit(t *testing.T) {
	for _, sign := range []string{"z", "\x01", "\x00", "ab"} {
		for size := 2990; size < 3010; size++ {
			s := strings.Repeat(sign, size)[:size]
			if got := impl.Squash(s); (got != "") != (size <= 3000) {
				t.Errorf("Squash of %d bytes = %s", size, brief(got))
			}
			checkSmall(t, s)
		}
	}
	if got := impl.Squash(strings.Repeat("a", 1000000)); got != "" {
		t.Errorf("Squash of a million bytes = %s", brief(got))
	}
}

func TestUnsquashOfWhatIsNoSmallForm(t *testing.T) {
	long := strings.Repeat("z", 3001)
	for _, s := range []string{
		"", "S", "SQ", "a", "\n", strings.Repeat("0", 17), strings.Repeat("0", 18), strings.Repeat(" ", 40),
		// The head alone, whole or in part.
		"SQ00001", "SQ000013904355907", "SQ000013904355907\n", "SQ00000", "SQ000000000000000", "SQ000053904355907\n",
		// No newline, or another byte in its place.
		"SQ000013904355907a", "SQ000013904355907 a", "SQ000013904355907\ra", "SQ000013904355907\r\na", "SQ000013904355907\x00a", "SQ000000000000000\r", "SQ000000000000000 ",
		// Other letters ahead.
		"sq000013904355907\na", "SX000013904355907\na", "QS000013904355907\na", " SQ000013904355907\na", "000013904355907\na", "SQ SQ000013904355907\na", "\nSQ000013904355907\na",
		// Signs, letters and blanks for digits.
		"SQ+00013904355907\na", "SQ-00013904355907\na", "SQ 00013904355907\na", "SQ    13904355907\na", "SQ0000a3904355907\na", "SQ00001+904355907\na", "SQ00001 904355907\na", "SQ0000139043559O7\na", "SQ0x0013904355907\na",
		"SQ-0000-000000000\n", "SQ+0000+000000000\n", "SQ         000000\n", "SQ00000          \n",
		// Fewer and more digits.
		"SQ13904355907\na", "SQ0000139043559070\na", "SQ0000013904355907\na", "SQ00013904355907\na", "SQ0000390435590\na", "SQ00000\n", "SQ0\n", "SQ00000000000000\n", "SQ0000000000000000\n",
		// Another length, another remainder.
		"SQ000003904355907\na", "SQ000023904355907\na", "SQ100013904355907\na", "SQ000013904355906\na", "SQ000013904355908\na", "SQ000010000000000\na", "SQ000018199323203\na", "SQ000000000000001\n", "SQ000010000000000\n", "SQ000004294967296\n",
		// Bytes behind, and other ones.
		"SQ000013904355907\naa", "SQ000013904355907\na\n", "SQ000013904355907\na\x00", "SQ000013904355907\na ", "SQ000013904355907\nb", "SQ000013904355907\n\na", "SQ000000000000000\na", "SQ000000000000000\n\n",
		// Of the right length and remainder, but no runs.
		"SQ000013904355907\n\x01\x01a", "SQ000050885795689\naaaa\n", "SQ000050885795689\n\x01\x03aa\n", "SQ000050885795689\na\x01\x03a\n", "SQ000012768625435\n\x01", "SQ000000000000000\n\x01\x00a",
		// Of a text that is too long.
		fmt.Sprintf("SQ%05d%010d\n%s", 3001, crc32.ChecksumIEEE([]byte(long)), expectRuns(long)),
	} {
		if got, ok := impl.Unsquash(s); ok || got != "" {
			t.Errorf("Unsquash(%q) = %q, %v", s, got, ok)
		}
	}
}

// checkChanged holds that a changed small form tells nothing, or just the text that has it.
func checkChanged(t *testing.T, small string) {
	t.Helper()
	got, ok := impl.Unsquash(small)
	if ok && expectSquash(got) != small {
		t.Fatalf("Unsquash(%s) = %s, which has another small form", brief(small), brief(got))
	}
	if !ok && got != "" {
		t.Fatalf("Unsquash(%s) = %s, false", brief(small), brief(got))
	}
}

func TestNoChangedSmallFormTellsAText(t *testing.T) {
	for _, s := range []string{"", "a", "\x00", "\x01", "\n", "aaaa", "aaaa\n", "a line\nand another one\n", "\x01\x01\x04\x04\x04\x04\x00", strings.Repeat("z", 259), longText(40), runnyText(400)} {
		small := impl.Squash(s)
		for i := range len(small) {
			for b := range 256 {
				changed := small[:i] + byteText(b) + small[i+1:]
				checkChanged(t, changed)
				if _, ok := impl.Unsquash(changed); ok != (changed == small) {
					t.Errorf("Unsquash(%s) tells a text, byte %d is %d", brief(changed), i, b)
				}
			}
			without, twice := small[:i]+small[i+1:], small[:i+1]+small[i:]
			checkChanged(t, without)
			checkChanged(t, twice)
			checkChanged(t, small[:i])
			checkChanged(t, small+small[i:])
			for _, changed := range []string{without, twice, small[:i], small + small[i:]} {
				if _, ok := impl.Unsquash(changed); ok {
					t.Errorf("Unsquash(%s) tells a text, changed at byte %d", brief(changed), i)
				}
			}
		}
	}
}

func TestChangedLongSmallForms(t *testing.T) {
	for _, s := range []string{longText(3000), runnyText(3000), strings.Repeat("z", 3000), strings.Repeat("\x01a", 1500)} {
		small := impl.Squash(s)
		for i := 0; i < len(small); i += 1 + len(small)/300 {
			for _, changed := range []string{small[:i] + byteText(int(small[i])^1) + small[i+1:], small[:i] + small[i+1:], small[:i+1] + small[i:], small[:i]} {
				checkChanged(t, changed)
			}
		}
	}
}

func TestNoTwoTextsHaveOneSmallForm(t *testing.T) {
	seen := map[string]string{}
	everyText("\x00\x01\x04a", 7, func(s string) {
		small := impl.Runs(s)
		if other, twice := seen[small]; twice {
			t.Fatalf("Runs(%q) and Runs(%q) are %q", other, s, small)
		}
		seen[small] = s
	})
}

func TestSmallFormsAtOnce(t *testing.T) {
	var group sync.WaitGroup
	for worker := range 8 {
		group.Go(func() {
			for size := range 200 {
				s := runnyText(10*size + worker)
				if got, ok := impl.Unsquash(impl.Squash(s)); !ok || got != s {
					t.Errorf("worker %d: %s doesn't come back", worker, brief(s))
				}
			}
		})
	}
	group.Wait()
}

// A goroutine that is left waiting would stay for ever: those that are just about to end are waited for.
func TestNoGoroutineIsLeft(t *testing.T) {
	before := runtime.NumGoroutine()
	for range 100 {
		for _, s := range []string{"", "a", "\x01", strings.Repeat("\x01\xffz", 1000), strings.Repeat("ab", 2000), strings.Repeat("aaaa", 700), "SQ000013904355907\nb"} {
			impl.Runs(s)
			impl.Spread(s)
			impl.Squash(s)
			impl.Unsquash(s)
			impl.Unsquash(impl.Squash(s) + "a")
		}
	}
	for wait := 0; runtime.NumGoroutine() > before && wait < 200; wait++ {
		time.Sleep(10 * time.Millisecond)
	}
	if after := runtime.NumGoroutine(); after > before {
		t.Errorf("%d goroutines, %d ahead of the calls", after, before)
	}
}
