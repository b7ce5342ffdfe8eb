package tests

import (
	"bytes"
	"fmt"
	"math"
	"slices"
	"strings"
	"testing"

	"loop.example/g00704/impl"
)

// everyText calls look with each text of at most most bytes of the alphabet.
func everyText(alphabet string, most int, look func(string)) {
	level := []string{""}
	for size := 0; ; size++ {
		for _, s := range level {
			look(s)
		}
		if size == most {
			return
		}
		var next []string
		for _, s := range level {
			for i := range len(alphabet) {
				next = append(next, s+alphabet[i:i+1])
			}
		}
		level = next
	}
}

func TestDecTextOfNumbers(t *testing.T) {
	for _, c := range []struct {
		n    int
		want string
	}{
		{0, "0"}, {7, "7"}, {10, "10"}, {-1, "-1"}, {-120, "-120"},
		{999999999999, "999999999999"}, {1000000000000, "1000000000000"},
		{math.MaxInt, "9223372036854775807"}, {math.MinInt, "-9223372036854775808"},
	} {
		if got := impl.DecText(c.n); got != c.want {
			t.Errorf("DecText(%d) = %q, want %q", c.n, got, c.want)
		}
	}
}

func TestReadDecTakesWhatDecTextGives(t *testing.T) {
	numbers := []int{0, 1, 9, 10, 99, 100, 999999999998, 999999999999}
	for n := 1; n < 999999999999; n = n*3 + 1 {
		numbers = append(numbers, n)
	}
	for _, n := range numbers {
		if got := impl.ReadDec(impl.DecText(n)); got != n {
			t.Errorf("ReadDec(DecText(%d)) = %d", n, got)
		}
	}
	for _, n := range []int{-1, -999999999999, 1000000000000, math.MaxInt, math.MinInt} {
		if got := impl.ReadDec(impl.DecText(n)); got != -1 {
			t.Errorf("ReadDec(DecText(%d)) = %d, want -1", n, got)
		}
	}
}

func TestReadDecRefuses(t *testing.T) {
	for _, s := range []string{
		"", "-", "-0", "-1", "+1", "00", "01", "012", "000000000000", "1 ", " 1", "1\n", "1_0", "0x1", "1.0", "1e3", "a",
		"0999999999999", "1000000000000", "99999999999999999999", "18446744073709551617", "1\xff", "\xff", "1\x00",
		"\u0661", "\uff11", strings.Repeat("9", 13), strings.Repeat("1", 5000),
	} {
		if got := impl.ReadDec(s); got != -1 {
			t.Errorf("ReadDec(%q) = %d, want -1", s, got)
		}
	}
}

func TestReadDecOnEveryShortText(t *testing.T) {
	want := map[string]int{}
	for n := range 10000 {
		want[fmt.Sprint(n)] = n
	}
	everyText("0189-+/: ", 4, func(s string) {
		n, ok := want[s]
		if !ok {
			n = -1
		}
		if got := impl.ReadDec(s); got != n {
			t.Errorf("ReadDec(%q) = %d, want %d", s, got, n)
		}
	})
}

func TestPadText(t *testing.T) {
	for _, c := range []struct {
		n, digits int
		want      string
	}{
		{0, 1, "0"}, {0, 12, "000000000000"}, {7, 1, "7"}, {7, 3, "007"}, {1234, 3, "1234"}, {1234, 4, "1234"}, {1234, 5, "01234"},
		{999999999999, 12, "999999999999"}, {1000000000000, 12, "1000000000000"}, {math.MaxInt, 1, "9223372036854775807"},
		{7, 0, ""}, {7, -1, ""}, {7, 13, ""}, {7, math.MaxInt, ""}, {7, math.MinInt, ""},
		{-1, 3, ""}, {math.MinInt, 12, ""}, {-1, 13, ""},
	} {
		if got := impl.PadText(c.n, c.digits); got != c.want {
			t.Errorf("PadText(%d, %d) = %q, want %q", c.n, c.digits, got, c.want)
		}
	}
	for n := 0; n < 1000000000000000; n = n*7 + 1 {
		for digits := 1; digits <= 12; digits++ {
			if got, want := impl.PadText(n, digits), fmt.Sprintf("%0*d", digits, n); got != want {
				t.Errorf("PadText(%d, %d) = %q, want %q", n, digits, got, want)
			}
		}
	}
}

func TestOctTextOfModes(t *testing.T) {
	for n := range 512 {
		if got, want := impl.OctText(n), fmt.Sprintf("0%03o", n); got != want {
			t.Errorf("OctText(%d) = %q, want %q", n, got, want)
		}
	}
	for _, n := range []int{-1, 512, 513, 4095, math.MaxInt, math.MinInt} {
		if got := impl.OctText(n); got != "" {
			t.Errorf("OctText(%d) = %q, want none", n, got)
		}
	}
}

func TestReadOctOnEveryShortText(t *testing.T) {
	want := map[string]int{}
	for n := range 512 {
		want[fmt.Sprintf("%03o", n)] = n
		want[fmt.Sprintf("0%03o", n)] = n
	}
	everyText("01678/- ", 5, func(s string) {
		n, ok := want[s]
		if !ok {
			n = -1
		}
		if got := impl.ReadOct(s); got != n {
			t.Errorf("ReadOct(%q) = %d, want %d", s, got, n)
		}
	})
	for s, n := range want {
		if got := impl.ReadOct(s); got != n {
			t.Errorf("ReadOct(%q) = %d, want %d", s, got, n)
		}
	}
	for _, s := range []string{"00644", "0o644", "1000", "1644", "64\xff", "\xff\xff\xff", "6\u0664", strings.Repeat("0", 5000)} {
		if got := impl.ReadOct(s); got != -1 {
			t.Errorf("ReadOct(%q) = %d, want -1", s, got)
		}
	}
}

func TestLines(t *testing.T) {
	for _, c := range []struct {
		s    string
		want []string
	}{
		{"", nil}, {"\n", []string{""}}, {"\n\n", []string{"", ""}}, {"a", []string{"a"}}, {"a\n", []string{"a"}},
		{"a\nb", []string{"a", "b"}}, {"a\n\nb", []string{"a", "", "b"}}, {"a\n\n", []string{"a", ""}}, {"\na", []string{"", "a"}},
		{" a\t\r\n\x00", []string{" a\t\r", "\x00"}}, {"\xff\n\xc3\n\xa9", []string{"\xff", "\xc3", "\xa9"}},
		{"\"a\nb\"", []string{"\"a", "b\""}}, {"a\u2028b\u0085", []string{"a\u2028b\u0085"}},
	} {
		if got := impl.Lines(c.s); !slices.Equal(got, c.want) {
			t.Errorf("Lines(%q) = %q, want %q", c.s, got, c.want)
		}
	}
}

func TestLinesOnEveryShortText(t *testing.T) {
	everyText("a\n\xc3\xa9\"", 6, func(s string) {
		want := strings.Split(s, "\n")
		if want[len(want)-1] == "" {
			want = want[:len(want)-1]
		}
		if got := impl.Lines(s); !slices.Equal(got, want) {
			t.Errorf("Lines(%q) = %q, want %q", s, got, want)
		}
	})
}

func TestWords(t *testing.T) {
	for _, c := range []struct {
		s    string
		want []string
	}{
		{"", nil}, {" ", nil}, {" \t \t", nil}, {"a", []string{"a"}}, {" a\tbc ", []string{"a", "bc"}}, {"a  \t b", []string{"a", "b"}},
		{"a\nb", []string{"a\nb"}}, {"a\r b\x00", []string{"a\r", "b\x00"}}, {"a\u00a0b", []string{"a\u00a0b"}},
		{"\"b c\"d", []string{"b cd"}}, {"a\"b c\"d", []string{"ab cd"}}, {"a\"b c\"", []string{"ab c"}}, {"\"a\tb\"", []string{"a\tb"}},
		{"\"a\"\"b\"", []string{"ab"}}, {"\"a\" \"b\"", []string{"a", "b"}}, {"\" \"", []string{" "}}, {"\"a\nb\"", []string{"a\nb"}},
		{"\"\"", []string{""}}, {"\"\" \"\"", []string{"", ""}}, {"\"\"\"\"", []string{""}}, {"a\"\"b", []string{"ab"}}, {"a \"\" b", []string{"a", "", "b"}},
		{"\"x y", []string{"x y"}}, {"a\"x y ", []string{"ax y "}}, {"a \"", []string{"a", ""}}, {"a\"", []string{"a"}}, {"\"", []string{""}},
		{"\"a\"b\"c d", []string{"abc d"}}, {"\"\"\" \t", []string{" \t"}}, {"\\\"a b", []string{"\\a b"}}, {"'a b'", []string{"'a", "b'"}},
		{"\xff \xc3\"\xa9 \"\xe2\x82", []string{"\xff", "\xc3\xa9 \xe2\x82"}}, {"\xe2\" \"", []string{"\xe2 "}}, {"\xe2\x82 b", []string{"\xe2\x82", "b"}},
		{"\u00e9 \ufffd", []string{"\u00e9", "\ufffd"}},
	} {
		if got := impl.Words(c.s); !slices.Equal(got, c.want) {
			t.Errorf("Words(%q) = %q, want %q", c.s, got, c.want)
		}
	}
}

// wordsByBytes says the rule for words once more, with places instead of states.
func wordsByBytes(s string) []string {
	var list []string
	for i := 0; i < len(s); {
		if s[i] == 32 || s[i] == 9 {
			i++
			continue
		}
		word := ""
		for i < len(s) && s[i] != 32 && s[i] != 9 {
			if s[i] != 34 {
				word += s[i : i+1]
				i++
				continue
			}
			size := strings.IndexByte(s[i+1:], 34)
			if size < 0 {
				size = len(s) - i - 1
			}
			word += s[i+1 : i+1+size]
			i += size + 2
		}
		list = append(list, word)
	}
	return list
}

func TestWordsOnEveryShortText(t *testing.T) {
	everyText("a \t\"\n\xe2", 6, func(s string) {
		if got, want := impl.Words(s), wordsByBytes(s); !slices.Equal(got, want) {
			t.Errorf("Words(%q) = %q, want %q", s, got, want)
		}
	})
}

func TestWordsKeepEveryByte(t *testing.T) {
	for b := range 256 {
		s := string([]byte{'a', byte(b), 'z'})
		if got, want := impl.Words(s), wordsByBytes(s); !slices.Equal(got, want) {
			t.Errorf("Words(%q) = %q, want %q", s, got, want)
		}
		if b == 34 {
			continue
		}
		if got := impl.Words("\"" + s + "\""); !slices.Equal(got, []string{s}) {
			t.Errorf("Words of %q between bytes 34 = %q", s, got)
		}
	}
}

func TestLongTextsHaveTheirWordsAndLines(t *testing.T) {
	const many = 200000
	if got := impl.Words(strings.Repeat("a\"b\"", many)); len(got) != 1 || got[0] != strings.Repeat("ab", many) {
		t.Error("one word of many pieces isn't whole")
	}
	if got := len(impl.Words(strings.Repeat("a ", many))); got != many {
		t.Errorf("%d words, want %d", got, many)
	}
	if got := len(impl.Lines(strings.Repeat("\n", many))); got != many {
		t.Errorf("%d lines, want %d", got, many)
	}
}

func TestBefore(t *testing.T) {
	for _, c := range []struct {
		a, b string
		want bool
	}{
		{"", "", false}, {"", "a", true}, {"a", "", false}, {"a", "a", false}, {"a", "ab", true}, {"ab", "a", false},
		{"Z", "a", true}, {"a", "Z", false}, {"10", "9", true}, {"a\x00", "a", false}, {"a", "a\x00", true},
		{"z", "\x80", true}, {"\xff", "\x7f", false}, {"\u00e9", "\xff", true}, {"a/b", "a.b", false},
	} {
		if got := impl.Before(c.a, c.b); got != c.want {
			t.Errorf("Before(%q, %q) = %v", c.a, c.b, got)
		}
	}
}

func TestBeforeIsOneOrder(t *testing.T) {
	var texts []string
	everyText("a~\x00\xff", 3, func(s string) { texts = append(texts, s) })
	for _, a := range texts {
		for _, b := range texts {
			if got, want := impl.Before(a, b), bytes.Compare([]byte(a), []byte(b)) < 0; got != want {
				t.Errorf("Before(%q, %q) = %v", a, b, got)
			}
		}
	}
}

func TestAnswersOfTextsAreNewMemory(t *testing.T) {
	const s = "a \"b c\"\nd e"
	for name, parts := range map[string]func(string) []string{"Lines": impl.Lines, "Words": impl.Words} {
		want := slices.Clone(parts(s))
		got := parts(s)
		got = append(got[:0], "changed")
		if again := parts(s); !slices.Equal(again, want) || got[0] != "changed" {
			t.Errorf("%s tells %q behind a change of its answer, want %q", name, again, want)
		}
	}
}
