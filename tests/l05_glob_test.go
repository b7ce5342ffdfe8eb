package tests

import (
	"path"
	"slices"
	"strings"
	"testing"

	"loop.example/g00704/impl"
)

// globSign is a byte of a pattern, and whether a byte 92 stands ahead of it.
type globSign struct {
	b      byte
	quoted bool
}

// globPart is a star, or the bytes for one of which it stands.
type globPart struct {
	star bool
	has  [256]bool
}

func (g globSign) is(b byte) bool { return !g.quoted && g.b == b }

// globSigns tells nothing, and false, of a text with a byte 92 at its end.
func globSigns(p string) ([]globSign, bool) {
	var signs []globSign
	for i := 0; i < len(p); i++ {
		quoted := p[i] == 92
		if quoted {
			i++
		}
		if i == len(p) {
			return nil, false
		}
		signs = append(signs, globSign{p[i], quoted})
	}
	return signs, true
}

// expectSet looks for the end of a set first, and only then at what stands in it.
func expectSet(signs []globSign) (has [256]bool, size int, ok bool) {
	from := 1
	not := from < len(signs) && signs[from].is('!')
	if not {
		from++
	}
	end := from + 1
	for end < len(signs) && !signs[end].is(']') {
		end++
	}
	if end >= len(signs) {
		return has, 0, false
	}
	for in := signs[from:end]; len(in) > 0; {
		if len(in) >= 3 && in[1].is('-') {
			for b := int(in[0].b); b <= int(in[2].b); b++ {
				has[b] = true
			}
			in = in[3:]
			continue
		}
		has[in[0].b] = true
		in = in[1:]
	}
	for b := range has {
		has[b] = has[b] != not
	}
	return has, end + 1, true
}

func expectParts(p string) ([]globPart, bool) {
	signs, ok := globSigns(p)
	if !ok || len(p) > 60 || strings.Contains(p, "/") || strings.Contains(p, "\n") {
		return nil, false
	}
	var parts []globPart
	for len(signs) > 0 {
		var part globPart
		size := 1
		switch {
		case signs[0].is('*'):
			part.star = true
		case signs[0].is('?'):
			for b := range part.has {
				part.has[b] = true
			}
		case signs[0].is('['):
			if part.has, size, ok = expectSet(signs); !ok {
				return nil, false
			}
		default:
			part.has[signs[0].b] = true
		}
		parts = append(parts, part)
		signs = signs[size:]
	}
	return parts, true
}

// expectMatch tries a star with no byte and then with more and more of them.
func expectMatch(parts []globPart, name string) bool {
	switch {
	case len(parts) == 0:
		return name == ""
	case parts[0].star:
		return expectMatch(parts[1:], name) || name != "" && expectMatch(parts, name[1:])
	}
	return name != "" && parts[0].has[name[0]] && expectMatch(parts[1:], name[1:])
}

// checkPattern holds all that is told of a pattern, and of it with each of some names, against the second reading.
func checkPattern(t *testing.T, p string, names []string) {
	t.Helper()
	parts, ok := expectParts(p)
	if got := impl.PatternOk(p); got != ok {
		t.Fatalf("PatternOk(%q) = %v", p, got)
	}
	plain := ok
	for i := range len(p) {
		plain = plain && p[i] != '*' && p[i] != '?' && p[i] != '[' && p[i] != 92
	}
	if got := impl.Plain(p); got != plain {
		t.Fatalf("Plain(%q) = %v", p, got)
	}
	for _, name := range names {
		want := ok && expectName(name) && expectMatch(parts, name)
		if got := impl.Match(p, name); got != want {
			t.Fatalf("Match(%q, %q) = %v", p, name, got)
		}
		if plain && impl.Match(p, name) && p != name {
			t.Fatalf("%q is plain, but stands for %q", p, name)
		}
	}
}

// textsOf gives each text of at most most bytes of the alphabet.
func textsOf(alphabet string, most int) []string {
	var list []string
	everyText(alphabet, most, func(s string) { list = append(list, s) })
	return list
}

func byteText(b int) string { return string([]byte{byte(b)}) }

func TestPatternOk(t *testing.T) {
	for _, p := range []string{
		"", "a", "a.log", "*", "**", "?", "*.log", "a?b", " ", ".", "..", "...", "\"", "\x00", "\xff", "\xc3", "é", "{a,b}", "^", "!", "-", "a-b",
		// A ] that ends nothing.
		"]", "]]", "a]", "]a", "a]b", "[a]]", "*]", "!]", "-]",
		// Sets, with a ] first among them.
		"[a]", "[ab]", "[a-c]", "[z-a]", "[a-]", "[-a]", "[-]", "[--]", "[---]", "[!a]", "[!!]", "[a!]", "[]]", "[]]]", "[]a]", "[]-a]", "[!]]", "[!]a]", "[!]-a]",
		"[[]", "[[a]", "[[]]", "[*]", "[?]", "[a][b]", "[^a]", "[\x00-\xff]", "[\"]", "[ ]",
		// A byte 92 with one behind it.
		`\a`, `\\`, `a\\`, `\\\\`, `\*`, `\?`, `\[`, `\]`, `\[a`, `[\]]`, `[\]a]`, `[a\]]`, `[\\]`, `[!\]]`, `[\!]`, `[a\-z]`, `[\a-\z]`, `[a-\]]`, `[!\\]`, `\[\]`, `\[!]`,
	} {
		if !impl.PatternOk(p) {
			t.Errorf("PatternOk(%q) = false", p)
		}
	}
	for _, p := range []string{
		// A stroke and a newline at each place, with a byte 92 ahead of them too.
		"/", "/a", "a/b", "a/", "[/]", "[a/]", "[/a]", "[!/]", "[.-/]", "[/-a]", `\/`, `a\/b`, `[\/]`, "*/", "/*",
		"\n", "\na", "a\nb", "a\n", "[\n]", "[a\n]", "[\na]", "[!\n]", "[\n-a]", "[\x00-\n]", "\\\n", "[\\\n]",
		// A byte 92 at the end.
		`\`, `a\`, `\\\`, `a\\\`, `*\`, `[a]\`, `[\`, `[a\`, `[a-\`, `[!\`, `[]\`,
		// [ without its ] .
		"[", "[[", "a[", "[a", "[a-", "[a-z", "[!", "[!a", "[]", "[]a", "[]-", "[!]", "[!]a", "[!]-", "[!!", "a[]", "[]b", "[a][", "[a][]", "[a][!]", "[*", "[?", "*[",
		`[\]`, `[a\]`, `[!\]`, `[a-\]`, `[]\]`, `[\]\]`, `[\\`, `[\[`, `\\[`, `\][`, `[\]-\]`,
	} {
		if impl.PatternOk(p) {
			t.Errorf("PatternOk(%q) = true", p)
		}
	}
}

func TestPatternsOfEverySize(t *testing.T) {
	for size := range 130 {
		for _, sign := range []string{"a", "*", "?", "]", "\xff", "\x00", " "} {
			p := strings.Repeat(sign, size)
			if got := impl.PatternOk(p); got != (size <= 60) {
				t.Errorf("PatternOk of %d times %q = %v", size, sign, got)
			}
		}
		if size >= 3 {
			p := "[" + strings.Repeat("a", size-2) + "]"
			if got := impl.PatternOk(p); got != (size <= 60) {
				t.Errorf("PatternOk of a set of %d bytes = %v", size, got)
			}
			if got := impl.Match(p, "a"); got != (size <= 60) {
				t.Errorf("Match of a set of %d bytes = %v", size, got)
			}
		}
		if p := strings.Repeat("\\", size); impl.PatternOk(p) != (size <= 60 && size%2 == 0) {
			t.Errorf("PatternOk of %d bytes 92 = %v", size, impl.PatternOk(p))
		}
		stars := strings.Repeat("*", size)
		if got := impl.Match(stars, "a"); got != (size >= 1 && size <= 60) {
			t.Errorf("Match of %d stars = %v", size, got)
		}
	}
	for _, p := range []string{strings.Repeat("a", 1000000), strings.Repeat("[", 1000000), strings.Repeat("*", 1000000), "[" + strings.Repeat("]", 1000000)} {
		if impl.PatternOk(p) || impl.Plain(p) || impl.Match(p, "a") {
			t.Errorf("%q... with %d bytes is a pattern", p[:5], len(p))
		}
	}
}

func TestPatternsWithEveryByte(t *testing.T) {
	for b := range 256 {
		s := byteText(b)
		whole := b != '/' && b != '\n'
		for p, want := range map[string]bool{
			s: whole && b != '[' && b != 92, "a" + s: whole && b != '[' && b != 92, s + "a": whole && b != '[', "a" + s + "b": whole && b != '[',
			"\\" + s: whole, "[" + s + "]": whole && b != '!' && b != 92, "[a" + s + "]": whole && b != 92, "[!" + s + "]": whole && b != 92,
			"[\\" + s + "]": whole, "[a-" + s + "]": whole && b != 92, "[" + s + "-a]": whole,
		} {
			if got := impl.PatternOk(p); got != want {
				t.Errorf("PatternOk(%q) = %v", p, got)
			}
		}
	}
}

// fitCase is a pattern with names for which it stands, and with others.
type fitCase struct {
	p       string
	yes, no []string
}

func checkFits(t *testing.T, cases []fitCase) {
	t.Helper()
	for _, c := range cases {
		for _, name := range c.yes {
			if !impl.Match(c.p, name) {
				t.Errorf("Match(%q, %q) = false", c.p, name)
			}
		}
		for _, name := range c.no {
			if impl.Match(c.p, name) {
				t.Errorf("Match(%q, %q) = true", c.p, name)
			}
		}
	}
}

func TestMatchOfStarsAndMarks(t *testing.T) {
	checkFits(t, []fitCase{
		{"", nil, []string{"", "a", " ", "*"}},
		{"a.log", []string{"a.log"}, []string{"a.lo", "a.logs", "xa.log", "A.log", "a,log", "a", "a.log.1"}},
		// A star alone, at the beginning, in the middle, at the end, for no byte and for many.
		{"*", []string{"a", "a.log", "*", "...", ".a", "\xff", " ", name40}, []string{"", ".", "..", "/", "a/b", name41, "a\n", "\"", "\x00"}},
		{"*.log", []string{".log", "a.log", "a.log.log", ".log.log", "*.log", "..log"}, []string{"log", "a.logs", "a.lo", ".logx", "alog"}},
		{"a*", []string{"a", "ab", "aa", "a*", "abc"}, []string{"b", "ba", "A", ".a"}},
		{"a*b", []string{"ab", "axb", "aab", "abb", "a*b", "ababab"}, []string{"a", "b", "ba", "abx", "xab", "aba"}},
		// Several of them.
		{"**", []string{"a", "ab", name40}, []string{"", ".", ".."}},
		{"a**b", []string{"ab", "axb", "axyb"}, []string{"a", "b", "abx"}},
		{"*a*", []string{"a", "xa", "ax", "xax", "aaa"}, []string{"b", "xyz", "A"}},
		{"*a*b*", []string{"ab", "xaybz", "aab", "abab", "xxab", "bab"}, []string{"ba", "a", "b", "bbba"}},
		{"a*b*c", []string{"abc", "axbxc", "abbcc", "abcbc", "abcabc"}, []string{"ac", "acb", "abcd", "cba", "bc"}},
		{"*ab*ab", []string{"abab", "xabab", "ababab", "abxab", "aabab"}, []string{"ab", "aab", "abaab x", "abba"}},
		{"*.*", []string{"a.b", "...", ".a", "a."}, []string{"a", ".", ".."}},
		// A mark at each place, with too few and too many bytes.
		{"?", []string{"a", "?", "\xff", " ", "*"}, []string{"", "ab", ".", "é", "/", "\n", "\x00", "\""}},
		{"??", []string{"ab", "é", "??", ".a"}, []string{"a", "abc", "..", "éa"}},
		{"?a", []string{"aa", "ba", "?a"}, []string{"a", "ab", "baa", "bba"}},
		{"a?", []string{"aa", "ab", "a?"}, []string{"a", "ba", "abc"}},
		{"a?c", []string{"abc", "acc", "a?c"}, []string{"ac", "abbc", "abcd", "abd"}},
		{"???", []string{"...", "abc"}, []string{"ab", "abcd", ".."}},
		// Both of them.
		{"?*", []string{"a", "ab", "abc"}, []string{"", ".", ".."}},
		{"*?", []string{"a", "ab", "abc"}, []string{"", ".", ".."}},
		{"*?*?*", []string{"ab", "abc", "..."}, []string{"a", ".."}},
		{"?*b", []string{"ab", "bb", "axb"}, []string{"b", "ba"}},
		{strings.Repeat("?", 40), []string{name40}, []string{name40[1:], name41}},
		{strings.Repeat("?", 41), nil, []string{name40, name41}},
		{strings.Repeat("?", 40) + "*", []string{name40}, []string{name40[1:], name41}},
		{strings.Repeat("*?", 30), []string{name40, name40[10:]}, []string{name40[11:]}},
		{name40, []string{name40}, []string{name41, name40[1:]}},
		{name41, nil, []string{name40, name41}},
		// Names that only look like a part that is left out.
		{".", nil, []string{".", "..", "a"}}, {"..", nil, []string{".", ".."}}, {"...", []string{"..."}, []string{"..", "...."}},
		{"a\"b", nil, []string{"a\"b", "ab"}}, {"\x00", nil, []string{"\x00", "a"}},
		// Signs that stand for themselves.
		{"]", []string{"]"}, []string{"a", "[]"}}, {"a]b", []string{"a]b"}, []string{"ab"}}, {"!a", []string{"!a"}, []string{"b", "a"}}, {"a-c", []string{"a-c"}, []string{"b", "a"}},
		{"^", []string{"^"}, []string{"a"}}, {"{a,b}", []string{"{a,b}"}, []string{"a", "b"}}, {"A", []string{"A"}, []string{"a"}},
	})
}

func TestMatchOfSets(t *testing.T) {
	checkFits(t, []fitCase{
		// Single bytes.
		{"[a]", []string{"a"}, []string{"b", "A", "[a]", "aa", "", "[", "]"}},
		{"[abc]", []string{"a", "b", "c"}, []string{"d", "ab", "abc"}},
		{"[aa]", []string{"a"}, []string{"aa", "b"}},
		{"x[ab]y", []string{"xay", "xby"}, []string{"xy", "xcy", "xaby", "ay"}},
		{"[ab][cd]", []string{"ac", "ad", "bc", "bd"}, []string{"ab", "a", "c", "ca", "acd"}},
		{"[é]", []string{"\xc3", "\xa9"}, []string{"é", "\xff"}},
		// A byte, a hyphen and a byte.
		{"[a-c]", []string{"a", "b", "c"}, []string{"d", "`", "-", "B", "a-c"}},
		{"[a-a]", []string{"a"}, []string{"b", "`", "-"}},
		{"[a-cx-z]", []string{"a", "c", "x", "y", "z"}, []string{"d", "w", "-", "m"}},
		{"[0-9a]", []string{"0", "5", "9", "a"}, []string{"b", "/", ":", "-"}},
		{"[a0-9]", []string{"0", "9", "a"}, []string{"b", "-"}},
		{"[\x01-\xff]", []string{"a", "\x01", "\xff", "]", "-", "!"}, []string{"", "ab", "\x00"}},
		{"[\x80-\xff]", []string{"\x80", "\xff", "\xc3"}, []string{"\x7f", "a"}},
		{"[a-c-e]", []string{"a", "b", "c", "-", "e"}, []string{"d", "f"}},
		{"[a-c-e-g]", []string{"a", "b", "c", "-", "e", "f", "g"}, []string{"d", "h"}},
		{"a[--0]", []string{"a-", "a.", "a0"}, []string{"a1", "a,", "a]"}},
		{"[+--]", []string{"+", ",", "-"}, []string{"*", "a", "]"}},
		{"[---]", []string{"-"}, []string{",", "a", "]"}},
		{"[!-a]", []string{"b", "!", "]"}, []string{"-", "a"}},
		{"[ -!]", []string{" ", "!"}, []string{"-", "a"}},
		// One that runs backwards stands for none, also not for its ends.
		{"[z-a]", nil, []string{"z", "a", "m", "-", "b", ""}},
		{"[b-a]", nil, []string{"a", "b", "-"}},
		{"[z-ax]", []string{"x"}, []string{"z", "a", "m", "-", "y"}},
		{"[xz-a]", []string{"x"}, []string{"z", "a", "-", "y"}},
		{"[z-aa-c]", []string{"a", "b", "c"}, []string{"z", "d", "-"}},
		{"[a--]", nil, []string{"a", "-", "]"}},
		{"[\xff-\x01]", nil, []string{"\xff", "\x01", "a", "-"}},
		{"[!z-a]", []string{"z", "a", "m", "-"}, []string{"", "zz"}},
		{"a[z-a]*", nil, []string{"a", "az", "aa", "am"}},
		// A hyphen that stands first or last.
		{"[-a]", []string{"-", "a"}, []string{"b", ",", "!"}},
		{"[a-]", []string{"a", "-"}, []string{"b", "]", "a-"}},
		{"[-]", []string{"-"}, []string{"a", "]"}},
		{"[--]", []string{"-"}, []string{"a", ",", "]"}},
		{"[-a-]", []string{"-", "a"}, []string{"b", "]"}},
		{"[a-c-]", []string{"a", "b", "c", "-"}, []string{"d", "]"}},
		{"[-a-c]", []string{"-", "a", "b", "c"}, []string{"d", "."}},
		{"[!a-]", []string{"b", "]"}, []string{"a", "-"}},
		{"[!-]", []string{"a", "!"}, []string{"-"}},
		{"[a-]b]", []string{"ab]", "-b]"}, []string{"a", "b", "]", "bb]", "^"}},
		// A ] that stands first.
		{"[]]", []string{"]"}, []string{"[", "a", "[]", "[]]"}},
		{"[]a]", []string{"]", "a"}, []string{"[", "b", "]a"}},
		{"[]x]*", []string{"]x", "]", "x", "xyz"}, []string{"a", "[", "a]"}},
		{"[]-a]", []string{"]", "^", "_", "`", "a"}, []string{"-", "\\", "b"}},
		{"[]-]", []string{"]", "-"}, []string{"a", "."}},
		{"[]]]", []string{"]]"}, []string{"]", "]]]"}},
		{"[]a]b]", []string{"]b]", "ab]"}, []string{"b", "]", "]b"}},
		{"[a]]", []string{"a]"}, []string{"a", "]", "]]"}},
		{"[[]", []string{"["}, []string{"]", "[]"}},
		{"[[]]", []string{"[]"}, []string{"[", "]", "[["}},
		{"[][]", []string{"[", "]"}, []string{"[]", "a"}},
		// A ! that stands first, and elsewhere.
		{"[!a]", []string{"b", "!", "A", "\xff", "[", "]"}, []string{"a", "", "bb", ".", "\x00", "\n", "/"}},
		{"[!a-c]", []string{"d", "-", "!"}, []string{"a", "b", "c"}},
		{"[!!]", []string{"a", "]"}, []string{"!"}},
		{"[!!a]", []string{"b"}, []string{"!", "a"}},
		{"[a!]", []string{"a", "!"}, []string{"b", "]"}},
		{"[a!b]", []string{"a", "!", "b"}, []string{"c"}},
		{"[]!]", []string{"]", "!"}, []string{"a"}},
		{"[^a]", []string{"^", "a"}, []string{"b", "!"}},
		{"a[!b]c", []string{"axc", "acc"}, []string{"abc", "ac", "axxc"}},
		{"[!!-a]", []string{"b", " "}, []string{"!", "-", "a", "A"}},
		// A ! and a ] first.
		{"[!]]", []string{"a", "[", "!"}, []string{"]", "a]"}},
		{"[!]a]", []string{"b", "[", "!"}, []string{"]", "a"}},
		{"[!]-a]", []string{"b", "-", "\\"}, []string{"]", "^", "a"}},
		{"[!]]]", []string{"a]"}, []string{"]]", "a"}},
		// Signs that are nothing else in a set.
		{"[*]", []string{"*"}, []string{"a", ""}}, {"[?]", []string{"?"}, []string{"a"}}, {"[*?]", []string{"*", "?"}, []string{"a", "*?"}},
		{"[!*]", []string{"a", "?"}, []string{"*", "ab"}},
	})
}

func TestMatchOfBytes92(t *testing.T) {
	checkFits(t, []fitCase{
		// Ahead of each sign, and of another byte.
		{`\*`, []string{"*"}, []string{"a", "ab", `\*`, `\`}},
		{`a\*b`, []string{"a*b"}, []string{"axb", "ab", `a\b`, `a\*b`}},
		{`\?`, []string{"?"}, []string{"a", `\?`, `\a`}},
		{`\[`, []string{"["}, []string{"a", `\[`}},
		{`\[a]`, []string{"[a]"}, []string{"a", `\a`}},
		{`\]`, []string{"]"}, []string{"a", `\]`}},
		{`\\`, []string{`\`}, []string{`\\`, "a"}},
		{`\a`, []string{"a"}, []string{`\a`, "b", `\`}},
		{`\.\.\.`, []string{"..."}, []string{`\.`, ".."}},
		{`\!`, []string{"!"}, []string{"a"}}, {`\-`, []string{"-"}, []string{"a"}}, {"\\\xff", []string{"\xff"}, []string{"\xfe", "\\\xff"}},
		{`\\*`, []string{`\`, `\a`, `\*`}, []string{"*", "a", `a\`}},
		{`\\\*`, []string{`\*`}, []string{`\`, `\a`, "*"}},
		{`\**`, []string{"*", "*a", "**"}, []string{"a", `\*`}},
		{`*\*`, []string{"*", "a*", "**"}, []string{"a", "*a"}},
		{`\??`, []string{"?a", "??"}, []string{"a?", "?"}},
		{`\[[a]\]`, []string{"[a]"}, []string{"a", "[b]"}},
		// Within brackets, also ahead of ] , of a hyphen and of ! .
		{`[\]]`, []string{"]"}, []string{`\`, `\]`, "a", "]]"}},
		{`[\]a]`, []string{"]", "a"}, []string{`\`, "b", `\a]`}},
		{`[a\]]`, []string{"]", "a"}, []string{`\`, `a]`, `\]`}},
		{`[a\]b]`, []string{"]", "a", "b"}, []string{`\`, "ab]"}},
		{`[\\]`, []string{`\`}, []string{"a", "]", `\\`}},
		{`[\\]]`, []string{`\]`}, []string{`\`, "]"}},
		{`[a\\]`, []string{`\`, "a"}, []string{"]"}},
		{`[\a]`, []string{"a"}, []string{`\`}},
		{`[a\-c]`, []string{"a", "-", "c"}, []string{"b", `\`}},
		{`[a-c\-e]`, []string{"a", "b", "c", "-", "e"}, []string{"d", `\`}},
		{`[\--0]`, []string{"-", "0"}, []string{"1", `\`, ","}},
		{`a[+-\-]`, []string{"a+", "a,", "a-"}, []string{`a\`, "a*", "a."}},
		{`[\-a]`, []string{"-", "a"}, []string{`\`, "b"}},
		{`[a\-]`, []string{"-", "a"}, []string{`\`, "b", "]"}},
		{`[\!a]`, []string{"!", "a"}, []string{`\`, "b"}},
		{`[\!]`, []string{"!"}, []string{`\`, "a"}},
		{`[!\!]`, []string{"a", `\`}, []string{"!"}},
		{`[!\]]`, []string{"a", `\`, "["}, []string{"]"}},
		{`[!\]a]`, []string{"b", `\`}, []string{"]", "a"}},
		{`[\*]`, []string{"*"}, []string{`\`, "a"}}, {`[\?]`, []string{"?"}, []string{`\`, "a"}}, {`[\[]`, []string{"["}, []string{`\`, "a"}},
		// At an end of those from one to another.
		{`[\a-c]`, []string{"a", "b", "c"}, []string{`\`, "-", "d"}},
		{`[a-\c]`, []string{"a", "b", "c"}, []string{`\`, "-", "d"}},
		{`[\a-\c]`, []string{"a", "b", "c"}, []string{`\`, "-", "d"}},
		{`[A-\]]`, []string{"A", "Z", "[", `\`, "]"}, []string{"^", "a", "-", "@"}},
		{`[a-\]]`, nil, []string{"a", "]", `\`, "-", "b"}},
		{`[\]-a]`, []string{"]", "^", "a"}, []string{`\`, "-", "b"}},
		{`[\\-a]`, []string{`\`, "]", "a"}, []string{"[", "-", "b"}},
		{`[A-\\]`, []string{"A", "[", `\`}, []string{"]", "-"}},
		{`[\!-a]`, []string{"!", "-", "A", "a"}, []string{" ", "b"}},
		{`[\c-\a]`, nil, []string{"a", "b", "c", `\`, "-"}},
	})
}

func TestMatchOfWhatIsNoPatternOrNoName(t *testing.T) {
	long := strings.Repeat("*", 61)
	broken := []string{`\`, `a\`, `*\`, "[", "[a", "*[", "[]", "[!]", "[!", `[\]`, `[a\`, `[a]\`, "/", "a/b", "*/", "/*", "[/a]", "\n", "*\n", "[a\n]", long, "a" + long}
	for _, p := range broken {
		for _, name := range []string{"a", "*", "[", "]", `\`, `a\`, "[a", "[]", "!", p, strings.Trim(p, "/\n*"), name40} {
			if impl.Match(p, name) {
				t.Errorf("Match(%q, %q) = true", p, name)
			}
		}
	}
	noNames := []string{"", ".", "..", "/", "/a", "a/", "a/b", "a\nb", "\n", "a\x00", "\x00", "\"", "a\"b", name41, strings.Repeat("a", 100000)}
	for _, name := range noNames {
		for _, p := range []string{"", "*", "**", "?", "??", "?*", "*?", "[!a]", "[!b]*", name, impl.Escape(name), ".", "..", `\.`, "[.]", "[.][.]", "?.", "*\"*", "*\x00*", "a*"} {
			if impl.Match(p, name) {
				t.Errorf("Match(%q, %q) = true", p, name)
			}
		}
	}
}

// TestMatchOfEveryTwoBytes has each byte in a pattern and each one in a name.
func TestMatchOfEveryTwoBytes(t *testing.T) {
	for b := range 256 {
		whole := b != '/' && b != '\n'
		s := byteText(b)
		for c := range 256 {
			name := byteText(c)
			named := c != '/' && c != '\n' && c != 0 && c != '"' && c != '.'
			alone := b == c || b == '*' || b == '?'
			for _, w := range []struct {
				p    string
				want bool
			}{
				{s, named && whole && alone && b != '[' && b != 92}, {"\\" + s, named && whole && b == c},
				{"[\\" + s + "]", named && whole && b == c}, {"[!\\" + s + "]", named && whole && b != c},
				{"[\\" + s + "-\\" + s + "]", named && whole && b == c},
				{"[\\" + s + "-\xff]", named && whole && b <= c}, {"[\x00-\\" + s + "]", named && whole && b >= c}, {"[!\x00-\\" + s + "]", named && whole && b < c},
				{"*\\" + s + "*", named && whole && b == c}, {"?", named}, {"*", named},
			} {
				if got := impl.Match(w.p, name); got != w.want {
					t.Fatalf("Match(%q, %q) = %v", w.p, name, got)
				}
			}
		}
	}
}

func TestMatchOfEveryShortPattern(t *testing.T) {
	// Brackets and what stands in them.
	signs := []string{"a", "b", "c", "!", "-", "[", "]", `\`, "ab", "a]", "]]", "b-", "!]"}
	for _, p := range textsOf(`[]!-\ac`, 6) {
		checkPattern(t, p, signs)
	}
	for _, p := range textsOf(`]!-\ac`, 5) {
		checkPattern(t, "["+p+"]", signs)
	}
	for _, p := range textsOf(`]-\ac`, 5) {
		checkPattern(t, "[!"+p+"]", signs)
	}
	// Stars, marks and bytes 92.
	names := textsOf(`ab*`, 4)
	for _, p := range textsOf(`*?ab\`, 5) {
		checkPattern(t, p, names)
	}
	// All of them, with signs that are allowed in neither.
	names = append(textsOf("a*]/", 2), ".", "..", "a\n", "\"", "\x00", name40, name41)
	for _, p := range textsOf("*?[]!\\a/\n", 4) {
		checkPattern(t, p, names)
	}
}

// TestMatchBesideGosOwn: without brackets, Go's own path.Match reads a pattern as the chapter does.
func TestMatchBesideGosOwn(t *testing.T) {
	names := textsOf("ab*?", 4)
	for _, p := range textsOf(`*?ab\`, 5) {
		for _, name := range names {
			fits, err := path.Match(p, name)
			want := err == nil && fits && name != "" && !strings.HasSuffix(strings.ReplaceAll(p, `\\`, ""), `\`)
			if got := impl.Match(p, name); got != want {
				t.Fatalf("Match(%q, %q) = %v", p, name, got)
			}
		}
	}
}

// TestManyStarsEnd: a look that tried each star with each number of bytes would never end here.
func TestManyStarsEnd(t *testing.T) {
	name := strings.Repeat("a", 40)
	checkFits(t, []fitCase{
		{strings.Repeat("*a", 29) + "*b", nil, []string{name}},
		{strings.Repeat("*a", 30), []string{name}, []string{strings.Repeat("a", 29)}},
		{strings.Repeat("a*", 30), []string{name}, []string{name[1:] + "b" + "a"}},
		{strings.Repeat("*?", 29) + "*b", []string{name[1:] + "b"}, []string{name}},
		{strings.Repeat("*[a]", 14) + "*[b]", nil, []string{name}},
		{strings.Repeat("*", 59) + "b", []string{"b", name[1:] + "b"}, []string{name}},
	})
}

func TestPlain(t *testing.T) {
	for _, p := range []string{"", "a", "a.log", "]", "a]", "]]", "a]b", "!", "!a]", "-", "a-b", "^", "{a}", " ", ".", "..", "\"", "\x00", "\xff", "é", strings.Repeat("a", 60), strings.Repeat("]", 60)} {
		if !impl.Plain(p) {
			t.Errorf("Plain(%q) = false", p)
		}
	}
	for _, p := range []string{
		"*", "a*", "*a", "a*b", "?", "a?", "?a", "a?b", "[a]", "x[a]y", "[]]", "[!a]", `\a`, `a\b`, `\\`, `\*`, `\?`, `\[`, `\]`, `[\]]`,
		"[", "[a", "a[", `\`, `a\`, "[]", "[!]", "/", "a/b", "/a", "a/", "\n", "a\nb", "a\n", strings.Repeat("a", 61), strings.Repeat("a", 60) + "*", strings.Repeat("a", 5000),
	} {
		if impl.Plain(p) {
			t.Errorf("Plain(%q) = true", p)
		}
	}
	for b := range 256 {
		want := !strings.Contains("*?[\\/\n", byteText(b))
		for _, p := range []string{byteText(b), "a" + byteText(b) + "]", byteText(b) + "]"} {
			if got := impl.Plain(p); got != want {
				t.Errorf("Plain(%q) = %v", p, got)
			}
		}
	}
}

func TestEscape(t *testing.T) {
	for name, want := range map[string]string{
		"a": "a", "a.log": "a.log", "a b": "a b", "...": "...", "!": "!", "-": "-", "^": "^", "{a,b}": "{a,b}", "\xff": "\xff", "é": "é", name40: name40,
		"*": `\*`, "?": `\?`, "[": `\[`, "]": `\]`, `\`: `\\`,
		"a*": `a\*`, "*a": `\*a`, "a*b": `a\*b`, "a?b": `a\?b`, "a[b": `a\[b`, "a]b": `a\]b`, `a\b`: `a\\b`, `a\*b`: `a\\\*b`,
		"[a-c]": `\[a-c\]`, "[!a]": `\[!a\]`, `\\`: `\\\\`, "**": `\*\*`, `*?[]\`: `\*\?\[\]\\`, `\][?*`: `\\\]\[\?\*`,
		// Names whose pattern is as long as one may be, and longer.
		strings.Repeat("*", 30): strings.Repeat(`\*`, 30), strings.Repeat("*", 31): strings.Repeat(`\*`, 31), strings.Repeat(`\`, 40): strings.Repeat(`\`, 80),
		strings.Repeat("]", 20) + name40[20:]: strings.Repeat(`\]`, 20) + name40[20:], strings.Repeat("]", 21) + name40[21:]: strings.Repeat(`\]`, 21) + name40[21:],
		// Texts that are no names.
		"": "", ".": ".", "..": "..", "/": "/", "/*/": `/\*/`, "a/b": "a/b", "a\nb": "a\nb", "\x00": "\x00", "\"?\"": `"\?"`, name41: name41, strings.Repeat("?", 5000): strings.Repeat(`\?`, 5000),
	} {
		if got := impl.Escape(name); got != want {
			t.Errorf("Escape(%q) = %q, want %q", name, got, want)
		}
	}
	for b := range 256 {
		want := byteText(b)
		if strings.Contains(`*?[]\`, want) && b < 128 {
			want = `\` + want
		}
		if got := impl.Escape(byteText(b)); got != want {
			t.Errorf("Escape(%q) = %q, want %q", byteText(b), got, want)
		}
	}
}

// TestEscapedNamesStandForThemselvesAlone holds promise 5's first part.
func TestEscapedNamesStandForThemselvesAlone(t *testing.T) {
	names := append(textsOf(`*?[]\a!-`, 3), "é", "\xff", "...", ".a", name40, name40[1:], name41, strings.Repeat("*", 30), strings.Repeat("?", 30), strings.Repeat(`\`, 30), strings.Repeat("]", 20)+name40[20:])
	for b := range 256 {
		names = append(names, byteText(b), "a"+byteText(b))
	}
	for _, name := range names {
		p := impl.Escape(name)
		if impl.NameOk(name) && !impl.PatternOk(p) {
			t.Fatalf("Escape(%q) = %q, which is no pattern", name, p)
		}
		for _, other := range names {
			if got := impl.Match(p, other); got != (name == other && impl.NameOk(name)) {
				t.Fatalf("Match(Escape(%q), %q) = %v", name, other, got)
			}
		}
	}
}

func TestEscapeOfNamesThatGrowTooLong(t *testing.T) {
	for marks := range 41 {
		name := strings.Repeat("?", marks) + name40[marks:]
		p := impl.Escape(name)
		if len(p) != 40+marks {
			t.Errorf("Escape(%q) has %d bytes, want %d", name, len(p), 40+marks)
		}
		if got := impl.PatternOk(p); got != (marks <= 20) {
			t.Errorf("PatternOk(%q) = %v", p, got)
		}
		if got := impl.Match(p, name); got != (marks <= 20) {
			t.Errorf("Match(%q, %q) = %v", p, name, got)
		}
		if impl.Match(p, name40) != (marks == 0) {
			t.Errorf("Match(%q, %q) = %v", p, name40, marks != 0)
		}
	}
}

// TestStarsStandForAllNames holds promise 5's second part.
func TestStarsStandForAllNames(t *testing.T) {
	everySortOfText(func(s string) {
		if got, want := impl.Match("*", s), expectName(s); got != want {
			t.Fatalf("Match(*, %q) = %v", s, got)
		}
	})
	for size := range 60 {
		for _, sign := range []string{"a", "*", "[", `\`, "\xff", "."} {
			s := strings.Repeat(sign, size)
			if got, want := impl.Match("*", s), expectName(s); got != want {
				t.Errorf("Match(*, %q) = %v", s, got)
			}
		}
	}
}

func TestMatchPath(t *testing.T) {
	for _, c := range []struct {
		p, path string
		want    bool
	}{
		// As many names, one more and one less.
		{"/a", "/a", true}, {"/*", "/a", true}, {"/*", "/a/b", false}, {"/*/*", "/a/b", true}, {"/*/*", "/a", false}, {"/*/*", "/a/b/c", false}, {"/**", "/a/b", false}, {"/?a", "/a", false},
		{"/var/*.log", "/var/a.log", true}, {"/var/*.log", "/var/.log", true}, {"/var/*.log", "/var/a.txt", false}, {"/var/*.log", "/usr/a.log", false}, {"/var/*.log", "/var/b/a.log", false},
		{"/*/b/*", "/a/b/c", true}, {"/*/b/*", "/a/c/b", false}, {"/[ab]/[!ab]", "/a/c", true}, {"/[ab]/[!ab]", "/a/b", false}, {"/[ab]/[!ab]", "/c/c", false}, {"/a/b", "/b/a", false},
		{`/\*/\\`, `/*/\`, true}, {`/\*/\\`, `/a/\`, false}, {"/a/\xff", "/a/\xff", true},
		// 6 and 7 of them.
		{"/*/*/*/*/*/*", "/1/2/3/4/5/6", true}, {"/1/2/3/4/5/6", "/1/2/3/4/5/6", true}, {"/1/2/3/4/5/7", "/1/2/3/4/5/6", false}, {"/*/*/*/*/*", "/1/2/3/4/5/6", false}, {"/*/*/*/*/*/*", "/1/2/3/4/5", false},
		{"/*/*/*/*/*/*/*", "/1/2/3/4/5/6", false}, {"/*/*/*/*/*/*/*", "/1/2/3/4/5/6/7", false}, {"/*/*/*/*/*/*", "/1/2/3/4/5/6/7", false},
		// No stroke at the beginning.
		{"a", "/a", false}, {"*", "/a", false}, {"*/*", "/a", false}, {"var/*", "/var/a", false}, {" /a", "/a", false}, {"?a", "/a", false}, {"[/]a", "/a", false}, {`\/a`, "/a", false}, {"a", "a", false}, {"*", "a", false},
		// The root and the empty text on both sides.
		{"/", "/", false}, {"/*", "/", false}, {"/", "/a", false}, {"", "", false}, {"", "/", false}, {"", "/a", false}, {"/", "", false}, {"/*", "", false}, {"*", "/", false}, {"*", "", false}, {"/?", "/", false},
		// An empty pattern among others.
		{"//", "/", false}, {"//", "/a/b", false}, {"//a", "/a", false}, {"/a/", "/a", false}, {"/a/", "/a/b", false}, {"/*/", "/a/b", false}, {"//*", "/a/b", false}, {"/*//*", "/a/b/c", false}, {"/*//*", "/a/b", false},
		// A broken one, or one that is too long, among others.
		{"/[", "/[", false}, {"/[a", "/a", false}, {"/*/[", "/a/[", false}, {"/[/*", "/[/a", false}, {"/*/[]/*", "/a/[]/b", false}, {`/*/a\`, "/b/a", false}, {`/a\/b`, `/a\/b`, false}, {`/a\/b`, "/a/b", false},
		{"/[a/b]", "/a", false}, {"/[a/b]", "/b", false}, {"/[a/b]", "/[a/b]", false}, {"/[!]/*", "/a/b", false}, {"/a\n", "/a", false}, {"/*\n", "/a\n", false},
		{"/" + strings.Repeat("*", 60), "/a", true}, {"/" + strings.Repeat("*", 61), "/a", false}, {"/*/" + strings.Repeat("*", 60), "/a/b", true}, {"/*/" + strings.Repeat("*", 61), "/a/b", false},
		{strings.Repeat("/"+strings.Repeat("*", 60), 6), "/1/2/3/4/5/6", true},
		// A path that is none.
		{"/*", "a", false}, {"/*", "//", false}, {"/*", "//a", false}, {"/*/*", "//a", false}, {"/*/*", "/a/", false}, {"/*", "/a/", false}, {"/*", "/.", false}, {"/*", "/..", false}, {"/.", "/.", false}, {"/..", "/..", false},
		{"/*/*", "/a/..", false}, {"/*/*", "/./a", false}, {"/*", "/a\n", false}, {"/*", "/\"", false}, {"/*", "/\x00", false}, {"/*", "/" + name40, true}, {"/*", "/" + name41, false}, {"/*/*", "/a/" + name41, false},
		{"*/*", "a/b", false}, {"/*/*", "a/b", false},
	} {
		if got := impl.MatchPath(c.p, c.path); got != c.want {
			t.Errorf("MatchPath(%q, %q) = %v", c.p, c.path, got)
		}
	}
}

func TestMatchPathOfEveryNumberOfNames(t *testing.T) {
	for patterns := range 10 {
		for names := range 10 {
			for _, pattern := range []string{"*", "n*", "?*", "[!a]*", name40} {
				p, s := strings.Repeat("/"+pattern, patterns), strings.Repeat("/"+name40, names)
				if got, want := impl.MatchPath(p, s), patterns == names && names >= 1 && names <= 6; got != want {
					t.Errorf("MatchPath(%q, %q) = %v", p, s, got)
				}
			}
		}
	}
	for _, p := range []string{strings.Repeat("/*", 100000), strings.Repeat("/", 100000), "/" + strings.Repeat("*", 100000)} {
		if impl.MatchPath(p, "/a") || impl.MatchPath(p, p) {
			t.Errorf("%q... with %d bytes stands for a path", p[:5], len(p))
		}
	}
}

// TestPathsFitWhereEachNameDoes holds promise 5's third part, with one odd pattern and one odd name at each place.
func TestPathsFitWhereEachNameDoes(t *testing.T) {
	patterns := []string{"", "*", "?", "a", "b*", "[ab]", "[!a]", "[", `\`, `\*`, "[]]", "[!]", "[z-a]", strings.Repeat("*", 61), "a\n"}
	names := []string{"", "a", "b", "ab", "*", "]", "[", `\`, ".", "..", "...", name40, name41, "a\n", "\x00"}
	for depth := 1; depth <= 7; depth++ {
		for at := range depth {
			for _, pattern := range patterns {
				for _, name := range names {
					ps, ns := slices.Repeat([]string{"x*"}, depth), slices.Repeat([]string{"xy"}, depth)
					ps[at], ns[at] = pattern, name
					p, s := "/"+strings.Join(ps, "/"), "/"+strings.Join(ns, "/")
					if got, want := impl.MatchPath(p, s), depth <= 6 && impl.Match(pattern, name); got != want {
						t.Fatalf("MatchPath(%q, %q) = %v", p, s, got)
					}
				}
			}
		}
	}
	for _, p := range goodPaths {
		for _, s := range slices.Concat(goodPaths, noPaths, []string{"/"}) {
			escaped := "/" + strings.ReplaceAll(impl.Escape(p[1:]), `\/`, "/")
			if got := impl.MatchPath(escaped, s); got != (p == s) {
				t.Fatalf("MatchPath(%q, %q) = %v", escaped, s, got)
			}
		}
	}
}
