package tests

import (
	"path"
	"slices"
	"strings"
	"testing"

	"loop.example/g00704/impl"
)

var (
	name40 = strings.Repeat("n", 40)
	name41 = strings.Repeat("n", 41)
)

// goodPaths are paths of each number of names, with names that look like none.
var goodPaths = []string{
	"/a", "/b", "/ab", "/a b", "/...", "/.a", "/a.", "/..a", "/a..", "/\xff", "/\\", "/é", "/" + name40,
	"/a/b", "/a/a", "/a/bc", "/ab/b", "/.../...", "/a/...", "/a/.b", "/var/log", "/var/log.1", "/var.log/a",
	"/a/b/c", "/a/b/cd", "/1/2/3/4", "/1/2/3/4/5", "/a/b/c/d/e", "/1/2/3/4/5/6", "/1/2/3/4/5/67", "/a/a/a/a/a/a",
	strings.Repeat("/"+name40, 6),
}

// noPaths are texts that are neither a path nor the root.
var noPaths = []string{
	"", "a", "a/b", "a/", " /a", "\\a", ".", "..", "./a", "\x00/a", "\n/a",
	"//", "//a", "/a/", "/a//b", "/a/b/", "/a/b//", "///",
	"/.", "/..", "/./a", "/../a", "/a/.", "/a/..", "/a/./b", "/a/../b", "/.../..",
	"/a\n", "/a\n/b", "/a/\n", "/\"a\"", "/a/b\"", "/a\x00", "/\x00", "/a/\x00/b",
	"/" + name41, "/a/" + name41, "/" + name41 + "/a", "/a/" + name41 + "/b",
	"/1/2/3/4/5/6/7", "/1/2/3/4/5/6/", "/1/2/3/4/5//6", "/1/2/3/4/5/6/7/8", strings.Repeat("/"+name40, 7),
	strings.Repeat("/", 5000), strings.Repeat("/a", 5000), strings.Repeat("a", 5000),
}

// expectPath tells by places, from the left on, how many names a path has; 0 of the root, -1 of another text.
func expectPath(s string) int {
	if s == "/" {
		return 0
	}
	depth := 0
	for s != "" {
		end := strings.IndexByte(s[1:], 47) + 1
		if end == 0 {
			end = len(s)
		}
		if s[0] != 47 || !expectName(s[1:end]) {
			return -1
		}
		s = s[end:]
		depth++
	}
	if depth < 1 || depth > 6 {
		return -1
	}
	return depth
}

func expectName(s string) bool {
	for i := range len(s) {
		if b := s[i]; b == 47 || b == 10 || b == 0 || b == 34 {
			return false
		}
	}
	return len(s) >= 1 && len(s) <= 40 && s != "." && s != ".."
}

// expectClean has Go's own path.Clean do what the chapter tells of the parts.
func expectClean(s string) string {
	if s == "" || s[0] != 47 {
		return ""
	}
	if c := path.Clean(s); expectPath(c) >= 0 {
		return c
	}
	return ""
}

// everyParts calls look with each list of at most most of the parts, a stroke ahead of each.
func everyParts(parts []string, most int, look func(string)) {
	alphabet := "0123456789"[:len(parts)]
	everyText(alphabet, most, func(places string) {
		var s strings.Builder
		for i := range len(places) {
			s.WriteString("/" + parts[places[i]-'0'])
		}
		look(s.String())
	})
}

// everySortOfText calls look with every short text of the signs that matter, and with lists of parts that do.
func everySortOfText(look func(string)) {
	everyText("/.a\"\n", 7, look)
	everyText("/.a", 10, look)
	everyParts([]string{"", ".", "..", "...", "a", "a\n", name40, name41}, 5, look)
	everyParts([]string{"..", "a", "b"}, 9, look)
	everyParts([]string{"..", "a"}, 13, look)
	for _, s := range slices.Concat(goodPaths, noPaths) {
		look(s)
		look(s + "/..")
		look(s + "/../../..")
		look("/.." + s)
	}
}

func TestNameOk(t *testing.T) {
	for _, s := range []string{
		"a", "\x01", " ", "~", "\xff", "a b", "a.log", "a-1", "...", "....", ".a", "..a", "...a", "a.", "a..", "a...", "a.b", "a..b", ". ", " .", ".\x01",
		"\\", "a\\b", "'", "*", "?", "[", "{", "\t", "\r", "\u2215", "\u3000", "\xc3", "\xe2\x82", "é",
		name40, strings.Repeat(".", 40), strings.Repeat("\xff", 40), strings.Repeat("é", 20), "..." + name40[3:],
	} {
		if !impl.NameOk(s) {
			t.Errorf("NameOk(%q) = false", s)
		}
	}
	for _, s := range []string{
		"", ".", "..", "/", "//", "a/b", "/a", "a/", "./", "../", "../a", "a/..", "\n", "\x00", "\"", "\"a\"", "a\nb", "a\x00b", "a\"b", "\"\"",
		name41, strings.Repeat(".", 41), strings.Repeat("\xff", 41), strings.Repeat("é", 20) + "a", strings.Repeat("é", 21), strings.Repeat("a", 5000),
		name40[1:] + "/", "\n" + name40[1:], name40[:20] + "\x00" + name40[21:], name40[1:] + "\"",
	} {
		if impl.NameOk(s) {
			t.Errorf("NameOk(%q) = true", s)
		}
	}
}

func TestNamesWithEveryByte(t *testing.T) {
	for b := range 256 {
		sign := string([]byte{byte(b)})
		want := b != 47 && b != 10 && b != 0 && b != 34
		for _, s := range []string{
			sign + "a", "a" + sign, "a" + sign + "b", sign + sign + sign, "." + sign + ".", "..." + sign, "\xff" + sign,
			sign + name40[1:], name40[:20] + sign + name40[21:], name40[1:] + sign,
		} {
			if got := impl.NameOk(s); got != want {
				t.Errorf("NameOk(%q) = %v", s, got)
			}
			if got := impl.PathOk("/" + s); got != want && b != 47 {
				t.Errorf("PathOk(%q) = %v", "/"+s, got)
			}
		}
		if got := impl.NameOk(sign); got != (want && b != 46) {
			t.Errorf("NameOk(%q) = %v", sign, got)
		}
	}
}

func TestNamesOfEverySize(t *testing.T) {
	for size := range 100 {
		for _, sign := range []string{"a", ".", " ", "\xff"} {
			s := strings.Repeat(sign, size)
			want := size >= 1 && size <= 40 && (sign != "." || size > 2)
			if got := impl.NameOk(s); got != want {
				t.Errorf("NameOk(%q) = %v", s, got)
			}
		}
	}
}

func TestPathsAndTheirDepth(t *testing.T) {
	for _, s := range goodPaths {
		if !impl.PathOk(s) {
			t.Errorf("PathOk(%q) = false", s)
		}
		if got, want := impl.DepthOf(s), strings.Count(s, "/"); got != want {
			t.Errorf("DepthOf(%q) = %d, want %d", s, got, want)
		}
	}
	for _, s := range noPaths {
		if impl.PathOk(s) {
			t.Errorf("PathOk(%q) = true", s)
		}
		if got := impl.DepthOf(s); got != -1 {
			t.Errorf("DepthOf(%q) = %d, want -1", s, got)
		}
	}
	if impl.PathOk("/") {
		t.Error("the root is no path")
	}
	if got := impl.DepthOf("/"); got != 0 {
		t.Errorf("DepthOf the root = %d, want 0", got)
	}
}

func TestDepthAtTheLimit(t *testing.T) {
	for _, name := range []string{"a", "...", name40} {
		for depth := 1; depth <= 9; depth++ {
			s, want := strings.Repeat("/"+name, depth), depth
			if depth > 6 {
				want = -1
			}
			if got := impl.DepthOf(s); got != want {
				t.Errorf("DepthOf(%q) = %d, want %d", s, got, want)
			}
			if got := impl.PathOk(s); got != (depth <= 6) {
				t.Errorf("PathOk(%q) = %v", s, got)
			}
		}
	}
}

func TestPathsOfEverySortOfText(t *testing.T) {
	everySortOfText(func(s string) {
		want := expectPath(s)
		if got := impl.DepthOf(s); got != want {
			t.Fatalf("DepthOf(%q) = %d, want %d", s, got, want)
		}
		if got := impl.PathOk(s); got != (want > 0) {
			t.Fatalf("PathOk(%q) = %v", s, got)
		}
	})
}

func TestClean(t *testing.T) {
	for s, want := range map[string]string{
		// Empty parts.
		"/": "/", "//": "/", "///": "/", "//a": "/a", "/a/": "/a", "/a//": "/a", "//a//b//": "/a/b", "/a///b": "/a/b",
		// One point.
		"/.": "/", "/./": "/", "/./.": "/", "/./a": "/a", "/a/.": "/a", "/a/./": "/a", "/a/./b": "/a/b", "/a/././b": "/a/b",
		// Two points, also more than there are parts ahead of them.
		"/..": "/", "/../": "/", "/../..": "/", "/../a": "/a", "/../../a": "/a", "/a/..": "/", "/a/../": "/", "/a/../..": "/", "/a/../../..": "/",
		"/a/../b": "/b", "/a/../../b": "/b", "/a/b/..": "/a", "/a/b/../c": "/a/c", "/a/b/../..": "/", "/a/b/../../c": "/c", "/a/b/c/../..": "/a",
		"/a/b/../../../c/..": "/", "/a/../b/../c": "/c", "/a/./..": "/", "/a//..": "/", "/a/b/.//./..": "/a", "/.././a": "/a",
		// Points that are names, or parts of them.
		"/...": "/...", "/.../..": "/", "/a/...": "/a/...", "/..a": "/..a", "/a..": "/a..", "/.a": "/.a", "/a.": "/a.", "/. ": "/. ", "/a/.. ": "/a/.. ",
		// Parts that are no names, left out or not.
		"/a\nb": "", "/a\"": "", "/\x00": "", "/" + name40: "/" + name40, "/" + name41: "", "/a/" + name41: "", "/" + name41 + "/a": "", "/" + name41 + "/.": "",
		"/a\nb/..": "/", "/a\"/../c": "/c", "/a/\x00/..": "/a", "/" + name41 + "/..": "/", "/" + name41 + "/../" + name40: "/" + name40,
		"/a/" + name41 + "/../b": "/a/b", "/" + name41 + "/b/../..": "/", "/" + name41 + "/b/..": "", "/../" + name41: "",
		// At most 6 that are left.
		"/1/2/3/4/5/6": "/1/2/3/4/5/6", "/1/2/3/4/5/6/": "/1/2/3/4/5/6", "/./1//2/3/4/5/6/.": "/1/2/3/4/5/6", "/../1/2/3/4/5/6": "/1/2/3/4/5/6",
		"/1/2/3/4/5/6/7": "", "/1/2/3/4/5/6/7/": "", "/1/2/3/4/5/6/7/.": "", "/../1/2/3/4/5/6/7": "",
		"/1/2/3/4/5/6/7/..": "/1/2/3/4/5/6", "/1/2/3/4/5/6/7/../7": "", "/1/2/3/4/5/6/../7": "/1/2/3/4/5/7", "/1/2/3/4/5/6/7/8/..": "",
		"/1/2/3/4/5/6/7/8/../..": "/1/2/3/4/5/6", "/1/../2/3/4/5/6/7": "/2/3/4/5/6/7", "/1/2/3/4/5/6/7/../../../../../../..": "/",
		// No stroke at the beginning.
		"": "", "a": "", ".": "", "..": "", "./": "", "../": "", "a/b": "", "a/..": "", "../a": "", "a/../..": "", " /a": "", "\n/a": "", "\\a": "", name40: "",
		// Bytes as they are.
		"/\xff/./\xc3": "/\xff/\xc3", "/é/../ü": "/ü", "/a b/ c": "/a b/ c", "/a\\../..": "/",
	} {
		if got := impl.Clean(s); got != want {
			t.Errorf("Clean(%q) = %q, want %q", s, got, want)
		}
	}
}

func TestCleanOfEverySortOfText(t *testing.T) {
	everySortOfText(func(s string) {
		got := impl.Clean(s)
		if want := expectClean(s); got != want {
			t.Fatalf("Clean(%q) = %q, want %q", s, got, want)
		}
		if again := impl.Clean(got); again != got {
			t.Fatalf("Clean(%q) = %q, but it is clean", got, again)
		}
		if got != "" && impl.DepthOf(got) < 0 {
			t.Fatalf("Clean(%q) = %q, which is neither a path nor the root", s, got)
		}
		if impl.DepthOf(s) >= 0 && got != s {
			t.Fatalf("Clean(%q) = %q, but it is a path or the root", s, got)
		}
	})
}

func TestCleanOfLongTexts(t *testing.T) {
	const many = 200000
	for _, c := range []struct{ s, want string }{
		{strings.Repeat("/", many), "/"}, {strings.Repeat("/.", many), "/"}, {strings.Repeat("/..", many), "/"}, {strings.Repeat("/a", many), ""},
		{strings.Repeat("/a", many) + strings.Repeat("/..", many-6), "/a/a/a/a/a/a"}, {strings.Repeat("/a", many) + strings.Repeat("/..", many-7), ""},
		{strings.Repeat("/a/..", many) + "/b", "/b"}, {strings.Repeat("/a", many) + strings.Repeat("/../a", many) + strings.Repeat("/..", many), "/"},
		{"/" + strings.Repeat("a", many), ""}, {"/" + strings.Repeat("a", many) + "/..", "/"}, {strings.Repeat("a", many), ""},
	} {
		if got := impl.Clean(c.s); got != c.want {
			t.Errorf("Clean of %q... with %d bytes = %q, want %q", c.s[:5], len(c.s), got, c.want)
		}
	}
}

func TestJoin(t *testing.T) {
	for _, c := range []struct{ dir, name, want string }{
		{"/", "a", "/a"}, {"/a", "b", "/a/b"}, {"/a", "a", "/a/a"}, {"/a/b/c/d/e", "f", "/a/b/c/d/e/f"}, {"/a/b/c/d/e/f", "g", ""},
		{"/", name40, "/" + name40}, {"/", name41, ""}, {"/a", name41, ""}, {"/a", "...", "/a/..."}, {"/...", ".a", "/.../.a"}, {"/a", "\xff", "/a/\xff"}, {"/a", " ", "/a/ "},
		{"/", "", ""}, {"/", ".", ""}, {"/", "..", ""}, {"/a", "", ""}, {"/a", ".", ""}, {"/a", "..", ""}, {"/", "/", ""}, {"/", "/a", ""}, {"/", "a/", ""}, {"/", "a/b", ""},
		{"/a", "b/c", ""}, {"/a", "b\n", ""}, {"/a", "\"b", ""}, {"/a", "b\x00c", ""},
		{"", "a", ""}, {"a", "b", ""}, {"/a/", "b", ""}, {"//", "b", ""}, {"/.", "b", ""}, {"/a/..", "b", ""}, {"/" + name41, "b", ""}, {"/1/2/3/4/5/6/7", "b", ""}, {"", "", ""},
	} {
		if got := impl.Join(c.dir, c.name); got != c.want {
			t.Errorf("Join(%q, %q) = %q, want %q", c.dir, c.name, got, c.want)
		}
	}
}

func TestJoinOfEveryDirAndName(t *testing.T) {
	names := []string{"a", "b c", "...", ".a", "\xff", name40, "", ".", "..", "/", "a/b", "/a", "a/", "a\n", "\"", "\x00", name41}
	for _, dir := range slices.Concat([]string{"/"}, goodPaths, noPaths) {
		for _, name := range names {
			want := ""
			switch depth := expectPath(dir); {
			case !expectName(name):
			case depth == 0:
				want = "/" + name
			case depth > 0 && depth < 6:
				want = dir + "/" + name
			}
			if got := impl.Join(dir, name); got != want {
				t.Errorf("Join(%q, %q) = %q, want %q", dir, name, got, want)
			}
		}
	}
}

func TestDirOfAndBaseOf(t *testing.T) {
	for _, c := range []struct{ path, dir, base string }{
		{"/a", "/", "a"}, {"/a/b", "/a", "b"}, {"/a/b.log", "/a", "b.log"}, {"/ab/c/ab", "/ab/c", "ab"}, {"/1/2/3/4/5/6", "/1/2/3/4/5", "6"},
		{"/...", "/", "..."}, {"/.../.a", "/...", ".a"}, {"/a/" + name40, "/a", name40}, {"/" + name40 + "/a", "/" + name40, "a"}, {"/\xff/\xc3", "/\xff", "\xc3"},
		{"/", "", ""},
	} {
		if got := impl.DirOf(c.path); got != c.dir {
			t.Errorf("DirOf(%q) = %q, want %q", c.path, got, c.dir)
		}
		if got := impl.BaseOf(c.path); got != c.base {
			t.Errorf("BaseOf(%q) = %q, want %q", c.path, got, c.base)
		}
	}
	for _, s := range noPaths {
		if got := impl.DirOf(s); got != "" {
			t.Errorf("DirOf(%q) = %q, want none", s, got)
		}
		if got := impl.BaseOf(s); got != "" {
			t.Errorf("BaseOf(%q) = %q, want none", s, got)
		}
	}
}

// TestPathsAreTheirNameInTheirFolder holds promise 4's second half on every sort of text.
func TestPathsAreTheirNameInTheirFolder(t *testing.T) {
	everySortOfText(func(s string) {
		dir, base := impl.DirOf(s), impl.BaseOf(s)
		depth := expectPath(s)
		if depth < 1 {
			if dir != "" || base != "" {
				t.Fatalf("%q is no path, but has the folder %q and the name %q", s, dir, base)
			}
			return
		}
		if impl.DepthOf(dir) != depth-1 || !impl.NameOk(base) || !strings.HasSuffix(s, "/"+base) {
			t.Fatalf("%q has the folder %q and the name %q", s, dir, base)
		}
		if got := impl.Join(dir, base); got != s {
			t.Fatalf("Join(%q, %q) = %q, want %q", dir, base, got, s)
		}
		if !impl.Under(s, dir) || impl.Under(dir, s) || impl.Under(s, s) {
			t.Fatalf("%q doesn't stand in its folder %q alone", s, dir)
		}
	})
}

func TestUnder(t *testing.T) {
	for _, c := range []struct {
		path, dir string
		want      bool
	}{
		// A folder, the folder of that, the root.
		{"/a/b", "/a", true}, {"/a/b/c", "/a/b", true}, {"/a/b/c", "/a", true}, {"/a", "/", true}, {"/a/b/c", "/", true}, {"/a/a", "/a", true}, {"/.../a", "/...", true},
		{"/1/2/3/4/5/6", "/1/2/3/4/5", true}, {"/1/2/3/4/5/6", "/1", true}, {"/1/2/3/4/5/6", "/", true},
		// Itself, what stands in it, and what stands beside it.
		{"/a", "/a", false}, {"/a/b", "/a/b", false}, {"/1/2/3/4/5/6", "/1/2/3/4/5/6", false}, {"/", "/", false}, {"/a", "/a/b", false}, {"/", "/a", false},
		{"/a/b", "/b", false}, {"/a/b/c", "/a/c", false}, {"/a/b/c", "/b", false}, {"/a/b/c", "/b/c", false}, {"/b/a", "/a", false},
		// Bytes that begin alike where names don't.
		{"/ab", "/a", false}, {"/ab/c", "/a", false}, {"/a/bc", "/a/b", false}, {"/a/bc/d", "/a/b", false}, {"/a.b", "/a", false}, {"/a b", "/a", false}, {"/a/b", "/ab", false}, {"/a", "/ab", false},
		{"/A/b", "/a", false},
		// Texts that are no paths.
		{"/a/b", "", false}, {"/a/b", "a", false}, {"/a/b", "/a/", false}, {"/a/b", "//a", false}, {"/a/b", "//", false}, {"/a/b", "/./a", false}, {"/a/b", "/..", false}, {"/a/b", ".", false},
		{"", "", false}, {"", "/", false}, {"", "/a", false}, {"a", "/", false}, {"a/b", "/", false}, {"a/b", "a", false}, {"/a/", "/", false}, {"/a/", "/a", false}, {"/a//b", "/a", false},
		{"//a", "/", false}, {"/a/.", "/a", false}, {"/a/..", "/a", false}, {"/.", "/", false}, {"/..", "/", false}, {"/a/\n", "/a", false}, {"/a/" + name41, "/a", false}, {"/a/" + name40, "/a", true},
		{"/1/2/3/4/5/6/7", "/1/2/3/4/5/6", false}, {"/1/2/3/4/5/6/7", "/", false}, {"/1/2/3/4/5/6/7/8", "/1/2/3/4/5/6/7", false}, {"/" + name41 + "/a", "/" + name41, false},
	} {
		if got := impl.Under(c.path, c.dir); got != c.want {
			t.Errorf("Under(%q, %q) = %v", c.path, c.dir, got)
		}
	}
}

// expectUnder goes up from a path, one folder at a time.
func expectUnder(s, dir string) bool {
	if expectPath(s) < 1 || expectPath(dir) < 0 {
		return false
	}
	for s != "/" {
		s = path.Dir(s)
		if s == dir {
			return true
		}
	}
	return false
}

func TestUnderOfEveryTwoTexts(t *testing.T) {
	texts := slices.Concat([]string{"/"}, goodPaths, noPaths)
	everyText("/a.", 5, func(s string) { texts = append(texts, s) })
	for _, s := range texts {
		for _, dir := range texts {
			if got, want := impl.Under(s, dir), expectUnder(s, dir); got != want {
				t.Fatalf("Under(%q, %q) = %v", s, dir, got)
			}
		}
	}
	everyParts([]string{"a", "b"}, 6, func(s string) {
		everyParts([]string{"a", "b"}, 6, func(dir string) {
			if got, want := impl.Under(s, dir), expectUnder(s, dir); got != want {
				t.Fatalf("Under(%q, %q) = %v", s, dir, got)
			}
		})
	})
}
