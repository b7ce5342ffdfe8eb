package tests

import (
	"strings"
	"testing"
)

// Without this the check of the language could find nothing because it looks at nothing.
func TestLanguageCheckFindsBreaches(t *testing.T) {
	for _, c := range []struct{ code, want string }{
		{"import \"fmt\"\n\nvar _ = 1\n\nfunc f() string { return fmt.Sprint() }\n", "import of fmt"},
		{"import \"iter\"\n\nfunc f(s iter.Seq[int]) { iter.Pull(s) }\n", "use of iter.Pull"},
		{"import \"sync\"\n\ntype box struct{ m sync.Map }\n", "use of sync.Map"},
		{"//go:noinline\nfunc f() {}\n", "directive //go:noinline"},
		{"func f() { println(1) }\n", "printing"},
		{"func f()  {}\n", "gofmt's layout"},
		{"func f() {\n" + strings.Repeat("\t_ = 1\n", 59) + "}\n", "function f is too long"},
		{"var count int\n", "without a value of its own"},
		{"var names = map[string]int{}\n", "no table of plain values"},
		{"var half = 0.5\n", "no table of plain values"},
		{"var act = func() {}\n", "no table of plain values"},
		{"var word = \"a\"\n", "no constant"},
		{"var size = len([]int{1})\n", "computed by a call"},
		{"var a = []int{1}\nvar b = [1][]int{a}\n", "refers to another one"},
		{"var table = [2]int{1, 2}\n\nfunc f() { table[0] = 3 }\n", "table changed or pointed at"},
		{"var table = [2]int{1, 2}\n\nfunc f() { table[0]++ }\n", "table changed or pointed at"},
		{"var table = [2]int{1, 2}\n\nfunc f() *int { return &table[0] }\n", "table changed or pointed at"},
		{"func f(a, b error) bool { return a == b }\n", "two values of an interface type compared"},
		{"func f() []rune { return []rune(\"a\") }\n", "constant text made runes"},
		{"func F(m map[float64]int) {}\n", "map argument"},
		{"func F(m map[any]int) {}\n", "map argument"},
		{"func f(m map[int]int) {\n\tfor k := range m {\n\t\tm[k+1] = 0\n\t}\n}\n", "key stored into a map"},
		{"func f(x any) error {\n\te, ok := x.(error)\n\t_ = ok\n\treturn e\n}\n", "whose ok guards nothing"},
	} {
		found := breaches(t, map[string]string{"snippet.go": "package impl\n\n" + c.code})
		if !strings.Contains(strings.Join(found, "\n"), c.want) {
			t.Errorf("%q is said of\n%s\nbut not %q", found, c.code, c.want)
		}
	}
}

func TestLanguageCheckLetsGoodCodePass(t *testing.T) {
	for _, code := range []string{
		"import \"errors\"\n\nvar errGone = errors.New(\"gone\")\n\nfunc f(e error) bool { return e != nil && errors.Is(e, errGone) }\n",
		"var table = [...]struct {\n\tname string\n\tsize uint8\n}{{\"a\", 1}}\n\nfunc f() int { return int(table[0].size) }\n",
		"import \"sync\"\n\ntype box struct{ m sync.Mutex }\n",
		"func f() {\n" + strings.Repeat("\t_ = 1\n", 58) + "}\n",
		"func f(m map[int]int) {\n\tfor k := range m {\n\t\tm[k] = 0\n\t}\n}\n",
		"func f(x any) error {\n\tif e, ok := x.(error); ok {\n\t\treturn e\n\t}\n\treturn nil\n}\n",
		"func f(s string) []rune { return []rune(s) }\n",
	} {
		if found := breaches(t, map[string]string{"snippet.go": "package impl\n\n" + code}); len(found) > 0 {
			t.Errorf("%q is said of\n%s", found, code)
		}
	}
}
