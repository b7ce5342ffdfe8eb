package tests

import (
	"fmt"
	"math"
	"math/rand"
	"slices"
	"strconv"
	"strings"
	"sync"
	"testing"

	"loop.example/g00704/impl"
)

// wordsBehind tells of each word that a line may begin with how many words may stand behind it.
var wordsBehind = map[string]string{
	"hourly": "0", "daily": "0", "weekly": "0", "monthly": "0", "yearly": "0",
	"rotate": "1", "size": "1", "minsize": "1", "maxsize": "1", "maxage": "1", "create": "01",
	"nocreate": "0", "nosize": "0", "nominsize": "0", "nomaxsize": "0", "nomaxage": "0",
	"copytruncate": "0", "compress": "0", "delaycompress": "0", "dateext": "0", "missingok": "0", "ifempty": "0",
	"nocopytruncate": "0", "nocompress": "0", "nodelaycompress": "0", "nodateext": "0", "nomissingok": "0", "notifempty": "0",
	"dateformat": "1", "olddir": "1", "noolddir": "0", "hook": "1", "nohook": "0",
}

// otherWords look like such words, but are none.
var otherWords = []string{
	"", " ", "what", "no", "not", "nono", "norotate", "nodateformat", "noifempty", "notcompress", "notcreate", "ifempty ", "nohourly", "nodaily", "noweekly", "nomonthly", "noyearly",
	"Daily", "DAILY", "dail", "dailys", "rotated", "rotat", "nosizes", "nonosize", "nonotifempty", "nonotempty", "notempty", "empty", "copy", "small", "delay", "dated", "missing", "missingok\n", "period", "count",
	"format", "ole", "nodir", "nohooks", "minute", "{", "}", "/a", "#", "olddir=", "size=1", "\x00", "\xff", "no size", "rotate 4", strings.Repeat("no", 4000),
}

// expectOptOk holds each number against its limits, and each text against what the other chapters' second readings tell.
func expectOptOk(o impl.Opt) bool {
	for _, l := range [][3]int{
		{o.Period, 0, 4}, {o.Count, 0, 99}, {o.MaxAge, -1, 9999}, {o.Create, -1, 511},
		{o.Size, -1, 999999999}, {o.MinSize, -1, 999999999}, {o.MaxSize, -1, 999999999},
	} {
		if l[0] < l[1] || l[0] > l[2] {
			return false
		}
	}
	return expectFormat(o.Format) && (o.OldDir == "" || expectPath(o.OldDir) > 0) && (o.Hook == "" || expectHook(o.Hook))
}

func expectFormat(format string) bool {
	for i := range len(format) {
		if b := format[i]; b == 47 || b == 32 || b == 9 || b == 34 || b == 10 {
			return false
		}
	}
	return len(format) >= 1 && len(format) <= 20 && expectRender(format, 0) != "" && keptTime(format, 0) == 0 && readsBack(format)
}

func expectHook(hook string) bool {
	return expectName(hook) && hook != "{" && !strings.Contains(hook, " ") && !strings.Contains(hook, "\t")
}

func expectSetOpt(o impl.Opt, words []string) (impl.Opt, int) {
	if len(words) == 0 {
		return o, impl.CfWord
	}
	behind, known := wordsBehind[words[0]]
	if !known {
		return o, impl.CfWord
	}
	if !strings.Contains(behind, strconv.Itoa(len(words)-1)) {
		return o, impl.CfArgs
	}
	after := o
	if !expectSaid(&after, words[0], words[1:]) || !expectOptOk(after) {
		return o, impl.CfValue
	}
	return after, impl.CfOk
}

// expectSaid tells false where what stands behind a word isn't as told.
func expectSaid(o *impl.Opt, word string, args []string) bool {
	for period, name := range strings.Fields("hourly daily weekly monthly yearly") {
		if word == name {
			o.Period = period
			return true
		}
	}
	bare, yes := strings.TrimPrefix(strings.TrimPrefix(word, "no"), "t"), !strings.HasPrefix(word, "no")
	numbers := map[string]*int{"rotate": &o.Count, "size": &o.Size, "minsize": &o.MinSize, "maxsize": &o.MaxSize, "maxage": &o.MaxAge, "create": &o.Create}
	flags := map[string]*bool{"copytruncate": &o.Copy, "compress": &o.Small, "delaycompress": &o.Delay, "dateext": &o.Dated, "missingok": &o.Missing, "ifempty": &o.Empty}
	texts := map[string]*string{"dateformat": &o.Format, "olddir": &o.OldDir, "hook": &o.Hook}
	switch {
	case flags[bare] != nil:
		*flags[bare] = yes
		return true
	case numbers[bare] != nil && !yes:
		*numbers[bare] = -1
		return true
	case texts[bare] != nil && !yes:
		*texts[bare] = ""
		return true
	case bare == "create" && len(args) == 0:
		o.Create = 0o640
		return true
	}
	switch word {
	case "rotate", "maxage":
		*numbers[word] = impl.ReadDec(args[0])
		return *numbers[word] != -1
	case "size", "minsize", "maxsize":
		*numbers[word] = impl.SizeOf(args[0])
		return *numbers[word] != -1
	case "create":
		o.Create = impl.ReadOct(args[0])
		return o.Create != -1
	case "olddir":
		o.OldDir = expectClean(args[0])
		return o.OldDir != ""
	}
	*texts[word] = args[0]
	return args[0] != ""
}

func textOfOpt(o impl.Opt) string { return fmt.Sprintf("%+v", o) }

// checkSetOpt holds what is told of a line's words against the second reading, with the promises of the conventions.
func checkSetOpt(t *testing.T, o impl.Opt, words []string) int {
	t.Helper()
	all := slices.Concat(words, []string{"spare", "1"})
	kept := slices.Clone(all)
	got, code := impl.SetOpt(o, all[:len(words)])
	want, wantCode := expectSetOpt(o, words)
	if got != want || code != wantCode {
		t.Fatalf("SetOpt with %q of\n%s\ntold %d and\n%s\nnot %d and\n%s", words, textOfOpt(o), code, textOfOpt(got), wantCode, textOfOpt(want))
	}
	if code != impl.CfOk && got != o {
		t.Fatalf("SetOpt with %q told %d, but left\n%s\nof\n%s", words, code, textOfOpt(got), textOfOpt(o))
	}
	if code == impl.CfOk && !impl.OptOk(got) {
		t.Fatalf("SetOpt with %q left what isn't right: %s", words, textOfOpt(got))
	}
	if !slices.Equal(all, kept) {
		t.Fatalf("SetOpt with %q wrote into the words", words)
	}
	return code
}

func plainOpt() impl.Opt { return impl.Plainly(impl.PWeek) }

// fullOpt is right, and has no field as plainOpt has it.
func fullOpt() impl.Opt {
	return impl.Opt{
		Period: impl.PYear, Count: 99, Size: 0, MinSize: 1, MaxSize: 999999999, MaxAge: 9999, Create: 511, Copy: true, Small: true, Delay: true, Dated: true,
		Format: ".%s", OldDir: "/old logs/a", Missing: true, Empty: false, Hook: "reload",
	}
}

// changedOpt is plainOpt with something done to it.
func changedOpt(change func(o *impl.Opt)) impl.Opt {
	o := plainOpt()
	change(&o)
	return o
}

// wrongOpts are each wrong in one thing alone, but for the zero one.
func wrongOpts() map[string]impl.Opt {
	list := map[string]impl.Opt{"zero": {}}
	add := func(name string, change func(o *impl.Opt)) { list[name] = changedOpt(change) }
	for name, limits := range optLimits() {
		for _, n := range []int{limits.low - 1, limits.high + 1, math.MinInt, math.MaxInt} {
			add(fmt.Sprint(name, n), func(o *impl.Opt) { *limits.place(o) = n })
		}
	}
	for _, format := range []string{"", "%Y", "x", "/%s", "%s%Y", strings.Repeat("x", 19) + "%s", "%"} {
		add("format "+format, func(o *impl.Opt) { o.Format = format })
	}
	for _, dir := range []string{"/", "old", "/old/", "/old/..", "/\"", "/1/2/3/4/5/6/7"} {
		add("olddir "+dir, func(o *impl.Opt) { o.OldDir = dir })
	}
	for _, hook := range []string{"{", "a b", "a\tb", "a/b", ".", "..", "\"", name41} {
		add("hook "+hook, func(o *impl.Opt) { o.Hook = hook })
	}
	return list
}

type optLimit struct {
	low, high int
	place     func(o *impl.Opt) *int
}

func optLimits() map[string]optLimit {
	return map[string]optLimit{
		"Period":  {0, 4, func(o *impl.Opt) *int { return &o.Period }},
		"Count":   {0, 99, func(o *impl.Opt) *int { return &o.Count }},
		"Size":    {-1, 999999999, func(o *impl.Opt) *int { return &o.Size }},
		"MinSize": {-1, 999999999, func(o *impl.Opt) *int { return &o.MinSize }},
		"MaxSize": {-1, 999999999, func(o *impl.Opt) *int { return &o.MaxSize }},
		"MaxAge":  {-1, 9999, func(o *impl.Opt) *int { return &o.MaxAge }},
		"Create":  {-1, 511, func(o *impl.Opt) *int { return &o.Create }},
	}
}

func TestRuleConstants(t *testing.T) {
	got := []int{impl.MaxCount, impl.CfOk, impl.CfWord, impl.CfArgs, impl.CfValue, impl.CfGlob, impl.CfOpen, impl.CfClose, impl.CfEnd, impl.CfLong}
	if want := []int{99, 0, 1, 2, 3, 4, 5, 6, 7, 8}; !slices.Equal(got, want) {
		t.Errorf("the constants are %v, not %v", got, want)
	}
}

func TestOptOkOfNumbers(t *testing.T) {
	if !impl.OptOk(plainOpt()) || !impl.OptOk(fullOpt()) || impl.OptOk(impl.Opt{}) {
		t.Error("plain", impl.OptOk(plainOpt()), "full", impl.OptOk(fullOpt()), "zero", impl.OptOk(impl.Opt{}))
	}
	for name, limits := range optLimits() {
		for _, base := range []impl.Opt{plainOpt(), fullOpt()} {
			for _, n := range []int{math.MinInt, math.MinInt32, -1000, -3, -2, -1, 0, 1, 2, 3, 4, 5, 98, 99, 100, 510, 511, 512, 9998, 9999, 10000, 999999998, 999999999, 1000000000, math.MaxInt32, math.MaxInt32 + 1, math.MaxInt} {
				o := base
				*limits.place(&o) = n
				if got := impl.OptOk(o); got != (n >= limits.low && n <= limits.high) {
					t.Errorf("OptOk with %s %d = %v", name, n, got)
				}
			}
		}
	}
}

func TestOptOkAsksForEachThing(t *testing.T) {
	for name, o := range wrongOpts() {
		if impl.OptOk(o) {
			t.Errorf("OptOk with a wrong %s = true", name)
		}
	}
	// Flags may stand together in any way.
	for bits := range 64 {
		o := plainOpt()
		for i, flag := range []*bool{&o.Copy, &o.Small, &o.Delay, &o.Dated, &o.Missing, &o.Empty} {
			*flag = bits>>i&1 == 1
		}
		if !impl.OptOk(o) {
			t.Errorf("OptOk with the flags %06b = false", bits)
		}
	}
}

func TestOptOkOfFormats(t *testing.T) {
	look := func(format string, want bool) {
		t.Helper()
		if got := impl.OptOk(changedOpt(func(o *impl.Opt) { o.Format = format })); got != want {
			t.Errorf("OptOk with the format %q = %v", format, got)
		}
	}
	for _, format := range []string{
		"-%Y%m%d", "%s", "-%s", "%Y%m%d", "%d.%m.%Y", "%Y%m%d%H%M%S", "%Y-%m-%d_%H:%M:%S", "%Y%m%d%j", "%s.%Y", "%s%%", "%%%s", "%Y%m%d%s", ".%s.%s",
		"{%s", "%s}", "#%s", "\x00%s", "\xff%s", "%s\r", "%Y%Y%m%d", "%%Y%s", strings.Repeat("x", 18) + "%s", "%s" + strings.Repeat("-", 18), "%Y%m%d" + strings.Repeat("%d", 7),
	} {
		look(format, true)
	}
	for _, format := range []string{
		"", "x", "%", "%Y", "%m", "%d", "%Y%m", "%Y%d", "%m%d", "%H%M%S", "%j", "%Y%j", "%%s", "%%Y%m%d", "Y m d",
		// One more byte than there may be.
		strings.Repeat("x", 19) + "%s", "%s" + strings.Repeat("-", 19), "%Y%m%d" + strings.Repeat("%d", 7) + "x",
		// What s takes of the digits behind it.
		"%s0", "%s%Y", "%s%s", "%s%j", "%s%Y%m%d", "%Y%m%d%s%s",
		// Letters that there are not.
		"%s%", "%Y%m%d%", "%s%y", "%s%h", "%s%q", "%Y%m%d%", "%S%x%s", "%s% ", "%s%\x00",
		// Bytes that there may not be.
		"/%s", "%s/", "%s /", " %s", "%s ", "\t%s", "%s\t", "\"%s", "%s\"", "\n%s", "%s\n", "%Y/%m/%d", "%Y %m %d", "%/%s",
	} {
		look(format, false)
	}
	for b := range 256 {
		good := b != 47 && b != 32 && b != 9 && b != 34 && b != 10
		look(byteText(b)+"%s", good && b != '%')
		look("%Y%m%d"+byteText(b), good && b != '%')
		look("%s"+byteText(b), good && b != '%' && (b < '0' || b > '9'))
	}
	for size := range 40 {
		look(strings.Repeat("-", size)+"%s", size <= 18)
	}
	look(strings.Repeat("%s-", 100000), false)
}

func TestOptOkOfEveryShortFormat(t *testing.T) {
	right := 0
	everyJoined([]string{"%Y", "%m", "%d", "%H", "%s", "%%", "%", "0", "-", "/", " "}, 5, func(format string) {
		want := expectFormat(format)
		if want {
			right++
		}
		if got := impl.OptOk(changedOpt(func(o *impl.Opt) { o.Format = format })); got != want {
			t.Fatalf("OptOk with the format %q = %v", format, got)
		}
	})
	if right < 1000 {
		t.Errorf("only %d formats were right", right)
	}
}

// everyJoined calls look with each list of at most most of the parts, nothing between them.
func everyJoined(parts []string, most int, look func(string)) {
	everyText("0123456789abcdef"[:len(parts)], most, func(places string) {
		var s strings.Builder
		for i := range len(places) {
			s.WriteString(parts[strings.IndexByte("0123456789abcdef", places[i])])
		}
		look(s.String())
	})
}

func TestOptOkOfFoldersAndHooks(t *testing.T) {
	withDir := func(dir string) bool { return impl.OptOk(changedOpt(func(o *impl.Opt) { o.OldDir = dir })) }
	withHook := func(hook string) bool { return impl.OptOk(changedOpt(func(o *impl.Opt) { o.Hook = hook })) }
	for _, dir := range append(slices.Clone(goodPaths), "", "/{", "/ ", "/#") {
		if !withDir(dir) {
			t.Errorf("OptOk with the folder %q = false", dir)
		}
	}
	for _, dir := range append(slices.Clone(noPaths), "/", "old", " ") {
		if got := withDir(dir); got != (dir == "") {
			t.Errorf("OptOk with the folder %q = %v", dir, got)
		}
	}
	for _, hook := range []string{"", "a", "reload", "}", "{{", "{}", "}{", "a{", "#", "...", ".a", name40, "\xff", "\\", "*", "no", "\r"} {
		if !withHook(hook) {
			t.Errorf("OptOk with the hook %q = false", hook)
		}
	}
	for _, hook := range []string{"{", ".", "..", " ", "a b", " a", "a ", "\t", "a\tb", "a\t", "/", "a/b", "a\n", "\n", "\"", "\"a\"", "\x00", name41, strings.Repeat("a", 5000)} {
		if withHook(hook) {
			t.Errorf("OptOk with the hook %q = true", hook)
		}
	}
	for b := range 256 {
		good := b != 47 && b != 32 && b != 9 && b != 34 && b != 10 && b != 0
		if got := withHook("a" + byteText(b)); got != good {
			t.Errorf("OptOk with the hook %q = %v", "a"+byteText(b), got)
		}
		if got := withHook(byteText(b)); got != (good && b != '.' && b != '{') {
			t.Errorf("OptOk with the hook %q = %v", byteText(b), got)
		}
	}
}

func TestPlainly(t *testing.T) {
	for _, period := range []int{math.MinInt, -1000000, -2, -1, 0, 1, 2, 3, 4, 5, 6, 100, math.MaxInt32, math.MaxInt} {
		want := impl.Opt{Period: period, Count: 4, Size: -1, MinSize: -1, MaxSize: -1, MaxAge: -1, Create: -1, Format: "-%Y%m%d", Empty: true}
		there := period >= 0 && period <= 4
		if !there {
			want = impl.Opt{}
		}
		got := impl.Plainly(period)
		if got != want {
			t.Errorf("Plainly(%d) = %s", period, textOfOpt(got))
		}
		if impl.OptOk(got) != there {
			t.Errorf("OptOk of Plainly(%d) = %v", period, !there)
		}
	}
}

// setCase is a line, and what comes of it where it stands alone.
type setCase struct {
	line   string
	code   int
	change func(o *impl.Opt)
}

func TestSetOpt(t *testing.T) {
	ok, args, value := impl.CfOk, impl.CfArgs, impl.CfValue
	for _, c := range []setCase{
		{"hourly", ok, func(o *impl.Opt) { o.Period = impl.PHour }}, {"daily", ok, func(o *impl.Opt) { o.Period = impl.PDay }}, {"weekly", ok, func(o *impl.Opt) { o.Period = impl.PWeek }},
		{"monthly", ok, func(o *impl.Opt) { o.Period = impl.PMonth }}, {"yearly", ok, func(o *impl.Opt) { o.Period = impl.PYear }}, {"hourly 1", args, nil}, {"yearly yearly", args, nil},
		{"rotate 0", ok, func(o *impl.Opt) { o.Count = 0 }}, {"rotate 7", ok, func(o *impl.Opt) { o.Count = 7 }}, {"rotate 99", ok, func(o *impl.Opt) { o.Count = 99 }},
		{"rotate 100", value, nil}, {"rotate -1", value, nil}, {"rotate 07", value, nil}, {"rotate x", value, nil}, {"rotate 1k", value, nil}, {`rotate ""`, value, nil}, {"rotate +1", value, nil},
		{"rotate", args, nil}, {"rotate 1 2", args, nil}, {"rotate x y", args, nil},
		{"size 0", ok, func(o *impl.Opt) { o.Size = 0 }}, {"size 10k", ok, func(o *impl.Opt) { o.Size = 10240 }}, {"size 999999999", ok, func(o *impl.Opt) { o.Size = 999999999 }},
		{"size 953M", ok, func(o *impl.Opt) { o.Size = 999292928 }}, {"size 954M", value, nil}, {"size 0G", ok, func(o *impl.Opt) { o.Size = 0 }}, {"size 1G", value, nil}, {"size 1000000000", value, nil},
		{"size 007", ok, func(o *impl.Opt) { o.Size = 7 }}, {"size -1", value, nil}, {"size x", value, nil}, {"size 1K", value, nil}, {`size ""`, value, nil}, {"size", args, nil}, {"size 1 k", args, nil},
		{"minsize 5", ok, func(o *impl.Opt) { o.MinSize = 5 }}, {"minsize 1M", ok, func(o *impl.Opt) { o.MinSize = 1048576 }}, {"minsize -1", value, nil}, {"minsize 1G", value, nil}, {"minsize", args, nil}, {"minsize 1 2", args, nil},
		{"maxsize 5", ok, func(o *impl.Opt) { o.MaxSize = 5 }}, {"maxsize 976562k", ok, func(o *impl.Opt) { o.MaxSize = 999999488 }}, {"maxsize 976563k", value, nil}, {"maxsize -1", value, nil}, {"maxsize", args, nil}, {"maxsize 1 2", args, nil},
		{"maxage 0", ok, func(o *impl.Opt) { o.MaxAge = 0 }}, {"maxage 9999", ok, func(o *impl.Opt) { o.MaxAge = 9999 }}, {"maxage 10000", value, nil}, {"maxage -1", value, nil}, {"maxage 1d", value, nil}, {"maxage 01", value, nil},
		{"maxage", args, nil}, {"maxage 1 2", args, nil},
		{"create", ok, func(o *impl.Opt) { o.Create = 416 }}, {"create 0600", ok, func(o *impl.Opt) { o.Create = 384 }}, {"create 600", ok, func(o *impl.Opt) { o.Create = 384 }}, {"create 000", ok, func(o *impl.Opt) { o.Create = 0 }},
		{"create 0777", ok, func(o *impl.Opt) { o.Create = 511 }}, {"create 888", value, nil}, {"create 1000", value, nil}, {"create 00600", value, nil}, {"create 0", value, nil}, {"create -1", value, nil}, {`create ""`, value, nil},
		{"create root", value, nil}, {"create 0600 root", args, nil}, {"create x y", args, nil}, {"create 0600 root root", args, nil},
		{"nocreate", ok, func(o *impl.Opt) { o.Create = -1 }}, {"nosize", ok, func(o *impl.Opt) { o.Size = -1 }}, {"nominsize", ok, func(o *impl.Opt) { o.MinSize = -1 }},
		{"nomaxsize", ok, func(o *impl.Opt) { o.MaxSize = -1 }}, {"nomaxage", ok, func(o *impl.Opt) { o.MaxAge = -1 }}, {"nocreate 0600", args, nil}, {"nosize 1", args, nil}, {"nominsize 1", args, nil}, {"nomaxsize x", args, nil}, {"nomaxage 1", args, nil},
		{"copytruncate", ok, func(o *impl.Opt) { o.Copy = true }}, {"nocopytruncate", ok, func(o *impl.Opt) { o.Copy = false }}, {"compress", ok, func(o *impl.Opt) { o.Small = true }}, {"nocompress", ok, func(o *impl.Opt) { o.Small = false }},
		{"delaycompress", ok, func(o *impl.Opt) { o.Delay = true }}, {"nodelaycompress", ok, func(o *impl.Opt) { o.Delay = false }}, {"dateext", ok, func(o *impl.Opt) { o.Dated = true }}, {"nodateext", ok, func(o *impl.Opt) { o.Dated = false }},
		{"missingok", ok, func(o *impl.Opt) { o.Missing = true }}, {"nomissingok", ok, func(o *impl.Opt) { o.Missing = false }}, {"ifempty", ok, func(o *impl.Opt) { o.Empty = true }}, {"notifempty", ok, func(o *impl.Opt) { o.Empty = false }},
		{"compress yes", args, nil}, {"nocompress 1", args, nil}, {"ifempty 1", args, nil}, {"notifempty x", args, nil}, {"dateext .%s", args, nil}, {`missingok ""`, args, nil},
		{"dateformat .%s", ok, func(o *impl.Opt) { o.Format = ".%s" }}, {"dateformat {%s", ok, func(o *impl.Opt) { o.Format = "{%s" }}, {"dateformat %Y", value, nil}, {`dateformat ""`, value, nil}, {`dateformat "%s x"`, value, nil},
		{"dateformat %Y/%m/%d", value, nil}, {"dateformat", args, nil}, {"dateformat %Y %m %d", args, nil},
		{"olddir /old", ok, func(o *impl.Opt) { o.OldDir = "/old" }}, {"olddir /a/../b", ok, func(o *impl.Opt) { o.OldDir = "/b" }}, {"olddir //a/./b/", ok, func(o *impl.Opt) { o.OldDir = "/a/b" }}, {`olddir "/a b"`, ok, func(o *impl.Opt) { o.OldDir = "/a b" }},
		{"olddir b", value, nil}, {"olddir /", value, nil}, {"olddir /a/..", value, nil}, {`olddir ""`, value, nil}, {"olddir /1/2/3/4/5/6/7", value, nil}, {"olddir", args, nil}, {"olddir /a /b", args, nil},
		{"noolddir", ok, func(o *impl.Opt) { o.OldDir = "" }}, {"noolddir /a", args, nil},
		{"hook reload", ok, func(o *impl.Opt) { o.Hook = "reload" }}, {"hook }", ok, func(o *impl.Opt) { o.Hook = "}" }}, {"hook {", value, nil}, {"hook a/b", value, nil}, {`hook "a b"`, value, nil}, {`hook ""`, value, nil}, {"hook .", value, nil},
		{"hook", args, nil}, {"hook a b", args, nil}, {"nohook", ok, func(o *impl.Opt) { o.Hook = "" }}, {"nohook a", args, nil},
		{"", impl.CfWord, nil}, {`""`, impl.CfWord, nil}, {"what", impl.CfWord, nil}, {"what 1 2", impl.CfWord, nil}, {"norotate", impl.CfWord, nil}, {"norotate 1", impl.CfWord, nil}, {"nodateformat", impl.CfWord, nil}, {"noifempty", impl.CfWord, nil},
		{"notcompress", impl.CfWord, nil}, {"Daily", impl.CfWord, nil}, {`"rotate 4"`, impl.CfWord, nil}, {"# daily", impl.CfWord, nil}, {"}", impl.CfWord, nil}, {"/a {", impl.CfWord, nil},
	} {
		for _, base := range []impl.Opt{plainOpt(), fullOpt()} {
			want := base
			if c.change != nil {
				c.change(&want)
			}
			if got, code := impl.SetOpt(base, impl.Words(c.line)); got != want || code != c.code {
				t.Errorf("SetOpt with %q told %d and\n%s\nnot %d and\n%s", c.line, code, textOfOpt(got), c.code, textOfOpt(want))
			}
			checkSetOpt(t, base, impl.Words(c.line))
		}
	}
}

// Each word, and such as are none, with each number of words behind it, of each sort.
func TestSetOptOfEveryWord(t *testing.T) {
	values := []string{"", "0", "7", "99", "100", "-1", "0600", "888", "10k", "1G", "954M", "9999", "10000", "999999999", "1000000000", ".%s", "%Y", "/a", "/a/../b", "/", "b", "reload", "{", "}", "a b", "a/b", "no", "daily", "\xff"}
	words := slices.Clone(otherWords)
	for word := range wordsBehind {
		words = append(words, word)
	}
	if len(wordsBehind) != 33 {
		t.Fatalf("%d words", len(wordsBehind))
	}
	bases := []impl.Opt{plainOpt(), fullOpt()}
	for _, o := range wrongOpts() {
		bases = append(bases, o)
	}
	told := map[int]int{}
	for _, base := range bases {
		told[checkSetOpt(t, base, nil)]++
		for _, word := range words {
			told[checkSetOpt(t, base, []string{word})]++
			for _, value := range values {
				told[checkSetOpt(t, base, []string{word, value})]++
			}
			told[checkSetOpt(t, base, []string{word, "7", "7"})]++
			told[checkSetOpt(t, base, []string{word, "", "", ""})]++
			told[checkSetOpt(t, base, append([]string{word}, make([]string, 10)...))]++
		}
	}
	for _, code := range []int{impl.CfOk, impl.CfWord, impl.CfArgs, impl.CfValue} {
		if told[code] < 100 {
			t.Errorf("the code %d was told %d times", code, told[code])
		}
	}
}

// Of what isn't right, a line is taken that makes it right, and no other one.
func TestSetOptOfWhatIsNotRight(t *testing.T) {
	zero := impl.Opt{}
	if got, code := impl.SetOpt(zero, []string{"rotate", "5"}); code != impl.CfValue || got != zero {
		t.Errorf("rotate told %d and %s", code, textOfOpt(got))
	}
	if got, code := impl.SetOpt(zero, []string{"dateformat", "%s"}); code != impl.CfOk || got != (impl.Opt{Format: "%s"}) {
		t.Errorf("dateformat told %d and %s", code, textOfOpt(got))
	}
	wrong := changedOpt(func(o *impl.Opt) { o.Hook, o.Count = "a b", 100 })
	for _, line := range []string{"daily", "rotate 5", "nohook", "hook reload", "nosize", "compress"} {
		if got, code := impl.SetOpt(wrong, impl.Words(line)); code != impl.CfValue || got != wrong {
			t.Errorf("%s told %d and %s", line, code, textOfOpt(got))
		}
	}
	for line, code := range map[string]int{"what": impl.CfWord, "": impl.CfWord, "daily 1": impl.CfArgs, "hook": impl.CfArgs} {
		if got, told := impl.SetOpt(wrong, impl.Words(line)); told != code || got != wrong {
			t.Errorf("%s told %d and %s", line, told, textOfOpt(got))
		}
	}
}

func TestLinesAreSetOneByOne(t *testing.T) {
	random := rand.New(rand.NewSource(9))
	lines := []string{"hourly", "daily", "yearly", "rotate 3", "rotate 100", "size 5k", "nosize", "minsize 1", "nominsize", "maxsize 9M", "nomaxsize", "maxage 3", "nomaxage", "maxage x", "create", "create 0600", "create 9", "nocreate", "copytruncate", "nocopytruncate",
		"compress", "nocompress", "delaycompress", "nodelaycompress", "dateext", "nodateext", "missingok", "nomissingok", "ifempty", "notifempty", "dateformat .%s", "dateformat %d", "olddir /a/b", "noolddir", "olddir a", "hook x", "nohook", "hook {", "what", "daily 1"}
	for range 100 {
		o := plainOpt()
		for range 60 {
			words := impl.Words(lines[random.Intn(len(lines))])
			checkSetOpt(t, o, words)
			o, _ = impl.SetOpt(o, words)
			if !impl.OptOk(o) {
				t.Fatalf("%q left %s", words, textOfOpt(o))
			}
		}
	}
}

// expectGlob is told by the strokes' places.
func expectGlob(s string) bool {
	if len(s) == 0 || s[0] != 47 {
		return false
	}
	count, from := 0, 1
	for i := 1; i <= len(s); i++ {
		if i < len(s) && s[i] != 47 {
			continue
		}
		if _, ok := expectParts(s[from:i]); !ok || from == i {
			return false
		}
		count, from = count+1, i+1
	}
	return count >= 1 && count <= 6
}

func TestGlobOk(t *testing.T) {
	pattern60, pattern61 := strings.Repeat("*", 60), strings.Repeat("*", 61)
	for _, s := range []string{
		"/a", "/*", "/var/*.log", "/?", "/[a]", "/[a-z]*/b", "/a b", "/\"", "/{", "/#", "/.", "/..", "/a/../b", "/\\*", "/[!a]", "/[]]", "/]", "/\x00", "/\xff", "/ ", "/\t",
		"/1/2/3/4/5/6", "/*/*/*/*/*/*", "/" + pattern60, strings.Repeat("/"+pattern60, 6), "/[a]/[b]/[c]",
	} {
		if !impl.GlobOk(s) {
			t.Errorf("GlobOk(%q) = false", s)
		}
	}
	for _, s := range []string{
		"", "/", "//", "a", "var", "*", "*/a", " /a", "a/b", "[/a]", "/a/", "/a//b", "//a", "/a/b/", "/a//", "/*/", "/1/2/3/4/5/6/7", "/1/2/3/4/5/6/", "/1/2/3/4/5//6", "/*/*/*/*/*/*/*",
		"/[", "/a/[", "/[/a", "/[a", "/[a/b]", "/[]", "/[!]", "/\\", "/a\\", "/a\\/b", "/a/\\", "/a\n", "/\n", "/a/\n/b", "/" + pattern61, "/a/" + pattern61, "/" + pattern61 + "/a",
		strings.Repeat("/", 5000), strings.Repeat("/a", 5000), "/" + strings.Repeat("a", 5000),
	} {
		if impl.GlobOk(s) {
			t.Errorf("GlobOk(%q) = true", s)
		}
	}
	for count := range 12 {
		if got := impl.GlobOk(strings.Repeat("/*", count)); got != (count >= 1 && count <= 6) {
			t.Errorf("GlobOk with %d patterns = %v", count, got)
		}
	}
	for size := range 100 {
		if got := impl.GlobOk("/a/" + strings.Repeat("?", size)); got != (size >= 1 && size <= 60) {
			t.Errorf("GlobOk with a pattern of %d bytes = %v", size, got)
		}
	}
	look := func(s string) {
		if got := impl.GlobOk(s); got != expectGlob(s) {
			t.Fatalf("GlobOk(%q) = %v", s, got)
		}
	}
	everyText("/a[]\\\n", 7, look)
	everyText("/*", 14, look)
	everyParts([]string{"", "a", "[", "[a]", "\\", pattern60, pattern61}, 4, look)
	for b := range 256 {
		look("/" + byteText(b))
		look("/a" + byteText(b) + "b")
		look(byteText(b) + "a")
	}
}

// Every path is a pattern of paths, but where a byte makes it another pattern or none.
func TestGlobOkOfPaths(t *testing.T) {
	for _, path := range goodPaths {
		if got := impl.GlobOk(path); got != (path != "/\\") {
			t.Errorf("GlobOk(%q) = %v", path, got)
		}
	}
}

// ruleLine is a line with its number and the place of the block in which it stands (-1 outside); first is that of a block's first line.
type ruleLine struct {
	number, block int
	words         []string
	first         bool
	code          int
}

// expectRuleLines tells first where the blocks are, and what is wrong of the lines as such.
func expectRuleLines(s string) (list []ruleLine, last int, open bool) {
	block := -1
	texts := strings.Split(s, "\n")
	if texts[len(texts)-1] == "" {
		texts = texts[:len(texts)-1]
	}
	blocks := 0
	for i, text := range texts {
		l := ruleLine{number: i + 1, block: block, words: wordsByBytes(text)}
		if len(l.words) == 0 || strings.HasPrefix(l.words[0], "#") {
			continue
		}
		switch {
		case l.words[len(l.words)-1] == "{" && block >= 0:
			l.code = impl.CfOpen
		case l.words[len(l.words)-1] == "{":
			block = blocks
			blocks++
			l.block, l.first = block, true
			for _, glob := range l.words[:len(l.words)-1] {
				if !expectGlob(glob) {
					l.code = impl.CfGlob
				}
			}
			if len(l.words) == 1 {
				l.code = impl.CfArgs
			}
		case len(l.words) == 1 && l.words[0] == "}" && block < 0:
			l.code = impl.CfClose
		case len(l.words) == 1 && l.words[0] == "}":
			l.words = nil
			block = -1
		}
		list = append(list, l)
	}
	return list, len(texts), block >= 0
}

// expectRules goes through the lines of each block by themselves, with those outside ahead of it.
func expectRules(s string) (rules []impl.Rule, faults []impl.Fault) {
	if len(s) > 8000 {
		return nil, []impl.Fault{{Code: impl.CfLong}}
	}
	list, last, open := expectRuleLines(s)
	outside := plainOpt()
	for i, l := range list {
		switch {
		case l.first:
			opt, wrong, ends := outside, false, false
			for j := i; j < len(list) && list[j].block == l.block; j++ {
				m := &list[j]
				ends = m.words == nil
				if !ends && !m.first && m.code == impl.CfOk {
					opt, m.code = expectSetOpt(opt, m.words)
				}
				wrong = wrong || m.code != impl.CfOk
			}
			if ends && !wrong {
				rules = append(rules, impl.Rule{Globs: l.words[:len(l.words)-1], Opt: opt})
			}
		case l.block < 0 && l.code == impl.CfOk:
			outside, list[i].code = expectSetOpt(outside, l.words)
		}
	}
	for _, l := range list {
		if l.code != impl.CfOk {
			faults = append(faults, impl.Fault{Code: l.code, Line: l.number})
		}
	}
	if open {
		faults = append(faults, impl.Fault{Code: impl.CfEnd, Line: last})
	}
	return rules, faults
}

func sameRule(a, b impl.Rule) bool { return slices.Equal(a.Globs, b.Globs) && a.Opt == b.Opt }

func sameRules(a, b []impl.Rule) bool { return slices.EqualFunc(a, b, sameRule) }

func textOfRules(list []impl.Rule) string {
	s := fmt.Sprintf("%d rules", len(list))
	for _, r := range list {
		s += fmt.Sprintf("\n  %q %s", r.Globs, textOfOpt(r.Opt))
	}
	return s
}

func cloneRules(list []impl.Rule) []impl.Rule {
	list = slices.Clone(list)
	for i := range list {
		list[i].Globs = slices.Clone(list[i].Globs)
	}
	return list
}

// checkRules holds what is told of a text against the second reading, and against promise 9.
func checkRules(t *testing.T, s string) ([]impl.Rule, []impl.Fault) {
	t.Helper()
	rules, faults := impl.ParseRules(s)
	wantRules, wantFaults := expectRules(s)
	if !sameRules(rules, wantRules) || !slices.Equal(faults, wantFaults) {
		t.Fatalf("ParseRules(%q) told\n%s\n%v\nnot\n%s\n%v", s, textOfRules(rules), faults, textOfRules(wantRules), wantFaults)
	}
	for _, r := range rules {
		if !impl.OptOk(r.Opt) || len(r.Globs) == 0 || slices.ContainsFunc(r.Globs, func(g string) bool { return !impl.GlobOk(g) }) {
			t.Fatalf("ParseRules(%q) told a rule that isn't right: %s", s, textOfRules(rules))
		}
	}
	for i, f := range faults {
		if i > 0 && f.Line < faults[i-1].Line {
			t.Fatalf("ParseRules(%q) told faults out of order: %v", s, faults)
		}
	}
	if shown := impl.ShowRules(rules); len(shown) <= 8000 {
		again, none := impl.ParseRules(shown)
		if !sameRules(again, rules) || len(none) > 0 {
			t.Fatalf("the rules of %q, shown as\n%s\nwere read as\n%s\n%v", s, shown, textOfRules(again), none)
		}
	}
	return rules, faults
}

// ruleCase is a text with the Globs of its rules and its faults.
type ruleCase struct {
	s      string
	globs  string
	faults []impl.Fault
}

func TestParseRules(t *testing.T) {
	for _, c := range []ruleCase{
		{"", "[]", nil}, {"\n", "[]", nil}, {"\n\n \n\t\n", "[]", nil}, {"daily\n", "[]", nil}, {"daily", "[]", nil},
		// Blocks.
		{"/a {\n}\n", "[[/a]]", nil}, {"/a {\n}", "[[/a]]", nil}, {"/a /b /c {\n}\n", "[[/a /b /c]]", nil}, {"/a {\n}\n/b {\n}\n", "[[/a] [/b]]", nil}, {"/a /a {\n}\n/a {\n}\n", "[[/a /a] [/a]]", nil},
		{" \t/a\t {\t \n \t} \t\n", "[[/a]]", nil}, {"\"/a b\" /c {\n}\n", "[[/a b /c]]", nil}, {"/a \"{\"\n\"}\"\n", "[[/a]]", nil}, {"/a{ {\n}\n", "[[/a{]]", nil}, {"/#a {\n}\n", "[[/#a]]", nil}, {"/a {\n\n# x\n \n}\n", "[[/a]]", nil},
		// Lines of nothing, also such as look like a block's.
		{"# /a {\n#}\n", "[]", nil}, {"#/a {\n}\n", "[]", []impl.Fault{{Code: impl.CfClose, Line: 2}}}, {"  # what\n", "[]", nil}, {"#", "[]", nil}, {"\"# a\" {\n", "[]", nil}, {"\"#\"", "[]", nil}, {"/a {\n# }\n}\n", "[[/a]]", nil}, {"/a {\n#}\n", "[]", []impl.Fault{{Code: impl.CfEnd, Line: 2}}},
		{"a # {\n}\n", "[]", []impl.Fault{{Code: impl.CfGlob, Line: 1}}}, {"\"\" # daily\n", "[]", []impl.Fault{{Code: impl.CfWord, Line: 1}}},
		// { alone, and wrong globs.
		{"{\n}\n", "[]", []impl.Fault{{Code: impl.CfArgs, Line: 1}}}, {"x {\n}\n", "[]", []impl.Fault{{Code: impl.CfGlob, Line: 1}}}, {"/a x {\n}\n", "[]", []impl.Fault{{Code: impl.CfGlob, Line: 1}}}, {"x /a {\n}\n", "[]", []impl.Fault{{Code: impl.CfGlob, Line: 1}}},
		{"\"\" {\n}\n", "[]", []impl.Fault{{Code: impl.CfGlob, Line: 1}}}, {"/ {\n}\n", "[]", []impl.Fault{{Code: impl.CfGlob, Line: 1}}}, {"/[ {\n}\n", "[]", []impl.Fault{{Code: impl.CfGlob, Line: 1}}}, {"{ {\n}\n", "[]", []impl.Fault{{Code: impl.CfGlob, Line: 1}}}, {"} {\n}\n", "[]", []impl.Fault{{Code: impl.CfGlob, Line: 1}}},
		{"hook {\n}\n", "[]", []impl.Fault{{Code: impl.CfGlob, Line: 1}}}, {"/1/2/3/4/5/6/7 {\n}\n", "[]", []impl.Fault{{Code: impl.CfGlob, Line: 1}}}, {"/1/2/3/4/5/6 {\n}\n", "[[/1/2/3/4/5/6]]", nil},
		{"{\nwhat\nrotate\n}\n/b {\n}\n", "[[/b]]", []impl.Fault{{Code: impl.CfArgs, Line: 1}, {Code: impl.CfWord, Line: 2}, {Code: impl.CfArgs, Line: 3}}},
		// A block in a block: the first one goes on, and is none.
		{"/a {\n/b {\n}\n", "[]", []impl.Fault{{Code: impl.CfOpen, Line: 2}}}, {"/a {\n/b {\n}\n}\n", "[]", []impl.Fault{{Code: impl.CfOpen, Line: 2}, {Code: impl.CfClose, Line: 4}}}, {"/a {\n{\n}\n", "[]", []impl.Fault{{Code: impl.CfOpen, Line: 2}}},
		{"/a {\nx {\n}\n/c {\n}\n", "[[/c]]", []impl.Fault{{Code: impl.CfOpen, Line: 2}}}, {"/a {\nhook {\nwhat\n}\n", "[]", []impl.Fault{{Code: impl.CfOpen, Line: 2}, {Code: impl.CfWord, Line: 3}}}, {"{\n{\n{\n}\n", "[]", []impl.Fault{{Code: impl.CfArgs, Line: 1}, {Code: impl.CfOpen, Line: 2}, {Code: impl.CfOpen, Line: 3}}},
		{"/a {\n/b {\n/c {\n", "[]", []impl.Fault{{Code: impl.CfOpen, Line: 2}, {Code: impl.CfOpen, Line: 3}, {Code: impl.CfEnd, Line: 3}}},
		// One that doesn't end.
		{"/a {", "[]", []impl.Fault{{Code: impl.CfEnd, Line: 1}}}, {"/a {\n", "[]", []impl.Fault{{Code: impl.CfEnd, Line: 1}}}, {"/a {\n\n", "[]", []impl.Fault{{Code: impl.CfEnd, Line: 2}}}, {"/a {\ndaily", "[]", []impl.Fault{{Code: impl.CfEnd, Line: 2}}}, {"/a {\ndaily\n# x\n", "[]", []impl.Fault{{Code: impl.CfEnd, Line: 3}}},
		{"/a {\nwhat", "[]", []impl.Fault{{Code: impl.CfWord, Line: 2}, {Code: impl.CfEnd, Line: 2}}}, {"{", "[]", []impl.Fault{{Code: impl.CfArgs, Line: 1}, {Code: impl.CfEnd, Line: 1}}}, {"x {\n\n", "[]", []impl.Fault{{Code: impl.CfGlob, Line: 1}, {Code: impl.CfEnd, Line: 2}}}, {"/a {\n}\n/b {\n", "[[/a]]", []impl.Fault{{Code: impl.CfEnd, Line: 3}}},
		{"/a {\n} x\n", "[]", []impl.Fault{{Code: impl.CfWord, Line: 2}, {Code: impl.CfEnd, Line: 2}}},
		// } where there is none, and not alone.
		{"}", "[]", []impl.Fault{{Code: impl.CfClose, Line: 1}}}, {"/a {\n}\n}\n", "[[/a]]", []impl.Fault{{Code: impl.CfClose, Line: 3}}}, {"}\n}\n/a {\n}\n", "[[/a]]", []impl.Fault{{Code: impl.CfClose, Line: 1}, {Code: impl.CfClose, Line: 2}}}, {"} }\n", "[]", []impl.Fault{{Code: impl.CfWord, Line: 1}}},
		{"} x\n", "[]", []impl.Fault{{Code: impl.CfWord, Line: 1}}}, {"x }\n", "[]", []impl.Fault{{Code: impl.CfWord, Line: 1}}}, {"/a {\n} }\n}\n", "[]", []impl.Fault{{Code: impl.CfWord, Line: 2}}}, {"/a {\ndaily }\n}\n", "[]", []impl.Fault{{Code: impl.CfArgs, Line: 2}}}, {"/a {\nhook }\n}\n", "[[/a]]", nil}, {"/a { }\n", "[]", []impl.Fault{{Code: impl.CfWord, Line: 1}}},
		{"/a {}\n", "[]", []impl.Fault{{Code: impl.CfWord, Line: 1}}}, {"/a{\n", "[]", []impl.Fault{{Code: impl.CfWord, Line: 1}}}, {"}#\n", "[]", []impl.Fault{{Code: impl.CfWord, Line: 1}}},
		// A fault outside a block spoils none.
		{"what\nrotate x\nsize\n/a {\n}\nwhat\n", "[[/a]]", []impl.Fault{{Code: impl.CfWord, Line: 1}, {Code: impl.CfValue, Line: 2}, {Code: impl.CfArgs, Line: 3}, {Code: impl.CfWord, Line: 6}}}, {"}\n/a {\n}\n}\n", "[[/a]]", []impl.Fault{{Code: impl.CfClose, Line: 1}, {Code: impl.CfClose, Line: 4}}},
		// A quote that doesn't end takes the rest of its line alone.
		{"\"/a {\n}\n", "[]", []impl.Fault{{Code: impl.CfWord, Line: 1}, {Code: impl.CfClose, Line: 2}}}, {"/a \"{\n}\n", "[[/a]]", nil}, {"\"/a\n\" {\n}\n", "[]", []impl.Fault{{Code: impl.CfWord, Line: 1}, {Code: impl.CfWord, Line: 2}, {Code: impl.CfClose, Line: 3}}},
	} {
		rules, faults := checkRules(t, c.s)
		var globs [][]string
		for _, r := range rules {
			globs = append(globs, r.Globs)
		}
		if got := fmt.Sprint(globs); got != c.globs || !slices.Equal(faults, c.faults) {
			t.Errorf("ParseRules(%q) told %s %v, not %s %v", c.s, got, faults, c.globs, c.faults)
		}
	}
}

// Each kind of fault in a block between right ones, which stay as they are, and with the line told.
func TestABlockWithAFaultAmongRightOnes(t *testing.T) {
	for _, c := range []struct {
		block string
		fault impl.Fault
	}{
		{"/b {\nwhat\n}", impl.Fault{Code: impl.CfWord, Line: 6}}, {"/b {\ndaily\n\n\"\"\n}", impl.Fault{Code: impl.CfWord, Line: 8}}, {"/b {\nrotate\n}", impl.Fault{Code: impl.CfArgs, Line: 6}}, {"/b {\n#\ndaily 1\n}", impl.Fault{Code: impl.CfArgs, Line: 7}},
		{"/b {\nrotate x\n}", impl.Fault{Code: impl.CfValue, Line: 6}}, {"/b {\nmaxage -1\ndaily\n}", impl.Fault{Code: impl.CfValue, Line: 6}}, {"/b {\nhook a/b\n}", impl.Fault{Code: impl.CfValue, Line: 6}}, {"{\ndaily\n}", impl.Fault{Code: impl.CfArgs, Line: 5}},
		{"b {\ndaily\n}", impl.Fault{Code: impl.CfGlob, Line: 5}}, {"/b {\n/d {\n}", impl.Fault{Code: impl.CfOpen, Line: 6}}, {"/b {\ndaily\n{\n}", impl.Fault{Code: impl.CfOpen, Line: 7}}, {"}", impl.Fault{Code: impl.CfClose, Line: 5}},
		{"what", impl.Fault{Code: impl.CfWord, Line: 5}}, {"daily 1", impl.Fault{Code: impl.CfArgs, Line: 5}}, {"size x", impl.Fault{Code: impl.CfValue, Line: 5}},
	} {
		s := "daily\n/a {\nrotate 1\n}\n" + c.block + "\n/c {\nrotate 2\n}\n"
		rules, faults := checkRules(t, s)
		if len(faults) != 1 || faults[0] != c.fault {
			t.Errorf("ParseRules(%q) told the faults %v, not %v", s, faults, c.fault)
		}
		day := impl.Plainly(impl.PDay)
		first, second := day, day
		first.Count, second.Count = 1, 2
		if !sameRules(rules, []impl.Rule{{Globs: []string{"/a"}, Opt: first}, {Globs: []string{"/c"}, Opt: second}}) {
			t.Errorf("ParseRules(%q) told %s", s, textOfRules(rules))
		}
	}
	// One at the end, which doesn't end.
	rules, faults := checkRules(t, "/a {\n}\n/b {\nwhat\n")
	if len(rules) != 1 || !slices.Equal(faults, []impl.Fault{{Code: impl.CfWord, Line: 4}, {Code: impl.CfEnd, Line: 4}}) {
		t.Error("at the end", rules, faults)
	}
}

// What is set outside counts from there on; what is set in a block, in that block alone.
func TestWhatABlockBeginsWith(t *testing.T) {
	s := "rotate 9\nwhat\n/a {\ndaily\nsize 5\nhook x\n}\n/b {\n}\nmonthly\ncompress\n/c {\nrotate 1\nnocompress\n}\n/d {\nrotate x\nyearly\n}\n/e {\n}\nolddir /old\nrotate 1000\nnohook 1\n"
	rules, faults := checkRules(t, s)
	nine := impl.Plainly(impl.PWeek)
	nine.Count = 9
	a, b, c, e := nine, nine, nine, nine
	a.Period, a.Size, a.Hook = impl.PDay, 5, "x"
	c.Period, c.Count = impl.PMonth, 1
	e.Period, e.Small = impl.PMonth, true
	want := []impl.Rule{{Globs: []string{"/a"}, Opt: a}, {Globs: []string{"/b"}, Opt: b}, {Globs: []string{"/c"}, Opt: c}, {Globs: []string{"/e"}, Opt: e}}
	if !sameRules(rules, want) {
		t.Errorf("the rules are\n%s\nnot\n%s", textOfRules(rules), textOfRules(want))
	}
	if want := []impl.Fault{{Code: impl.CfWord, Line: 2}, {Code: impl.CfValue, Line: 17}, {Code: impl.CfValue, Line: 23}, {Code: impl.CfArgs, Line: 24}}; !slices.Equal(faults, want) {
		t.Errorf("the faults are %v, not %v", faults, want)
	}
	// What is set in a block that is none, or behind a block within it, is set in none.
	rules, _ = checkRules(t, "{\nyearly\n}\nx {\nrotate 1\n}\n/a {\n/b {\nsize 1\n}\nmaxage 1\n/c {\n}\n")
	want = []impl.Rule{{Globs: []string{"/c"}, Opt: changedOpt(func(o *impl.Opt) { o.MaxAge = 1 })}}
	if !sameRules(rules, want) {
		t.Errorf("the rules are\n%s\nnot\n%s", textOfRules(rules), textOfRules(want))
	}
}

func TestTextsOfRulesThatAreTooLong(t *testing.T) {
	block := "/a {\n}\n"
	for _, fill := range []string{"\n", "#", " ", "x", "\"", "{", "}", "/", "\x00", "a\n", "{\n", "}\n", "daily\n", "/a {\n"} {
		for _, size := range []int{7999, 8000, 8001, 8002, 20000} {
			s := block + strings.Repeat(fill, size)
			s = s[:size]
			rules, faults := checkRules(t, s)
			if size > 8000 && (len(rules) > 0 || !slices.Equal(faults, []impl.Fault{{Code: impl.CfLong, Line: 0}})) {
				t.Errorf("%d bytes, filled with %q, told %s and %d faults", size, fill, textOfRules(rules), len(faults))
			}
			if size <= 8000 && (len(rules) != 1 || slices.ContainsFunc(faults, func(f impl.Fault) bool { return f.Code == impl.CfLong })) {
				t.Errorf("%d bytes, filled with %q, told %s", size, fill, textOfRules(rules))
			}
		}
	}
	_, faults := checkRules(t, strings.Repeat("x\n", 4000))
	if len(faults) != 4000 || faults[3999] != (impl.Fault{Code: impl.CfWord, Line: 4000}) {
		t.Errorf("%d faults", len(faults))
	}
	if rules, _ := checkRules(t, strings.Repeat("/a {\n}\n", 8000/7)); len(rules) != 8000/7 {
		t.Errorf("%d rules", len(rules))
	}
}

func TestEveryShortTextOfRules(t *testing.T) {
	told := map[int]int{}
	look := func(s string) {
		rules, faults := checkRules(t, s)
		for _, f := range faults {
			told[f.Code]++
		}
		told[impl.CfOk] += len(rules)
	}
	everyJoined([]string{"\n", "# {\n", "daily\n", "what\n", "rotate x\n", "/a {\n", "/b /c {\n", "{\n", "x {\n", "}\n", "} }\n", "size\n"}, 4, look)
	everyJoined([]string{"/a {\n", "rotate 2\n", "what\n", "{\n", "}\n"}, 6, look)
	everyJoined([]string{"/", "a", " ", "{", "}", "\n", "#", "\""}, 6, look)
	for _, code := range []int{impl.CfOk, impl.CfWord, impl.CfArgs, impl.CfValue, impl.CfGlob, impl.CfOpen, impl.CfClose, impl.CfEnd} {
		if told[code] < 100 {
			t.Errorf("the code %d was told %d times", code, told[code])
		}
	}
}

func TestRandomTextsOfRules(t *testing.T) {
	random := rand.New(rand.NewSource(90))
	pieces := []string{"\n", "\n", "\n}\n", "\n/a {\n", "\n/a* \"/b c\" {\n", " ", "\t", "\"", "{", "}", "#", "hourly", "daily", "rotate", "size", "nosize", "create", "0600", "7", "10k", "compress", "notifempty", "dateformat", "%s", "-%Y%m%d", "olddir", "/old", "/a/../b", "noolddir", "hook", "reload", "nohook", "what", "\x00", "\xff", "é", "no", "not"}
	for range 4000 {
		var s strings.Builder
		for range random.Intn(40) {
			s.WriteString(pieces[random.Intn(len(pieces))])
			if random.Intn(2) == 0 {
				s.WriteString(" ")
			}
		}
		checkRules(t, s.String())
	}
}

// expectShown writes the lines of an Opt from their words alone.
func expectShown(list []impl.Rule) string {
	number := func(word string, n int, text string) string {
		if n == -1 {
			return "no" + word
		}
		return word + " " + text
	}
	flag := func(word string, yes bool) string {
		if yes {
			return word
		}
		return "no" + word
	}
	shown := ""
	for _, r := range list {
		if len(r.Globs) == 0 || !expectOptOk(r.Opt) {
			return ""
		}
		for _, glob := range r.Globs {
			if !expectGlob(glob) || strings.Contains(glob, `"`) {
				return ""
			}
			shown += `"` + glob + `" `
		}
		o := r.Opt
		lines := []string{
			strings.Fields("hourly daily weekly monthly yearly")[o.Period], fmt.Sprint("rotate ", o.Count), number("size", o.Size, fmt.Sprint(o.Size)), number("minsize", o.MinSize, fmt.Sprint(o.MinSize)),
			number("maxsize", o.MaxSize, fmt.Sprint(o.MaxSize)), number("maxage", o.MaxAge, fmt.Sprint(o.MaxAge)), number("create", o.Create, fmt.Sprintf("0%03o", o.Create)),
			flag("copytruncate", o.Copy), flag("compress", o.Small), flag("delaycompress", o.Delay), flag("dateext", o.Dated), flag("missingok", o.Missing), "ifempty", "dateformat " + o.Format, "noolddir", "nohook",
		}
		if !o.Empty {
			lines[12] = "notifempty"
		}
		if o.OldDir != "" {
			lines[14] = `olddir "` + o.OldDir + `"`
		}
		if o.Hook != "" {
			lines[15] = "hook " + o.Hook
		}
		shown += "{\n  " + strings.Join(lines, "\n  ") + "\n}\n"
	}
	return shown
}

// checkShown holds what is shown of rules against the second reading, and reads it again.
func checkShown(t *testing.T, list []impl.Rule) string {
	t.Helper()
	all := append(slices.Clone(list), impl.Rule{Globs: []string{"/spare"}, Opt: plainOpt()}, impl.Rule{})
	for i := range all {
		all[i].Globs = slices.Concat(all[i].Globs, []string{"/spare", "spare"})[:len(all[i].Globs)]
	}
	kept := cloneRules(all)
	shown := impl.ShowRules(all[:len(list)])
	if want := expectShown(list); shown != want {
		t.Fatalf("%s\nwere shown as\n%s\nnot\n%s", textOfRules(list), shown, want)
	}
	for i := range all {
		if count := len(kept[i].Globs); !sameRule(all[i], kept[i]) || !slices.Equal(all[i].Globs[:count+2][count:], []string{"/spare", "spare"}) {
			t.Fatalf("%s\nwere written into", textOfRules(list))
		}
	}
	if shown == "" || len(shown) > 8000 {
		return shown
	}
	if again, faults := impl.ParseRules(shown); !sameRules(again, list) || len(faults) > 0 {
		t.Fatalf("%s\nshown as\n%s\nwere read as\n%s\n%v", textOfRules(list), shown, textOfRules(again), faults)
	}
	return shown
}

func TestShowRules(t *testing.T) {
	full := "\"/a/*.log\" \"/b c\" {\n  yearly\n  rotate 99\n  size 0\n  minsize 1\n  maxsize 999999999\n  maxage 9999\n  create 0777\n  copytruncate\n  compress\n  delaycompress\n  dateext\n  missingok\n  notifempty\n  dateformat .%s\n  olddir \"/old logs/a\"\n  hook reload\n}\n"
	plain := "\"/a\" {\n  weekly\n  rotate 4\n  nosize\n  nominsize\n  nomaxsize\n  nomaxage\n  nocreate\n  nocopytruncate\n  nocompress\n  nodelaycompress\n  nodateext\n  nomissingok\n  ifempty\n  dateformat -%Y%m%d\n  noolddir\n  nohook\n}\n"
	fullRule, plainRule := impl.Rule{Globs: []string{"/a/*.log", "/b c"}, Opt: fullOpt()}, impl.Rule{Globs: []string{"/a"}, Opt: plainOpt()}
	for _, c := range []struct {
		list []impl.Rule
		want string
	}{
		{nil, ""}, {[]impl.Rule{}, ""}, {[]impl.Rule{plainRule}, plain}, {[]impl.Rule{fullRule}, full}, {[]impl.Rule{plainRule, fullRule, plainRule}, plain + full + plain},
	} {
		if got := checkShown(t, c.list); got != c.want {
			t.Errorf("%s\nwere shown as\n%s\nnot\n%s", textOfRules(c.list), got, c.want)
		}
	}
	// Each field in both its forms, by itself.
	for name, limits := range optLimits() {
		for _, n := range []int{limits.low, 0, 1, 2, 3, 4, limits.high} {
			rule := impl.Rule{Globs: []string{"/a"}, Opt: changedOpt(func(o *impl.Opt) { *limits.place(o) = n })}
			if shown := checkShown(t, []impl.Rule{rule}); shown == "" {
				t.Errorf("%s %d wasn't shown", name, n)
			}
		}
	}
	for bits := range 64 {
		o := plainOpt()
		for i, flag := range []*bool{&o.Copy, &o.Small, &o.Delay, &o.Dated, &o.Missing, &o.Empty} {
			*flag = bits>>i&1 == 1
		}
		checkShown(t, []impl.Rule{{Globs: []string{"/a"}, Opt: o}})
	}
	for mode := range 512 {
		checkShown(t, []impl.Rule{{Globs: []string{"/a"}, Opt: changedOpt(func(o *impl.Opt) { o.Create = mode })}})
	}
	for _, dir := range goodPaths {
		checkShown(t, []impl.Rule{{Globs: []string{"/a"}, Opt: changedOpt(func(o *impl.Opt) { o.OldDir = dir })}})
	}
	for _, hook := range []string{"}", "#", "no", "{{", name40, "\xff", "nohook"} {
		checkShown(t, []impl.Rule{{Globs: []string{"/a"}, Opt: changedOpt(func(o *impl.Opt) { o.Hook = hook })}})
	}
}

func TestShowRulesOfWhatIsNotRight(t *testing.T) {
	right := impl.Rule{Globs: []string{"/a"}, Opt: plainOpt()}
	wrong := []impl.Rule{{}, {Opt: plainOpt()}, {Globs: []string{}, Opt: plainOpt()}, {Globs: []string{"/a"}}}
	for _, glob := range []string{"", "a", "/", "/a/", "/[", "/a\n", "/1/2/3/4/5/6/7", "/\"", "/a\"b", "/\"a\"", "\"/a\"", "/a/\"", "/[\"]", "/\\\""} {
		wrong = append(wrong, impl.Rule{Globs: []string{glob}, Opt: plainOpt()}, impl.Rule{Globs: []string{"/a", glob}, Opt: plainOpt()}, impl.Rule{Globs: []string{glob, "/a"}, Opt: plainOpt()})
	}
	for _, o := range wrongOpts() {
		wrong = append(wrong, impl.Rule{Globs: []string{"/a"}, Opt: o})
	}
	for _, r := range wrong {
		for _, list := range [][]impl.Rule{{r}, {right, r}, {r, right}, {right, r, right}} {
			if shown := checkShown(t, list); shown != "" {
				t.Errorf("%s\nwere shown as\n%s", textOfRules(list), shown)
			}
		}
	}
	// A Glob with a byte 34 is GlobOk for all that.
	if !impl.GlobOk("/\"") {
		t.Error("a byte 34")
	}
}

func randomRule(random *rand.Rand) impl.Rule {
	pick := func(list ...string) string { return list[random.Intn(len(list))] }
	o := impl.Opt{
		Period: random.Intn(5), Count: random.Intn(100), Size: random.Intn(1000000001) - 1, MinSize: random.Intn(4) - 1, MaxSize: random.Intn(5000) - 1, MaxAge: random.Intn(10001) - 1, Create: random.Intn(513) - 1,
		Copy: random.Intn(2) == 0, Small: random.Intn(2) == 0, Delay: random.Intn(2) == 0, Dated: random.Intn(2) == 0, Missing: random.Intn(2) == 0, Empty: random.Intn(2) == 0,
		Format: pick("-%Y%m%d", ".%s", "{%s", "%s}", "#%s", "%d-%m-%Y#", "%%%s\r"), OldDir: pick("", "/old", "/a b/c", "/#/{", "/}", "/\\", "/ "), Hook: pick("", "reload", "}", "#", "{{", "a'b", "a{"),
	}
	r := impl.Rule{Opt: o}
	for range 1 + random.Intn(4) {
		r.Globs = append(r.Globs, pick("/a", "/*", "/var/*.log", "/a b", "/#", "/{", "/ {", "/}", "/[ ]\t", "/\\ ", "/\xff", "/a/b/c/d/e/f", "/[a-z]/?"))
	}
	return r
}

func TestRulesComeBackFromTheirText(t *testing.T) {
	random := rand.New(rand.NewSource(99))
	read := 0
	for range 400 {
		var list []impl.Rule
		for range 1 + random.Intn(20) {
			list = append(list, randomRule(random))
		}
		shown := checkShown(t, list)
		if shown == "" {
			t.Fatalf("%s\nweren't shown", textOfRules(list))
		}
		if len(shown) <= 8000 {
			read += len(list)
			checkRules(t, shown)
		}
	}
	if read < 3000 {
		t.Errorf("only %d rules were read again", read)
	}
}

// Rules whose text has just MaxText bytes come back; of one more byte they don't.
func TestRulesOfJustMaxText(t *testing.T) {
	base := impl.Rule{Globs: []string{"/a"}, Opt: plainOpt()}
	size := len(impl.ShowRules([]impl.Rule{base}))
	var list []impl.Rule
	for range 8000/size - 1 {
		list = append(list, base)
	}
	missing := 8000 - size*len(list) - size
	last := base
	last.Globs = []string{"/" + strings.Repeat("a", 1+missing%50)}
	for range missing / 50 {
		last.Globs = append(last.Globs, "/"+strings.Repeat("b", 46))
	}
	for _, more := range []int{0, 1} {
		rule := impl.Rule{Globs: slices.Clone(last.Globs), Opt: last.Opt}
		rule.Globs[0] += strings.Repeat("a", more)
		shown := checkShown(t, append(slices.Clone(list), rule))
		if len(shown) != 8000+more {
			t.Fatalf("%d bytes", len(shown))
		}
		rules, faults := checkRules(t, shown)
		if more == 0 && (len(rules) != len(list)+1 || len(faults) > 0) || more == 1 && (len(rules) != 0 || len(faults) != 1) {
			t.Errorf("%d bytes told %d rules and %v", len(shown), len(rules), faults)
		}
	}
	// ShowRules itself has no limit.
	many := make([]impl.Rule, 2000)
	for i := range many {
		many[i] = base
	}
	if shown := impl.ShowRules(many); len(shown) != 2000*size {
		t.Errorf("2000 rules were shown with %d bytes", len(shown))
	}
}

// What one answer has apart stays apart where it is written into, and so do two answers.
func TestRulesAreApart(t *testing.T) {
	s := "/a /b {\n}\n/c {\n}\n/d /e /f {\n}\nwhat\n"
	want, wantFaults := expectRules(s)
	for i := range want {
		rules, faults := impl.ParseRules(s)
		other, otherFaults := impl.ParseRules(s)
		globs := rules[i].Globs
		for j := range globs[:cap(globs)] {
			globs[:cap(globs)][j] = "/spoilt"
		}
		rules[i].Globs = want[i].Globs
		if !sameRules(rules, want) {
			t.Errorf("the Globs of rule %d are those of others:\n%s", i, textOfRules(rules))
		}
		for j := range rules[:cap(rules)] {
			rules[:cap(rules)][j] = impl.Rule{}
		}
		faults[0] = impl.Fault{}
		if !sameRules(other, want) || !slices.Equal(otherFaults, wantFaults) {
			t.Errorf("two answers share memory:\n%s\n%v", textOfRules(other), otherFaults)
		}
	}
}

func TestRulesAtOnce(t *testing.T) {
	s := "daily\n/a /b {\nrotate 2\n}\n/c {\nrotate x\n}\n/d {\ncompress\n}\n"
	want, wantFaults := expectRules(s)
	wantShown := expectShown(want)
	words := []string{"create", "0600"}
	wantOpt, _ := expectSetOpt(plainOpt(), words)
	var group sync.WaitGroup
	for range 8 {
		group.Go(func() {
			for range 50 {
				rules, faults := impl.ParseRules(s)
				if !sameRules(rules, want) || !slices.Equal(faults, wantFaults) {
					t.Errorf("told %s\n%v", textOfRules(rules), faults)
				}
				if shown := impl.ShowRules(want); shown != wantShown {
					t.Errorf("shown as %s", shown)
				}
				if got, code := impl.SetOpt(plainOpt(), words); got != wantOpt || code != impl.CfOk {
					t.Errorf("set to %s, %d", textOfOpt(got), code)
				}
			}
		})
	}
	group.Wait()
}
