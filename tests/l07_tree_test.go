package tests

import (
	"fmt"
	"maps"
	"math"
	"math/rand"
	"slices"
	"strings"
	"sync"
	"testing"

	"loop.example/g00704/impl"
)

const lastTime = 253402300799

func folder(path string) impl.Node { return impl.Node{Path: path, Dir: true, Mode: 493, Time: 100} }

func file(path, data string) impl.Node {
	return impl.Node{Path: path, Mode: 420, Time: 200, Data: data}
}

// treeOf gives the nodes Ids that fall, so that these tell another order than the paths.
func treeOf(nodes ...impl.Node) impl.Tree {
	t := impl.Tree{Next: len(nodes) + 1}
	for i, n := range nodes {
		n.Id = len(nodes) - i
		t.Nodes = append(t.Nodes, n)
	}
	return t
}

// filledTree has so many nodes, one of them a folder that is empty.
func filledTree(size int) impl.Tree {
	nodes := []impl.Node{folder("/a")}
	for i := 1; i < size; i++ {
		nodes = append(nodes, file(fmt.Sprintf("/f%02d", i), ""))
	}
	return treeOf(nodes...)
}

// sampleTree has names that begin as a folder's does, with a byte behind that is less than a stroke, and with one that is greater.
func sampleTree() impl.Tree {
	return treeOf(folder("/a"), folder("/a.b"), file("/a.b/x", "dot"), folder("/a/b"), file("/a/b/c", "deep"), file("/a/x", "one\n"), folder("/a0"), file("/a0/x", "nought"), file("/b", ""), folder("/e"))
}

// deepTree has a folder with two levels under it, and folders at each depth.
func deepTree() impl.Tree {
	return treeOf(folder("/1"), folder("/1/2"), folder("/1/2/3"), folder("/1/2/3/4"), folder("/1/2/3/4/5"), file("/1/2/3/4/5/6", "six"), folder("/a"), folder("/a/b"), file("/a/b/c", "c"), file("/z", "z"))
}

func sameTree(a, b impl.Tree) bool { return a.Next == b.Next && slices.Equal(a.Nodes, b.Nodes) }

func textOfTree(t impl.Tree) string {
	var s strings.Builder
	fmt.Fprintf(&s, "next %d:", t.Next)
	for _, n := range t.Nodes {
		fmt.Fprintf(&s, " %q", n.Path)
		if n.Dir {
			s.WriteString(" folder")
		}
		fmt.Fprintf(&s, " (%d, %d, %d, %s)", n.Id, n.Mode, n.Time, brief(n.Data))
	}
	return s.String()
}

func textOfOp(o impl.Op) string {
	return fmt.Sprintf("op %d of %q to %q, %s, %d, %d", o.Kind, o.Path, o.To, brief(o.Data), o.Mode, o.Time)
}

// parentOf cuts a path at its last stroke: what stands in the root has the empty text.
func parentOf(path string) string { return path[:strings.LastIndexByte(path, 47)] }

func standsIn(path, dir string) bool { return strings.HasPrefix(path, dir+"/") }

// expectTreeOk holds each node against each other one.
func expectTreeOk(t impl.Tree) bool {
	if len(t.Nodes) > 60 || t.Next < 1 || t.Next > 1000000 {
		return false
	}
	for i, n := range t.Nodes {
		if expectPath(n.Path) < 1 || n.Mode < 0 || n.Mode > 511 || n.Time < 0 || n.Time > lastTime || n.Id < 1 || n.Id >= t.Next {
			return false
		}
		if n.Dir && len(n.Data) > 0 || len(n.Data) > 3000 {
			return false
		}
		housed := parentOf(n.Path) == ""
		for j, other := range t.Nodes {
			if i < j && (n.Path >= other.Path || n.Id == other.Id) {
				return false
			}
			housed = housed || other.Dir && other.Path == parentOf(n.Path)
		}
		if !housed {
			return false
		}
	}
	return true
}

// expectBad tells whether the first of the chapter's lines refuses an op.
func expectBad(o impl.Op) bool {
	switch {
	case o.Kind == impl.OpSync:
		return false
	case o.Kind < 0 || o.Kind > 8 || expectPath(o.Path) < 1:
		return true
	}
	needsMode := o.Kind == impl.OpMake || o.Kind == impl.OpNew || o.Kind == impl.OpMode
	needsTime := o.Kind <= impl.OpCut || o.Kind == impl.OpTouch
	if needsMode && (o.Mode < 0 || o.Mode > 511) || needsTime && (o.Time < 0 || o.Time > lastTime) {
		return true
	}
	return o.Kind == impl.OpMove && (expectPath(o.To) < 1 || o.To == o.Path || standsIn(o.To, o.Path))
}

// expectDo keeps the nodes in a map by path, and makes another map of those behind the op.
func expectDo(t impl.Tree, o impl.Op) (impl.Tree, int) {
	if !expectTreeOk(t) {
		return impl.Tree{}, impl.FsBad
	}
	if expectBad(o) {
		return t, impl.FsBad
	}
	if o.Kind == impl.OpSync {
		return t, impl.FsOk
	}
	nodes := map[string]impl.Node{}
	for _, n := range t.Nodes {
		nodes[n.Path] = n
	}
	next := t.Next
	var code int
	if o.Kind == impl.OpMake || o.Kind == impl.OpNew {
		code = expectBirth(nodes, o, next)
		next++
	} else {
		nodes, code = expectChange(nodes, o)
	}
	if code != impl.FsOk {
		return t, code
	}
	after := impl.Tree{Next: next}
	for _, path := range slices.Sorted(maps.Keys(nodes)) {
		after.Nodes = append(after.Nodes, nodes[path])
	}
	return after, impl.FsOk
}

func expectBirth(nodes map[string]impl.Node, o impl.Op, next int) int {
	dir := parentOf(o.Path)
	if _, there := nodes[o.Path]; there {
		return impl.FsThere
	}
	if dir != "" && !nodes[dir].Dir {
		return impl.FsNone
	}
	if len(nodes) >= 60 || next >= 1000000 {
		return impl.FsFull
	}
	nodes[o.Path] = impl.Node{Path: o.Path, Dir: o.Kind == impl.OpMake, Mode: o.Mode, Time: o.Time, Id: next}
	return impl.FsOk
}

func expectChange(nodes map[string]impl.Node, o impl.Op) (map[string]impl.Node, int) {
	n, there := nodes[o.Path]
	if !there {
		return nil, impl.FsNone
	}
	switch o.Kind {
	case impl.OpMove:
		return expectMove(nodes, o)
	case impl.OpDrop:
		for path := range nodes {
			if standsIn(path, o.Path) {
				return nil, impl.FsBusy
			}
		}
		delete(nodes, o.Path)
		return nodes, impl.FsOk
	case impl.OpMode:
		n.Mode = o.Mode
	case impl.OpTouch:
		n.Time = o.Time
	default:
		if n.Dir {
			return nil, impl.FsKind
		}
		n.Time = o.Time
		if o.Kind == impl.OpCut {
			n.Data = ""
		} else if n.Data += o.Data; len(n.Data) > 3000 {
			return nil, impl.FsFull
		}
	}
	nodes[o.Path] = n
	return nodes, impl.FsOk
}

func expectMove(nodes map[string]impl.Node, o impl.Op) (map[string]impl.Node, int) {
	over, taken := nodes[o.To]
	if taken && (over.Dir || nodes[o.Path].Dir) {
		return nil, impl.FsKind
	}
	if dir := parentOf(o.To); dir != "" && !nodes[dir].Dir {
		return nil, impl.FsNone
	}
	after := map[string]impl.Node{}
	for path, n := range nodes {
		if path == o.To {
			continue
		}
		if path == o.Path || standsIn(path, o.Path) {
			n.Path = o.To + path[len(o.Path):]
			if expectPath(n.Path) < 1 {
				return nil, impl.FsBad
			}
		}
		after[n.Path] = n
	}
	return after, impl.FsOk
}

// withRoom has spare room behind the nodes, and something in it, so that what is written there is seen.
func withRoom(t impl.Tree) (impl.Tree, []impl.Node) {
	all := slices.Concat(t.Nodes, []impl.Node{folder("/spare1"), file("/spare2", "spare"), file("/spare3", "")})
	return impl.Tree{Nodes: all[:len(t.Nodes)], Next: t.Next}, all
}

// spoil writes over a tree with all its spare room: what shares memory with it is no more as it was.
func spoil(t impl.Tree) {
	for i := range t.Nodes[:cap(t.Nodes)] {
		t.Nodes[:cap(t.Nodes)][i] = impl.Node{Path: "/spoilt", Id: -1}
	}
}

// checkDo holds what is told of an op against the second reading, with the promises of the conventions.
func checkDo(t *testing.T, tree impl.Tree, o impl.Op) impl.Tree {
	t.Helper()
	given, all := withRoom(tree)
	before := slices.Clone(all)
	got, code := impl.Do(given, o)
	want, wantCode := expectDo(tree, o)
	if code != wantCode || !sameTree(got, want) {
		t.Fatalf("%s of\n%s\ntold %d and\n%s\nnot %d and\n%s", textOfOp(o), textOfTree(tree), code, textOfTree(got), wantCode, textOfTree(want))
	}
	if expectTreeOk(tree) && !impl.TreeOk(got) {
		t.Fatalf("%s of\n%s\nleft no right tree:\n%s", textOfOp(o), textOfTree(tree), textOfTree(got))
	}
	kept := impl.Tree{Nodes: slices.Clone(got.Nodes), Next: got.Next}
	spoil(got)
	if !slices.Equal(all, before) {
		t.Fatalf("%s of\n%s\nwrote into it, or shares memory with it", textOfOp(o), textOfTree(tree))
	}
	return kept
}

// checkDoAll holds what is told of a list of ops against one after the other.
func checkDoAll(t *testing.T, tree impl.Tree, list []impl.Op) {
	t.Helper()
	want, done, wantCode := tree, 0, impl.FsOk
	for _, o := range list {
		if want, wantCode = expectDo(want, o); wantCode != impl.FsOk {
			break
		}
		done++
	}
	given, all := withRoom(tree)
	before, ops := slices.Clone(all), slices.Clone(list)
	got, n, code := impl.DoAll(given, list)
	if n != done || code != wantCode || !sameTree(got, want) {
		t.Fatalf("%d ops of\n%s\ntold %d, %d and\n%s\nnot %d, %d and\n%s", len(list), textOfTree(tree), n, code, textOfTree(got), done, wantCode, textOfTree(want))
	}
	spoil(got)
	if !slices.Equal(all, before) || !slices.Equal(list, ops) {
		t.Fatalf("%d ops of\n%s\nwrote into what was given, or share memory with it", len(list), textOfTree(tree))
	}
}

// checkLook holds Find, Names and Glob of a tree against second readings.
func checkLook(t *testing.T, tree impl.Tree, texts []string) {
	t.Helper()
	given, all := withRoom(tree)
	before := slices.Clone(all)
	for _, s := range texts {
		place := -1
		var names, paths []string
		for i, n := range tree.Nodes {
			if n.Path == s && place < 0 {
				place = i
			}
			if !expectTreeOk(tree) {
				continue
			}
			if parent := parentOf(n.Path); parent == s && s != "" || parent == "" && s == "/" {
				names = append(names, n.Path[len(parent)+1:])
			}
			if impl.MatchPath(s, n.Path) {
				paths = append(paths, n.Path)
			}
		}
		if got := impl.Find(given, s); got != place {
			t.Fatalf("Find of %q = %d, want %d, in\n%s", s, got, place, textOfTree(tree))
		}
		if got := impl.Names(given, s); !slices.Equal(got, names) {
			t.Fatalf("Names of %q = %q, want %q, in\n%s", s, got, names, textOfTree(tree))
		}
		if got := impl.Glob(given, s); !slices.Equal(got, paths) {
			t.Fatalf("Glob of %q = %q, want %q, in\n%s", s, got, paths, textOfTree(tree))
		}
	}
	if !slices.Equal(all, before) {
		t.Fatalf("a look at\n%s\nwrote into it", textOfTree(tree))
	}
}

// everyOp gives ops of each kind, and of kinds that there are not, of each two of the paths.
func everyOp(paths []string) []impl.Op {
	var list []impl.Op
	for _, path := range paths {
		for kind := -1; kind <= 9; kind++ {
			o := impl.Op{Kind: kind, Path: path, Data: "more", Mode: 448, Time: 300}
			if kind != impl.OpMove {
				list = append(list, o)
				continue
			}
			for _, to := range paths {
				o.To = to
				list = append(list, o)
			}
		}
	}
	return list
}

// everyTree calls look with each right tree that has, of each path, a folder, a file or nothing.
func everyTree(paths []string, look func(tree impl.Tree)) {
	everyText(" df", len(paths), func(kinds string) {
		if len(kinds) < len(paths) {
			return
		}
		var nodes []impl.Node
		for i, path := range paths {
			switch kinds[i] {
			case 'd':
				nodes = append(nodes, folder(path))
			case 'f':
				nodes = append(nodes, file(path, "data of "+path))
			}
		}
		if tree := treeOf(nodes...); expectTreeOk(tree) {
			look(tree)
		}
	})
}

// wrongTrees are sampleTree, but for one thing each.
func wrongTrees() map[string]impl.Tree {
	list := map[string]impl.Tree{
		"the zero tree": {}, "nothing, Next below": {Next: -1}, "nothing, Next far below": {Next: math.MinInt}, "nothing, Next past MaxId": {Next: 1000001}, "nothing, Next far past": {Next: math.MaxInt},
		"too many": filledTree(61), "far too many": filledTree(500),
	}
	change := func(what string, do func(tree *impl.Tree)) {
		tree := sampleTree()
		do(&tree)
		list[what] = tree
	}
	for _, mode := range []int{-1, 512, math.MinInt, math.MaxInt} {
		change(fmt.Sprint("mode ", mode), func(tree *impl.Tree) { tree.Nodes[5].Mode = mode })
		change(fmt.Sprint("folder's mode ", mode), func(tree *impl.Tree) { tree.Nodes[0].Mode = mode })
	}
	for _, time := range []int{-1, lastTime + 1, math.MinInt, math.MaxInt} {
		change(fmt.Sprint("time ", time), func(tree *impl.Tree) { tree.Nodes[5].Time = time })
		change(fmt.Sprint("folder's time ", time), func(tree *impl.Tree) { tree.Nodes[9].Time = time })
	}
	for _, id := range []int{0, -1, 11, 12, math.MinInt, math.MaxInt} {
		change(fmt.Sprint("id ", id), func(tree *impl.Tree) { tree.Nodes[5].Id = id })
	}
	for _, next := range []int{10, 9, 1, 0, -1, 1000001, math.MinInt, math.MaxInt} {
		change(fmt.Sprint("next ", next), func(tree *impl.Tree) { tree.Next = next })
	}
	change("one id twice", func(tree *impl.Tree) { tree.Nodes[0].Id = tree.Nodes[9].Id })
	change("one id twice side by side", func(tree *impl.Tree) { tree.Nodes[3].Id = tree.Nodes[4].Id })
	change("out of order", func(tree *impl.Tree) { tree.Nodes[8], tree.Nodes[9] = tree.Nodes[9], tree.Nodes[8] })
	change("last one ahead", func(tree *impl.Tree) { tree.Nodes = append(tree.Nodes[9:10:10], tree.Nodes[:9]...) })
	change("as names, not as bytes", func(tree *impl.Tree) {
		tree.Nodes = slices.Concat(tree.Nodes[:1], tree.Nodes[3:6], tree.Nodes[1:3], tree.Nodes[6:])
	})
	change("what stands in a folder ahead of it", func(tree *impl.Tree) { tree.Nodes[1], tree.Nodes[2] = tree.Nodes[2], tree.Nodes[1] })
	change("one path twice", func(tree *impl.Tree) { tree.Nodes[9].Path = tree.Nodes[8].Path })
	change("one path twice at the beginning", func(tree *impl.Tree) { tree.Nodes[1].Path = tree.Nodes[0].Path })
	change("no folder", func(tree *impl.Tree) { tree.Nodes[9].Path = "/c/d" })
	change("no folder's folder", func(tree *impl.Tree) { tree.Nodes[4].Path = "/a/b/c/d" })
	change("a folder that only begins as one does", func(tree *impl.Tree) { tree.Nodes[7].Path = "/a00/x" })
	change("in a file", func(tree *impl.Tree) { tree.Nodes[9].Path = "/b/c" })
	change("a file with others under it", func(tree *impl.Tree) { tree.Nodes[0].Dir = false })
	change("a deep file with another under it", func(tree *impl.Tree) { tree.Nodes[3].Dir = false })
	change("a folder gone", func(tree *impl.Tree) { tree.Nodes = slices.Delete(tree.Nodes, 6, 7) })
	change("data in a folder", func(tree *impl.Tree) { tree.Nodes[9].Data = "x" })
	change("data in the first folder", func(tree *impl.Tree) { tree.Nodes[0].Data = "\x00" })
	change("too much data", func(tree *impl.Tree) { tree.Nodes[8].Data = strings.Repeat("x", 3001) })
	change("far too much data", func(tree *impl.Tree) { tree.Nodes[8].Data = strings.Repeat("x", 1000000) })
	for _, path := range []string{"", "/", "b", "//b", "/b/", "/b/.", "/c/..", "/b\n", "/b\"", "/b" + name40, "/." + "/b"} {
		change(fmt.Sprintf("path %q", path), func(tree *impl.Tree) { tree.Nodes[8].Path = path })
	}
	change("the root as a node ahead", func(tree *impl.Tree) {
		tree.Nodes = slices.Insert(tree.Nodes, 0, impl.Node{Path: "/", Dir: true, Id: 11})
		tree.Next = 12
	})
	change("too deep", func(tree *impl.Tree) { *tree = deepTree(); tree.Nodes[5].Path = "/1/2/3/4/5/6/7" })
	change("too deep in a folder that is there", func(tree *impl.Tree) {
		*tree = deepTree()
		tree.Nodes[5] = impl.Node{Path: "/1/2/3/4/5/6", Dir: true, Id: 11}
		tree.Nodes = slices.Insert(tree.Nodes, 6, impl.Node{Path: "/1/2/3/4/5/6/7", Id: 12})
		tree.Next = 13
	})
	return list
}

func TestNumbersOfTrees(t *testing.T) {
	if impl.MaxNodes != 60 || impl.MaxId != 1000000 {
		t.Error("limits", impl.MaxNodes, impl.MaxId)
	}
	for want, kind := range []int{impl.OpMake, impl.OpNew, impl.OpAdd, impl.OpCut, impl.OpMove, impl.OpDrop, impl.OpMode, impl.OpTouch, impl.OpSync} {
		if kind != want {
			t.Errorf("kind %d is %d", want, kind)
		}
	}
	for want, code := range []int{impl.FsOk, impl.FsBad, impl.FsNone, impl.FsThere, impl.FsKind, impl.FsFull, impl.FsBusy} {
		if code != want {
			t.Errorf("code %d is %d", want, code)
		}
	}
}

func TestTreeOk(t *testing.T) {
	list := map[string]impl.Tree{
		"nothing": {Next: 1}, "nothing, no nodes": {Nodes: []impl.Node{}, Next: 1}, "nothing any more": {Next: 77}, "nothing, no ids left": {Next: 1000000},
		"one file": treeOf(file("/a", "")), "one folder": treeOf(folder("/a")), "sample": sampleTree(), "deep": deepTree(),
		"59": filledTree(59), "60": filledTree(60),
	}
	change := func(what string, do func(tree *impl.Tree)) {
		tree := sampleTree()
		do(&tree)
		list[what] = tree
	}
	change("least mode", func(tree *impl.Tree) { tree.Nodes[0].Mode, tree.Nodes[8].Mode = 0, 0 })
	change("greatest mode", func(tree *impl.Tree) { tree.Nodes[0].Mode, tree.Nodes[8].Mode = 511, 511 })
	change("least time", func(tree *impl.Tree) { tree.Nodes[0].Time, tree.Nodes[8].Time = 0, 0 })
	change("greatest time", func(tree *impl.Tree) { tree.Nodes[0].Time, tree.Nodes[8].Time = lastTime, lastTime })
	change("greatest next", func(tree *impl.Tree) { tree.Next = 1000000 })
	change("greatest id", func(tree *impl.Tree) { tree.Next, tree.Nodes[3].Id = 1000000, 999999 })
	change("most data", func(tree *impl.Tree) {
		tree.Nodes[5].Data, tree.Nodes[8].Data = strings.Repeat("x", 3000), strings.Repeat("\x00", 3000)
	})
	change("longest names", func(tree *impl.Tree) { tree.Nodes[9].Path = "/" + name40 })
	for what, tree := range list {
		given, all := withRoom(tree)
		before := slices.Clone(all)
		if !impl.TreeOk(given) || !expectTreeOk(tree) {
			t.Errorf("%s is no right tree: %s", what, textOfTree(tree))
		}
		if !slices.Equal(all, before) {
			t.Errorf("TreeOk of %s wrote into it", what)
		}
	}
	for what, tree := range wrongTrees() {
		if impl.TreeOk(tree) || expectTreeOk(tree) {
			t.Errorf("%s is a right tree: %s", what, textOfTree(tree))
		}
	}
}

func TestTreeOkOfEveryTwoNodes(t *testing.T) {
	paths := []string{"", "/", "/a", "/a.", "/a/", "/a/b", "/a/b/c", "/a0", "/b", "b", "/1/2/3/4/5/6/7"}
	for _, first := range paths {
		for _, second := range paths {
			for bits := range 16 {
				for _, ids := range [][3]int{{1, 2, 3}, {2, 1, 3}, {1, 1, 3}, {1, 2, 2}, {0, 1, 2}, {2, 0, 3}} {
					tree := impl.Tree{Next: ids[2], Nodes: []impl.Node{{Path: first, Dir: bits&1 > 0, Id: ids[0]}, {Path: second, Dir: bits&2 > 0, Id: ids[1]}}}
					for i := range tree.Nodes {
						if bits&(4<<i) > 0 {
							tree.Nodes[i].Data = "x"
						}
					}
					if got := impl.TreeOk(tree); got != expectTreeOk(tree) {
						t.Fatalf("TreeOk = %v of %s", got, textOfTree(tree))
					}
				}
			}
		}
	}
}

func TestNothingIsDoneToAWrongTree(t *testing.T) {
	for what, tree := range wrongTrees() {
		for _, o := range everyOp([]string{"/b", "/a", "/new", "/e", "", "/"}) {
			got, code := impl.Do(tree, o)
			if code != impl.FsBad || len(got.Nodes) > 0 || got.Next != 0 {
				t.Fatalf("%s of a tree (%s) told %d and %s", textOfOp(o), what, code, textOfTree(got))
			}
			checkDo(t, tree, o)
			checkDoAll(t, tree, []impl.Op{o, o})
		}
		checkDoAll(t, tree, nil)
		checkDoAll(t, tree, []impl.Op{})
		checkLook(t, tree, []string{"", "/", "b", "/a", "/b", "/a/b", "/a/b/c", "/b/c", "/*", "/*/*", "/a*/*", "/no"})
	}
}

// refusal is an op that a tree refuses, with the code.
type refusal struct {
	o    impl.Op
	code int
}

func checkRefusals(t *testing.T, tree impl.Tree, list []refusal) {
	t.Helper()
	for _, r := range list {
		got, code := impl.Do(tree, r.o)
		if code != r.code {
			t.Errorf("%s told %d, want %d", textOfOp(r.o), code, r.code)
		}
		if r.code != impl.FsOk && !sameTree(got, tree) {
			t.Errorf("%s was refused, but left %s", textOfOp(r.o), textOfTree(got))
		}
		checkDo(t, tree, r.o)
	}
}

func TestOpsThatAreBad(t *testing.T) {
	tree := sampleTree()
	var list []refusal
	for _, kind := range []int{-1, 9, 10, 100, math.MinInt, math.MaxInt} {
		list = append(list, refusal{impl.Op{Kind: kind, Path: "/b", To: "/c"}, impl.FsBad}, refusal{impl.Op{Kind: kind}, impl.FsBad}, refusal{impl.Op{Kind: kind, Path: "/no"}, impl.FsBad})
	}
	for _, path := range slices.Concat(noPaths, []string{"/"}) {
		for kind := impl.OpMake; kind <= impl.OpTouch; kind++ {
			list = append(list, refusal{impl.Op{Kind: kind, Path: path, To: "/c"}, impl.FsBad})
		}
		list = append(list, refusal{impl.Op{Kind: impl.OpMove, Path: "/b", To: path}, impl.FsBad}, refusal{impl.Op{Kind: impl.OpMove, Path: "/no", To: path}, impl.FsBad})
		list = append(list, refusal{impl.Op{Kind: impl.OpSync, Path: path}, impl.FsOk}, refusal{impl.Op{Kind: impl.OpSync, Path: path, To: path, Data: "x", Mode: -1, Time: -1}, impl.FsOk})
	}
	// What each kind asks of Mode and Time, whether it would be done or not.
	for kind := impl.OpMake; kind <= impl.OpSync; kind++ {
		path := "/b"
		if kind == impl.OpMake || kind == impl.OpNew {
			path = "/c"
		}
		for _, mode := range []int{0, 1, 511, -1, 512, math.MinInt, math.MaxInt} {
			code := impl.FsOk
			if (mode < 0 || mode > 511) && (kind == impl.OpMake || kind == impl.OpNew || kind == impl.OpMode) {
				code = impl.FsBad
			}
			list = append(list, refusal{impl.Op{Kind: kind, Path: path, To: "/c", Mode: mode}, code})
			if code == impl.FsBad {
				list = append(list, refusal{impl.Op{Kind: kind, Path: "/a", Mode: mode}, code}, refusal{impl.Op{Kind: kind, Path: "/no/a", Mode: mode}, code})
			}
		}
		for _, time := range []int{0, 1, lastTime, -1, lastTime + 1, math.MinInt, math.MaxInt} {
			code := impl.FsOk
			if (time < 0 || time > lastTime) && kind != impl.OpMove && kind != impl.OpDrop && kind != impl.OpMode && kind != impl.OpSync {
				code = impl.FsBad
			}
			list = append(list, refusal{impl.Op{Kind: kind, Path: path, To: "/c", Time: time}, code})
			if code == impl.FsBad {
				list = append(list, refusal{impl.Op{Kind: kind, Path: "/a", Time: time}, code}, refusal{impl.Op{Kind: kind, Path: "/no/a", Time: time}, code})
			}
		}
	}
	checkRefusals(t, tree, list)
}

func TestMakeAndNew(t *testing.T) {
	tree := sampleTree()
	for _, kind := range []int{impl.OpMake, impl.OpNew} {
		var list []refusal
		for _, n := range tree.Nodes {
			list = append(list, refusal{impl.Op{Kind: kind, Path: n.Path}, impl.FsThere})
		}
		for _, path := range []string{"/no/a", "/no/a/b", "/a/no/a", "/b/a", "/a/x/y", "/a/b/c/d", "/a.b/x/y", "/a00/x", "/a./x"} {
			list = append(list, refusal{impl.Op{Kind: kind, Path: path}, impl.FsNone})
		}
		for _, path := range []string{"/0", "/a!", "/a.c", "/a00", "/a/a", "/a/b.c", "/a/b/d", "/a/b0", "/e/a", "/z", "/" + name40, "/A"} {
			list = append(list, refusal{impl.Op{Kind: kind, Path: path}, impl.FsOk})
		}
		checkRefusals(t, tree, list)
		// All but Path, Mode and Time of the op stays out of the node.
		got, _ := impl.Do(tree, impl.Op{Kind: kind, Path: "/a/y", To: "/a/z", Data: "x", Mode: 1, Time: 2})
		i := impl.Find(got, "/a/y")
		if i != 6 || got.Nodes[i] != (impl.Node{Path: "/a/y", Dir: kind == impl.OpMake, Mode: 1, Time: 2, Id: 11}) || got.Next != 12 || len(got.Nodes) != 11 {
			t.Errorf("kind %d made %s", kind, textOfTree(got))
		}
	}
}

func TestMakeAtTheLimits(t *testing.T) {
	for _, kind := range []int{impl.OpMake, impl.OpNew} {
		for _, size := range []int{1, 58, 59, 60} {
			tree, code := filledTree(size), impl.FsOk
			if size == 60 {
				code = impl.FsFull
			}
			checkRefusals(t, tree, []refusal{
				{impl.Op{Kind: kind, Path: "/z"}, code}, {impl.Op{Kind: kind, Path: "/0"}, code}, {impl.Op{Kind: kind, Path: "/a/b"}, code},
				{impl.Op{Kind: kind, Path: "/a"}, impl.FsThere}, {impl.Op{Kind: kind, Path: "/no/b"}, impl.FsNone}, {impl.Op{Kind: kind, Path: "/z", Mode: -1}, impl.FsBad},
				// The others need no room for nodes.
				{impl.Op{Kind: impl.OpMove, Path: "/a", To: "/z"}, impl.FsOk}, {impl.Op{Kind: impl.OpDrop, Path: "/a"}, impl.FsOk}, {impl.Op{Kind: impl.OpTouch, Path: "/a"}, impl.FsOk}, {impl.Op{Kind: impl.OpSync}, impl.FsOk},
			})
		}
		for _, next := range []int{11, 999998, 999999, 1000000} {
			tree, code := sampleTree(), impl.FsOk
			tree.Next = next
			if next == 1000000 {
				code = impl.FsFull
			}
			checkRefusals(t, tree, []refusal{
				{impl.Op{Kind: kind, Path: "/z"}, code}, {impl.Op{Kind: kind, Path: "/a/a"}, code}, {impl.Op{Kind: kind, Path: "/b"}, impl.FsThere}, {impl.Op{Kind: kind, Path: "/b/c"}, impl.FsNone}, {impl.Op{Kind: kind, Path: "/z", Time: -1}, impl.FsBad},
				{impl.Op{Kind: impl.OpMove, Path: "/a", To: "/z"}, impl.FsOk}, {impl.Op{Kind: impl.OpAdd, Path: "/b", Data: "x"}, impl.FsOk},
			})
		}
	}
}

func TestAddAndCut(t *testing.T) {
	tree := sampleTree()
	for _, kind := range []int{impl.OpAdd, impl.OpCut} {
		checkRefusals(t, tree, []refusal{
			{impl.Op{Kind: kind, Path: "/no"}, impl.FsNone}, {impl.Op{Kind: kind, Path: "/no/a"}, impl.FsNone}, {impl.Op{Kind: kind, Path: "/b/a"}, impl.FsNone},
			{impl.Op{Kind: kind, Path: "/a"}, impl.FsKind}, {impl.Op{Kind: kind, Path: "/e"}, impl.FsKind}, {impl.Op{Kind: kind, Path: "/a/b"}, impl.FsKind},
			{impl.Op{Kind: kind, Path: "/a/x"}, impl.FsOk}, {impl.Op{Kind: kind, Path: "/b"}, impl.FsOk}, {impl.Op{Kind: kind, Path: "/b", Data: "\x00\n\xff"}, impl.FsOk},
			{impl.Op{Kind: kind, Path: "/a", Time: -1}, impl.FsBad}, {impl.Op{Kind: kind, Path: "/no", Time: -1}, impl.FsBad},
		})
	}
	node := tree.Nodes[5]
	got, _ := impl.Do(tree, impl.Op{Kind: impl.OpAdd, Path: "/a/x", To: "/b", Data: "two\n", Mode: 7, Time: 9})
	node.Data, node.Time = "one\ntwo\n", 9
	if got.Nodes[5] != node {
		t.Errorf("added: %s", textOfTree(got))
	}
	got, _ = impl.Do(tree, impl.Op{Kind: impl.OpCut, Path: "/a/x", To: "/b", Data: "two\n", Mode: 7, Time: 8})
	node.Data, node.Time = "", 8
	if got.Nodes[5] != node {
		t.Errorf("cut: %s", textOfTree(got))
	}
}

func TestAddUpToTheLimit(t *testing.T) {
	for _, have := range []int{0, 1, 1500, 2999, 3000} {
		tree := treeOf(folder("/a"), file("/a/x", longText(have)), file("/b", longText(have)))
		for _, more := range []int{0, 1, 2, 1499, 1500, 1501, 2999, 3000, 3001, 6000, 1000000} {
			code := impl.FsOk
			if have+more > 3000 {
				code = impl.FsFull
			}
			o := impl.Op{Kind: impl.OpAdd, Path: "/a/x", Data: strings.Repeat("y", more), Time: 7}
			checkRefusals(t, tree, []refusal{{o, code}})
			got, _ := impl.Do(tree, o)
			if code == impl.FsOk && (got.Nodes[1].Data != longText(have)+o.Data || got.Nodes[1].Time != 7) {
				t.Errorf("%d bytes and %d more are %s", have, more, textOfTree(got))
			}
			o.Path = "/a"
			checkRefusals(t, tree, []refusal{{o, impl.FsKind}})
			o.Path = "/no"
			checkRefusals(t, tree, []refusal{{o, impl.FsNone}})
			o.Time = -1
			checkRefusals(t, tree, []refusal{{o, impl.FsBad}})
		}
	}
}

func TestMoveThatIsRefused(t *testing.T) {
	var list []refusal
	add := func(code int, pairs ...string) {
		for i := 0; i < len(pairs); i += 2 {
			list = append(list, refusal{impl.Op{Kind: impl.OpMove, Path: pairs[i], To: pairs[i+1]}, code})
		}
	}
	// To itself, and into itself, also of what isn't there, and of a file.
	add(impl.FsBad, "/a", "/a", "/b", "/b", "/no", "/no", "/a", "/a/c", "/a", "/a/b", "/a", "/a/b/c/d", "/b", "/b/c", "/no", "/no/a", "/a/b", "/a/b/b")
	// Nothing there, whatever To is.
	add(impl.FsNone, "/no", "/c", "/no", "/b", "/no", "/a", "/no", "/no2/c", "/a/no", "/b", "/b/c", "/c", "/a/b", "/no/c")
	// Onto a folder, also onto the one in which it stands, and a folder onto a file.
	add(impl.FsKind, "/b", "/a", "/b", "/e", "/a/x", "/a", "/a/x", "/a/b", "/a/b/c", "/a", "/a", "/e", "/e", "/a", "/e", "/a0", "/a/b", "/a", "/a", "/b", "/e", "/b", "/e", "/a/x", "/a0", "/a.b/x", "/a/b", "/a/x")
	// Into no folder, and into a file.
	add(impl.FsNone, "/b", "/no/b", "/a", "/no/b", "/b", "/a/x/y", "/e", "/a/x/y", "/a/x", "/b/x", "/e", "/b/e", "/a/b", "/a/no/b", "/b", "/a00/b")
	// Ones whose names only begin alike.
	add(impl.FsOk, "/a", "/a1", "/a", "/a.c", "/a", "/a.b/a", "/a", "/a0/a", "/a.b", "/a/b.b", "/a0", "/a/0", "/a/b", "/a.b/b", "/a/b", "/a/bb", "/b", "/bb", "/b", "/a/b/b")
	checkRefusals(t, sampleTree(), list)
}

func TestMoveThatGetsTooDeep(t *testing.T) {
	tree := deepTree()
	move := func(path, to string, code int) refusal {
		return refusal{impl.Op{Kind: impl.OpMove, Path: path, To: to}, code}
	}
	checkRefusals(t, tree, []refusal{
		move("/a", "/1/a", impl.FsOk), move("/a", "/1/2/a", impl.FsOk), move("/a", "/1/2/3/a", impl.FsOk), move("/a", "/1/2/3/4/a", impl.FsBad), move("/a", "/1/2/3/4/5/a", impl.FsBad), move("/a", "/1/2/3/4/5/6/a", impl.FsBad),
		move("/a/b", "/1/2/3/4/b", impl.FsOk), move("/a/b", "/1/2/3/4/5/b", impl.FsBad), move("/a/b/c", "/1/2/3/4/5/c", impl.FsOk), move("/z", "/1/2/3/4/5/6", impl.FsOk), move("/z", "/1/2/3/4/5/7", impl.FsOk),
		// The codes that are named ahead of that.
		move("/a", "/1/2/3/4/5", impl.FsKind), move("/a", "/1/2/3/4/5/6", impl.FsKind), move("/a", "/1/2/3/no/b", impl.FsNone), move("/a", "/1/2/3/4/no/b", impl.FsNone), move("/a", "/z/b", impl.FsNone), move("/1", "/a/1", impl.FsBad), move("/1/2", "/a/2", impl.FsOk), move("/1/2", "/a/b/2", impl.FsBad), move("/1/2", "/2", impl.FsOk), move("/no", "/1/2/3/4/5/a", impl.FsNone),
	})
	empty := treeOf(folder("/1"), folder("/1/2"), folder("/1/2/3"), folder("/1/2/3/4"), folder("/1/2/3/4/5"), folder("/a"))
	checkRefusals(t, empty, []refusal{move("/a", "/1/2/3/4/5/a", impl.FsOk), move("/1", "/a/1", impl.FsOk)})
	// Names stay as long as they were: only the number of names may be too great.
	long := strings.Repeat("/"+name40, 3)
	wide := treeOf(folder("/a"), folder("/"+name40), folder("/"+name40+"/"+name40), file(long, ""))
	checkRefusals(t, wide, []refusal{move("/"+name40, "/a/"+name40, impl.FsOk), move(long, "/a/b", impl.FsOk)})
}

func pathsOf(t impl.Tree) []string {
	var paths []string
	for _, n := range t.Nodes {
		paths = append(paths, n.Path)
	}
	return paths
}

func TestMoveOfAFolder(t *testing.T) {
	for _, c := range []struct {
		path, to string
		want     []string
	}{
		// Behind all, ahead of all, and between those that begin as it did.
		{"/a", "/z", []string{"/a.b", "/a.b/x", "/a0", "/a0/x", "/b", "/e", "/z", "/z/b", "/z/b/c", "/z/x"}},
		{"/a", "/0", []string{"/0", "/0/b", "/0/b/c", "/0/x", "/a.b", "/a.b/x", "/a0", "/a0/x", "/b", "/e"}},
		{"/a", "/a.c", []string{"/a.b", "/a.b/x", "/a.c", "/a.c/b", "/a.c/b/c", "/a.c/x", "/a0", "/a0/x", "/b", "/e"}},
		{"/a", "/e/a", []string{"/a.b", "/a.b/x", "/a0", "/a0/x", "/b", "/e", "/e/a", "/e/a/b", "/e/a/b/c", "/e/a/x"}},
		{"/a", "/a.b/a", []string{"/a.b", "/a.b/a", "/a.b/a/b", "/a.b/a/b/c", "/a.b/a/x", "/a.b/x", "/a0", "/a0/x", "/b", "/e"}},
		{"/a", "/a.b/z", []string{"/a.b", "/a.b/x", "/a.b/z", "/a.b/z/b", "/a.b/z/b/c", "/a.b/z/x", "/a0", "/a0/x", "/b", "/e"}},
		// To a name that itself is what another one begins with.
		{"/e", "/a/b/e", []string{"/a", "/a.b", "/a.b/x", "/a/b", "/a/b/c", "/a/b/e", "/a/x", "/a0", "/a0/x", "/b"}},
		{"/a0", "/a.", []string{"/a", "/a.", "/a./x", "/a.b", "/a.b/x", "/a/b", "/a/b/c", "/a/x", "/b", "/e"}},
		{"/a.b", "/a/b.b", []string{"/a", "/a/b", "/a/b.b", "/a/b.b/x", "/a/b/c", "/a/x", "/a0", "/a0/x", "/b", "/e"}},
		{"/a/b", "/a/z", []string{"/a", "/a.b", "/a.b/x", "/a/x", "/a/z", "/a/z/c", "/a0", "/a0/x", "/b", "/e"}},
		{"/a/b", "/b0", []string{"/a", "/a.b", "/a.b/x", "/a/x", "/a0", "/a0/x", "/b", "/b0", "/b0/c", "/e"}},
	} {
		tree := sampleTree()
		o := impl.Op{Kind: impl.OpMove, Path: c.path, To: c.to, Data: "x", Mode: 1, Time: 2}
		got := checkDo(t, tree, o)
		if !slices.Equal(pathsOf(got), c.want) {
			t.Errorf("%s left %q, want %q", textOfOp(o), pathsOf(got), c.want)
		}
		// Nothing but the paths is another one.
		byId := map[int]impl.Node{}
		for _, n := range tree.Nodes {
			byId[n.Id] = n
		}
		for _, n := range got.Nodes {
			was := byId[n.Id]
			if was.Path == c.path || standsIn(was.Path, c.path) {
				was.Path = c.to + was.Path[len(c.path):]
			}
			if n != was {
				t.Errorf("%s made a node %v of %v", textOfOp(o), n, was)
			}
		}
	}
}

func TestMoveOfAFile(t *testing.T) {
	for _, c := range []struct {
		path, to string
		want     []string
	}{
		{"/b", "/a/a", []string{"/a", "/a.b", "/a.b/x", "/a/a", "/a/b", "/a/b/c", "/a/x", "/a0", "/a0/x", "/e"}},
		{"/a/x", "/z", []string{"/a", "/a.b", "/a.b/x", "/a/b", "/a/b/c", "/a0", "/a0/x", "/b", "/e", "/z"}},
		{"/a/b/c", "/0", []string{"/0", "/a", "/a.b", "/a.b/x", "/a/b", "/a/x", "/a0", "/a0/x", "/b", "/e"}},
		// Onto files ahead of it and behind it, which are gone.
		{"/b", "/a/x", []string{"/a", "/a.b", "/a.b/x", "/a/b", "/a/b/c", "/a/x", "/a0", "/a0/x", "/e"}},
		{"/a/x", "/b", []string{"/a", "/a.b", "/a.b/x", "/a/b", "/a/b/c", "/a0", "/a0/x", "/b", "/e"}},
		{"/a.b/x", "/a0/x", []string{"/a", "/a.b", "/a/b", "/a/b/c", "/a/x", "/a0", "/a0/x", "/b", "/e"}},
		{"/a0/x", "/a.b/x", []string{"/a", "/a.b", "/a.b/x", "/a/b", "/a/b/c", "/a/x", "/a0", "/b", "/e"}},
	} {
		tree := sampleTree()
		moved := tree.Nodes[impl.Find(tree, c.path)]
		moved.Path = c.to
		o := impl.Op{Kind: impl.OpMove, Path: c.path, To: c.to, Data: "x", Mode: 1, Time: 2}
		got := checkDo(t, tree, o)
		if !slices.Equal(pathsOf(got), c.want) || got.Next != tree.Next {
			t.Errorf("%s left %q, want %q", textOfOp(o), pathsOf(got), c.want)
		}
		if n := got.Nodes[slices.Index(c.want, c.to)]; n != moved {
			t.Errorf("%s left %v, want %v", textOfOp(o), n, moved)
		}
	}
}

func TestDrop(t *testing.T) {
	tree := sampleTree()
	drop := func(path string, code int) refusal {
		return refusal{impl.Op{Kind: impl.OpDrop, Path: path, Mode: -1, Time: -1}, code}
	}
	checkRefusals(t, tree, []refusal{
		drop("/no", impl.FsNone), drop("/a/no", impl.FsNone), drop("/b/a", impl.FsNone), drop("/", impl.FsBad), drop("", impl.FsBad),
		drop("/a", impl.FsBusy), drop("/a.b", impl.FsBusy), drop("/a/b", impl.FsBusy), drop("/a0", impl.FsBusy),
		drop("/b", impl.FsOk), drop("/e", impl.FsOk), drop("/a/x", impl.FsOk), drop("/a/b/c", impl.FsOk),
	})
	// A folder is empty beside others whose names begin as its own does.
	beside := treeOf(folder("/a"), folder("/a.b"), file("/a.b/x", ""), file("/a0", ""), folder("/ab"), file("/ab/x", ""))
	checkRefusals(t, beside, []refusal{drop("/a", impl.FsOk), drop("/a.b", impl.FsBusy), drop("/ab", impl.FsBusy)})
	got := checkDo(t, beside, impl.Op{Kind: impl.OpDrop, Path: "/a"})
	if !slices.Equal(pathsOf(got), []string{"/a.b", "/a.b/x", "/a0", "/ab", "/ab/x"}) || got.Next != beside.Next {
		t.Errorf("dropped: %s", textOfTree(got))
	}
}

func TestModeTouchAndSync(t *testing.T) {
	tree := sampleTree()
	for i, n := range tree.Nodes {
		for _, number := range []int{0, 1, 511} {
			got := checkDo(t, tree, impl.Op{Kind: impl.OpMode, Path: n.Path, To: "/c", Data: "x", Mode: number, Time: 5})
			want := n
			if want.Mode = number; got.Nodes[i] != want {
				t.Errorf("mode: %v, want %v", got.Nodes[i], want)
			}
		}
		for _, number := range []int{0, 1, lastTime} {
			got := checkDo(t, tree, impl.Op{Kind: impl.OpTouch, Path: n.Path, To: "/c", Data: "x", Mode: 5, Time: number})
			want := n
			if want.Time = number; got.Nodes[i] != want {
				t.Errorf("touch: %v, want %v", got.Nodes[i], want)
			}
		}
	}
	checkRefusals(t, tree, []refusal{
		{impl.Op{Kind: impl.OpMode, Path: "/no"}, impl.FsNone}, {impl.Op{Kind: impl.OpMode, Path: "/b/c"}, impl.FsNone}, {impl.Op{Kind: impl.OpTouch, Path: "/no"}, impl.FsNone}, {impl.Op{Kind: impl.OpTouch, Path: "/b/c"}, impl.FsNone},
		{impl.Op{Kind: impl.OpMode, Path: "/b", Time: -1}, impl.FsOk}, {impl.Op{Kind: impl.OpTouch, Path: "/b", Mode: -1}, impl.FsOk},
		{impl.Op{Kind: impl.OpSync}, impl.FsOk}, {impl.Op{Kind: impl.OpSync, Path: "/no", To: "no", Data: strings.Repeat("x", 4000), Mode: 512, Time: -5}, impl.FsOk},
	})
	for _, tree := range []impl.Tree{{Next: 1}, {Next: 1000000}, sampleTree(), deepTree(), filledTree(60)} {
		if got := checkDo(t, tree, impl.Op{Kind: impl.OpSync, Path: "none"}); !sameTree(got, tree) {
			t.Errorf("synced: %s", textOfTree(got))
		}
	}
}

func TestEveryOpOnEverySmallTree(t *testing.T) {
	paths := []string{"/a", "/a.b", "/a.b/a", "/a/a", "/a/a.b", "/a/a/a", "/a0", "/b"}
	ops := everyOp(append(slices.Clone(paths), "/a/b", "/a/a/b"))
	looks := append(slices.Clone(paths), "", "/", "/c", "/*", "/*/*", "/a*", "/a/*", "/?/?/?")
	trees := 0
	everyTree(paths, func(tree impl.Tree) {
		trees++
		for _, o := range ops {
			checkDo(t, tree, o)
		}
		checkLook(t, tree, looks)
	})
	if trees < 500 {
		t.Errorf("only %d trees", trees)
	}
}

// randomOp is mostly one that can be done, at paths of few names.
func randomOp(random *rand.Rand) impl.Op {
	path := func() string {
		s := ""
		for range 1 + random.Intn(3)*random.Intn(3) {
			s += "/" + []string{"a", "a.", "a0", "b", "b!"}[random.Intn(5)]
		}
		return s
	}
	o := impl.Op{Kind: random.Intn(9), Path: path(), To: path(), Mode: random.Intn(512), Time: random.Intn(1000)}
	if random.Intn(3) == 0 {
		o.Kind = random.Intn(2)
	}
	if o.Kind == impl.OpAdd {
		o.Data = longText(random.Intn(20) * random.Intn(100))
	}
	switch random.Intn(60) {
	case 0:
		o.Mode = []int{-1, 512}[random.Intn(2)]
	case 1:
		o.Time = []int{-1, lastTime + 1}[random.Intn(2)]
	case 2:
		o.Path, o.To = "/", "a"
	}
	return o
}

func TestManyOpsOneByOne(t *testing.T) {
	told := map[[2]int]int{}
	most := 0
	for seed := range 60 {
		random := rand.New(rand.NewSource(int64(seed)))
		tree := impl.Tree{Next: 1}
		var list []impl.Op
		for range 250 {
			o := randomOp(random)
			list = append(list, o)
			_, code := expectDo(tree, o)
			told[[2]int{o.Kind, code}]++
			tree = checkDo(t, tree, o)
			most = max(most, len(tree.Nodes))
		}
		checkDoAll(t, impl.Tree{Next: 1}, list)
		checkLook(t, tree, append(pathsOf(tree), "", "/", "/*", "/*/*", "/a*/*", "/a/*/b*", "/no"))
	}
	// Without these the walk would say little.
	for _, want := range [][2]int{
		{impl.OpMake, impl.FsOk}, {impl.OpMake, impl.FsThere}, {impl.OpMake, impl.FsNone}, {impl.OpNew, impl.FsOk}, {impl.OpNew, impl.FsThere}, {impl.OpNew, impl.FsNone},
		{impl.OpAdd, impl.FsOk}, {impl.OpAdd, impl.FsKind}, {impl.OpAdd, impl.FsNone}, {impl.OpCut, impl.FsOk}, {impl.OpMove, impl.FsOk}, {impl.OpMove, impl.FsKind}, {impl.OpMove, impl.FsNone}, {impl.OpMove, impl.FsBad},
		{impl.OpDrop, impl.FsOk}, {impl.OpDrop, impl.FsBusy}, {impl.OpDrop, impl.FsNone}, {impl.OpMode, impl.FsOk}, {impl.OpTouch, impl.FsOk}, {impl.OpSync, impl.FsOk},
	} {
		if told[want] == 0 {
			t.Errorf("no op %d told %d", want[0], want[1])
		}
	}
	if most < 15 {
		t.Errorf("no tree had more than %d nodes", most)
	}
}

func TestMadeAndDroppedLeavesAllAsItWas(t *testing.T) {
	for _, tree := range []impl.Tree{{Next: 1}, sampleTree(), deepTree(), filledTree(59)} {
		for _, kind := range []int{impl.OpMake, impl.OpNew} {
			for _, path := range []string{"/0", "/a!", "/a/a", "/a/b.", "/zz", "/1/2/3/4/5/7", "/e/e"} {
				made, code := impl.Do(tree, impl.Op{Kind: kind, Path: path})
				if code != impl.FsOk {
					continue
				}
				if made.Nodes[impl.Find(made, path)].Id != tree.Next || made.Next != tree.Next+1 {
					t.Errorf("made: %s", textOfTree(made))
				}
				left, code := impl.Do(made, impl.Op{Kind: impl.OpDrop, Path: path})
				if code != impl.FsOk || !slices.Equal(left.Nodes, tree.Nodes) || left.Next != tree.Next+1 {
					t.Errorf("%q made and dropped, %d: %s", path, code, textOfTree(left))
				}
			}
		}
	}
}

// Identities are never given out again.
func TestIdsAreNew(t *testing.T) {
	tree := impl.Tree{Next: 1}
	for i := 1; i <= 200; i++ {
		made := checkDo(t, tree, impl.Op{Kind: i % 2, Path: "/a"})
		if made.Nodes[0].Id != i || made.Next != i+1 {
			t.Fatalf("made: %s", textOfTree(made))
		}
		tree = checkDo(t, made, impl.Op{Kind: impl.OpDrop, Path: "/a"})
	}
	tree.Next = 999999
	tree = checkDo(t, tree, impl.Op{Kind: impl.OpNew, Path: "/a"})
	if tree.Nodes[0].Id != 999999 || tree.Next != 1000000 {
		t.Fatalf("the last id: %s", textOfTree(tree))
	}
	tree = checkDo(t, tree, impl.Op{Kind: impl.OpDrop, Path: "/a"})
	if _, code := impl.Do(tree, impl.Op{Kind: impl.OpNew, Path: "/a"}); code != impl.FsFull {
		t.Errorf("with no ids left: %d", code)
	}
}

func TestMovedThereAndBackLeavesAllAsItWas(t *testing.T) {
	for _, tree := range []impl.Tree{sampleTree(), deepTree(), filledTree(60)} {
		moves := 0
		for _, from := range pathsOf(tree) {
			for _, to := range []string{"/0", "/a!", "/a.c", "/a/a", "/a/b/a", "/a00", "/e/e", "/zz", "/1/2/a", "/1/a"} {
				moved, code := impl.Do(tree, impl.Op{Kind: impl.OpMove, Path: from, To: to})
				if code != impl.FsOk {
					continue
				}
				moves++
				left, code := impl.Do(moved, impl.Op{Kind: impl.OpMove, Path: to, To: from})
				if code != impl.FsOk || !sameTree(left, tree) {
					t.Errorf("%q moved to %q and back, %d: %s", from, to, code, textOfTree(left))
				}
			}
		}
		if moves < 10 {
			t.Errorf("only %d moves", moves)
		}
	}
}

func TestDoAll(t *testing.T) {
	tree := sampleTree()
	good := []impl.Op{{Kind: impl.OpMake, Path: "/c", Mode: 493}, {Kind: impl.OpMove, Path: "/a", To: "/c/a"}, {Kind: impl.OpSync}, {Kind: impl.OpAdd, Path: "/c/a/x", Data: "two\n"}, {Kind: impl.OpDrop, Path: "/e"}}
	refused := []impl.Op{{Kind: impl.OpDrop, Path: "/c"}, {Kind: impl.OpDrop, Path: "/no"}, {Kind: 9}, {Kind: impl.OpNew, Path: "/b"}, {Kind: impl.OpCut, Path: "/a.b"}, {Kind: impl.OpAdd, Path: "/b", Data: strings.Repeat("x", 3001)}}
	got, n, code := impl.DoAll(tree, good)
	if n != 5 || code != impl.FsOk || !slices.Equal(pathsOf(got), []string{"/a.b", "/a.b/x", "/a0", "/a0/x", "/b", "/c", "/c/a", "/c/a/b", "/c/a/b/c", "/c/a/x"}) {
		t.Errorf("all: %d, %d, %s", n, code, textOfTree(got))
	}
	for _, list := range [][]impl.Op{nil, {}} {
		for _, right := range []impl.Tree{{Next: 1}, tree, filledTree(60)} {
			got, n, code := impl.DoAll(right, list)
			if n != 0 || code != impl.FsOk || !sameTree(got, right) {
				t.Errorf("no ops: %d, %d, %s", n, code, textOfTree(got))
			}
			checkDoAll(t, right, list)
		}
	}
	for many := range len(good) + 1 {
		checkDoAll(t, tree, good[:many])
		for _, o := range refused {
			list := slices.Insert(slices.Clone(good), many, o)
			checkDoAll(t, tree, list)
			want, _, _ := impl.DoAll(tree, good[:many])
			_, wantCode := impl.Do(want, o)
			got, n, code := impl.DoAll(tree, list)
			if wantCode != impl.FsOk && (n != many || code != wantCode || !sameTree(got, want)) {
				t.Errorf("refused at %d: %d, %d, %s", many, n, code, textOfTree(got))
			}
		}
	}
	for what, wrong := range wrongTrees() {
		got, n, code := impl.DoAll(wrong, good)
		if n != 0 || code != impl.FsBad || len(got.Nodes) > 0 || got.Next != 0 {
			t.Errorf("ops on a tree (%s): %d, %d, %s", what, n, code, textOfTree(got))
		}
	}
}

func TestDoAllUpToTheLimit(t *testing.T) {
	var list []impl.Op
	for i := range 61 {
		list = append(list, impl.Op{Kind: i % 2, Path: fmt.Sprintf("/f%02d", 60-i)})
	}
	got, n, code := impl.DoAll(impl.Tree{Next: 1}, list)
	if n != 60 || code != impl.FsFull || len(got.Nodes) != 60 || got.Next != 61 || !impl.TreeOk(got) {
		t.Errorf("61 nodes: %d, %d, %s", n, code, textOfTree(got))
	}
	checkDoAll(t, impl.Tree{Next: 1}, list)
	checkDoAll(t, impl.Tree{Next: 1}, list[:60])
	checkDoAll(t, impl.Tree{Next: 999941}, list)
	checkDoAll(t, impl.Tree{Next: 1}, slices.Repeat([]impl.Op{{Kind: impl.OpSync}}, 2000))
}

func TestFindNamesAndGlob(t *testing.T) {
	tree := sampleTree()
	for i, n := range tree.Nodes {
		if got := impl.Find(tree, n.Path); got != i {
			t.Errorf("Find(%q) = %d", n.Path, got)
		}
	}
	for _, path := range []string{"", "/", "a", "/no", "/a/", "//a", "/a/no", "/a.", "/a/b/", "/*", "/A"} {
		if got := impl.Find(tree, path); got != -1 {
			t.Errorf("Find(%q) = %d", path, got)
		}
	}
	for _, c := range []struct {
		dir  string
		want []string
	}{
		{"/", []string{"a", "a.b", "a0", "b", "e"}}, {"/a", []string{"b", "x"}}, {"/a.b", []string{"x"}}, {"/a/b", []string{"c"}}, {"/a0", []string{"x"}},
		{"/e", nil}, {"/b", nil}, {"/no", nil}, {"", nil}, {"a", nil}, {"/a/", nil}, {"//", nil}, {"/*", nil}, {"/a/x", nil},
	} {
		if got := impl.Names(tree, c.dir); !slices.Equal(got, c.want) {
			t.Errorf("Names(%q) = %q, want %q", c.dir, got, c.want)
		}
	}
	for _, c := range []struct {
		p    string
		want []string
	}{
		{"/*", []string{"/a", "/a.b", "/a0", "/b", "/e"}}, {"/*/*", []string{"/a.b/x", "/a/b", "/a/x", "/a0/x"}}, {"/*/*/*", []string{"/a/b/c"}}, {"/a*", []string{"/a", "/a.b", "/a0"}}, {"/a*/x", []string{"/a.b/x", "/a/x", "/a0/x"}},
		{"/a/*", []string{"/a/b", "/a/x"}}, {"/[!a]", []string{"/b", "/e"}}, {"/b", []string{"/b"}}, {"/a/b/c", []string{"/a/b/c"}},
		{"/no", nil}, {"/", nil}, {"", nil}, {"*", nil}, {"a", nil}, {"/[", nil}, {"/*/", nil}, {"/*/*/*/*", nil}, {"/b/*", nil}, {"//*", nil},
	} {
		if got := impl.Glob(tree, c.p); !slices.Equal(got, c.want) {
			t.Errorf("Glob(%q) = %q, want %q", c.p, got, c.want)
		}
	}
	everyText("/ab*", 5, func(s string) { checkLook(t, tree, []string{s}) })
	for _, tree := range []impl.Tree{{Next: 1}, deepTree(), filledTree(60)} {
		checkLook(t, tree, append(pathsOf(tree), "", "/", "/*", "/*/*", "/1/2/3/4/5/*", "/*/*/*/*/*/*", "/*/*/*/*/*/*/*", "/f0?"))
	}
}

// Find asks nothing of the tree, as the chapter says nothing of it there; Names and Glob do.
func TestLooksAtWrongTrees(t *testing.T) {
	wrong := sampleTree()
	slices.Reverse(wrong.Nodes)
	if got := impl.Find(wrong, "/a"); got != 9 {
		t.Errorf("Find in a tree that is upside down = %d", got)
	}
	twice := treeOf(file("/a", "first"), file("/a", "second"))
	if got := impl.Find(twice, "/a"); got != 0 {
		t.Errorf("Find of what is there twice = %d", got)
	}
	for what, tree := range wrongTrees() {
		for _, s := range []string{"/", "/a", "/*", "/a/*"} {
			if names, paths := impl.Names(tree, s), impl.Glob(tree, s); len(names) > 0 || len(paths) > 0 {
				t.Errorf("Names(%q) = %q and Glob %q of a tree (%s)", s, names, paths, what)
			}
		}
	}
}

func TestTreesAtOnce(t *testing.T) {
	tree := sampleTree()
	before := slices.Clone(tree.Nodes)
	var group sync.WaitGroup
	for range 8 {
		group.Go(func() {
			for _, o := range everyOp([]string{"/a", "/a/b", "/b", "/c"}) {
				got, code := impl.Do(tree, o)
				if want, wantCode := expectDo(tree, o); code != wantCode || !sameTree(got, want) {
					t.Errorf("%s told %d", textOfOp(o), code)
				}
			}
		})
	}
	group.Wait()
	if !slices.Equal(tree.Nodes, before) {
		t.Error("the tree was written into")
	}
}
