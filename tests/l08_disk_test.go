package tests

import (
	"fmt"
	"math"
	"math/rand"
	"slices"
	"strings"
	"sync"
	"testing"

	"loop.example/g00704/impl"
)

const maxWait = 300

// diskModel is a right disk as the chapter tells it: behind[k] is what the first k ops of wait made of Safe.
type diskModel struct {
	behind []impl.Tree
	wait   []impl.Op
}

func (m diskModel) disk() impl.Disk { return impl.Disk{Safe: m.behind[0], Wait: m.wait} }

func (m diskModel) live() impl.Tree { return m.behind[len(m.wait)] }

// modelOf tells false of a disk that isn't right.
func modelOf(d impl.Disk) (diskModel, bool) {
	if !expectTreeOk(d.Safe) || len(d.Wait) > maxWait {
		return diskModel{}, false
	}
	m := diskModel{behind: []impl.Tree{d.Safe}, wait: d.Wait}
	for _, o := range d.Wait {
		tree, code := expectDo(m.behind[len(m.behind)-1], o)
		if code != impl.FsOk {
			return diskModel{}, false
		}
		m.behind = append(m.behind, tree)
	}
	return m, true
}

// put asks for room last: only an op that the tree takes is to stand in wait.
func (m diskModel) put(o impl.Op) (diskModel, int) {
	tree, code := expectDo(m.live(), o)
	switch {
	case code != impl.FsOk:
		return m, code
	case o.Kind == impl.OpSync:
		return diskModel{behind: []impl.Tree{m.live()}}, impl.FsOk
	case len(m.wait) >= maxWait:
		return m, impl.FsFull
	}
	return diskModel{append(slices.Clone(m.behind), tree), append(slices.Clone(m.wait), o)}, impl.FsOk
}

func (m diskModel) cut(k int) impl.Disk {
	return impl.Disk{Safe: m.behind[max(0, min(k, len(m.wait)))]}
}

func sameDisk(a, b impl.Disk) bool { return sameTree(a.Safe, b.Safe) && slices.Equal(a.Wait, b.Wait) }

func isZeroDisk(d impl.Disk) bool { return sameDisk(d, impl.Disk{}) }

func textOfDisk(d impl.Disk) string {
	var s strings.Builder
	s.WriteString("safe, " + textOfTree(d.Safe))
	fmt.Fprintf(&s, "\n%d wait", len(d.Wait))
	for i, o := range d.Wait {
		if i < 10 || i >= len(d.Wait)-3 {
			s.WriteString("\n  " + textOfOp(o))
		}
	}
	return s.String()
}

// heldDisk is a disk with spare room behind its lists, and what stands in them and in that room.
type heldDisk struct {
	disk        impl.Disk
	nodes, kept []impl.Node
	wait, ops   []impl.Op
}

func holdDisk(d impl.Disk) heldDisk {
	h := heldDisk{}
	h.disk.Safe, h.nodes = withRoom(d.Safe)
	h.wait = slices.Concat(d.Wait, []impl.Op{{Kind: impl.OpNew, Path: "/spare1"}, {Kind: impl.OpSync}, {Kind: 77}})
	h.disk.Wait = h.wait[:len(d.Wait)]
	h.kept, h.ops = slices.Clone(h.nodes), slices.Clone(h.wait)
	return h
}

func (h heldDisk) isAsItWas() bool {
	return slices.Equal(h.nodes, h.kept) && slices.Equal(h.wait, h.ops)
}

func cloneDisk(d impl.Disk) impl.Disk {
	return impl.Disk{Safe: impl.Tree{Nodes: slices.Clone(d.Safe.Nodes), Next: d.Safe.Next}, Wait: slices.Clone(d.Wait)}
}

// spoilDisk writes over a disk with all its spare room.
func spoilDisk(d impl.Disk) {
	spoil(d.Safe)
	for i := range d.Wait[:cap(d.Wait)] {
		d.Wait[:cap(d.Wait)][i] = impl.Op{Kind: -7, Path: "/spoilt"}
	}
}

// checkPut holds what is told of an op put to a right disk against the model, and against promise 8 and the conventions.
func checkPut(t *testing.T, m diskModel, o impl.Op) diskModel {
	t.Helper()
	held := holdDisk(m.disk())
	got, code := impl.Put(held.disk, o)
	after, wantCode := m.put(o)
	if code != wantCode || !sameDisk(got, after.disk()) {
		t.Fatalf("%s put to\n%s\ntold %d and\n%s\nnot %d and\n%s", textOfOp(o), textOfDisk(m.disk()), code, textOfDisk(got), wantCode, textOfDisk(after.disk()))
	}
	if !impl.DiskOk(got) {
		t.Fatalf("%s put to\n%s\nleft no right disk:\n%s", textOfOp(o), textOfDisk(m.disk()), textOfDisk(got))
	}
	ahead := impl.Live(held.disk)
	if code == impl.FsOk {
		ahead, _ = impl.Do(ahead, o)
	}
	if live := impl.Live(got); !sameTree(live, ahead) {
		t.Fatalf("%s put to\n%s\nmade live\n%s\nnot\n%s", textOfOp(o), textOfDisk(m.disk()), textOfTree(live), textOfTree(ahead))
	}
	spoilDisk(got)
	spoil(ahead)
	if !held.isAsItWas() {
		t.Fatalf("%s put to\n%s\nwrote into it, or shares memory with it", textOfOp(o), textOfDisk(m.disk()))
	}
	return after
}

// checkPutAll puts one op after the other, with the code that each is to tell.
func checkPutAll(t *testing.T, m diskModel, list []refusal) diskModel {
	t.Helper()
	for _, r := range list {
		if _, code := impl.Put(m.disk(), r.o); code != r.code {
			t.Errorf("%s told %d, want %d, put to\n%s", textOfOp(r.o), code, r.code, textOfDisk(m.disk()))
		}
		m = checkPut(t, m, r.o)
	}
	return m
}

// checkDisk holds what is told of a disk against the model: DiskOk, Live, NewDisk of Safe, and Cut at each place.
func checkDisk(t *testing.T, d impl.Disk) {
	t.Helper()
	held := holdDisk(d)
	m, right := modelOf(d)
	if got := impl.DiskOk(held.disk); got != right {
		t.Fatalf("DiskOk = %v of\n%s", got, textOfDisk(d))
	}
	want := impl.Tree{}
	if right {
		want = m.live()
	}
	live := impl.Live(held.disk)
	if !sameTree(live, want) {
		t.Fatalf("Live = %s\nnot %s\nof\n%s", textOfTree(live), textOfTree(want), textOfDisk(d))
	}
	spoil(live)
	places := []int{math.MinInt, -301, -1, maxWait, maxWait + 1, math.MaxInt}
	for k := range len(d.Wait) + 3 {
		places = append(places, k)
	}
	for _, k := range places {
		checkCut(t, held, m, right, k)
	}
	if !held.isAsItWas() {
		t.Fatalf("a look at\n%s\nwrote into it, or shares memory with it", textOfDisk(d))
	}
}

func checkCut(t *testing.T, held heldDisk, m diskModel, right bool, k int) {
	t.Helper()
	got, want := impl.Cut(held.disk, k), impl.Disk{}
	if right {
		want = m.cut(k)
	}
	if !sameDisk(got, want) || impl.DiskOk(got) != right {
		t.Fatalf("Cut at %d left\n%s\nnot\n%s\nof\n%s", k, textOfDisk(got), textOfDisk(want), textOfDisk(held.disk))
	}
	if !right {
		return
	}
	done, _, code := impl.DoAll(held.disk.Safe, held.disk.Wait[:max(0, min(k, len(m.wait)))])
	if code != impl.FsOk || !sameTree(got.Safe, done) || !sameTree(impl.Live(got), done) || len(got.Wait) > 0 {
		t.Fatalf("Cut at %d isn't what the first ops made:\n%s\nof\n%s", k, textOfDisk(got), textOfDisk(held.disk))
	}
	spoilDisk(got)
}

func mustModel(t *testing.T, d impl.Disk) diskModel {
	t.Helper()
	m, right := modelOf(d)
	if !right {
		t.Fatal("no right disk:", textOfDisk(d))
	}
	return m
}

// goodOps can be done to sampleTree in this order, and each kind is among them, OpSync with fields that mean nothing.
func goodOps() []impl.Op {
	return []impl.Op{
		{Kind: impl.OpMake, Path: "/c", Mode: 493, Time: 1}, {Kind: impl.OpNew, Path: "/c/n", Mode: 420, Time: 2}, {Kind: impl.OpAdd, Path: "/c/n", Data: "one", Time: 3}, {Kind: impl.OpSync, Path: "none", Mode: -1, Time: -1},
		{Kind: impl.OpMove, Path: "/a", To: "/c/a"}, {Kind: impl.OpMove, Path: "/c/n", To: "/b"}, {Kind: impl.OpMode, Path: "/b", Mode: 511}, {Kind: impl.OpTouch, Path: "/c", Time: lastTime},
		{Kind: impl.OpAdd, Path: "/b", Data: "two", Time: 4}, {Kind: impl.OpDrop, Path: "/e"}, {Kind: impl.OpCut, Path: "/c/a/x", Time: 5}, {Kind: impl.OpSync}, {Kind: impl.OpAdd, Path: "/c/a/x", Data: "three", Time: 6},
	}
}

// refusedOps are refused by sampleTree, and by what any of the first ones of goodOps make of it: each code that Do can tell.
func refusedOps() []refusal {
	return []refusal{
		{impl.Op{Kind: 9, Path: "/b"}, impl.FsBad}, {impl.Op{Kind: -1}, impl.FsBad}, {impl.Op{Kind: math.MaxInt, Path: "/b"}, impl.FsBad}, {impl.Op{Kind: math.MinInt}, impl.FsBad},
		{impl.Op{Kind: impl.OpNew, Path: "x"}, impl.FsBad}, {impl.Op{Kind: impl.OpMode, Path: "/b", Mode: 512}, impl.FsBad}, {impl.Op{Kind: impl.OpTouch, Path: "/b", Time: -1}, impl.FsBad}, {impl.Op{Kind: impl.OpMove, Path: "/b", To: "/b/c"}, impl.FsBad},
		{impl.Op{Kind: impl.OpDrop, Path: "/no"}, impl.FsNone}, {impl.Op{Kind: impl.OpNew, Path: "/no/x"}, impl.FsNone}, {impl.Op{Kind: impl.OpMove, Path: "/b", To: "/no/x"}, impl.FsNone},
		{impl.Op{Kind: impl.OpMake, Path: "/b"}, impl.FsThere}, {impl.Op{Kind: impl.OpNew, Path: "/a.b"}, impl.FsThere},
		{impl.Op{Kind: impl.OpAdd, Path: "/a.b"}, impl.FsKind}, {impl.Op{Kind: impl.OpCut, Path: "/a0"}, impl.FsKind}, {impl.Op{Kind: impl.OpMove, Path: "/b", To: "/a0"}, impl.FsKind},
		{impl.Op{Kind: impl.OpAdd, Path: "/b", Data: strings.Repeat("x", 3001)}, impl.FsFull}, {impl.Op{Kind: impl.OpDrop, Path: "/a0"}, impl.FsBusy},
	}
}

// waitingDisk has so many ops in Wait, which leave /b with the mode that tells how many.
func waitingDisk(count int) impl.Disk {
	return filledUp(impl.Disk{Safe: sampleTree()}, "/b", count)
}

// filledUp is a disk with modes of a path put behind what stands in Wait, till there are so many ops.
func filledUp(d impl.Disk, path string, count int) impl.Disk {
	d = cloneDisk(d)
	for len(d.Wait) < count {
		d.Wait = append(d.Wait, impl.Op{Kind: impl.OpMode, Path: path, Mode: len(d.Wait) + 1})
	}
	return d
}

// rightDisks have Waits of each sort: nothing, each kind of op, OpSync at each place, as many as there may be.
func rightDisks() map[string]impl.Disk {
	list := map[string]impl.Disk{
		"nothing": {Safe: impl.Tree{Next: 1}}, "nothing, empty lists": {Safe: impl.Tree{Nodes: []impl.Node{}, Next: 1}, Wait: []impl.Op{}}, "nothing any more, no ids left": {Safe: impl.Tree{Next: 1000000}},
		"sample": {Safe: sampleTree()}, "deep": {Safe: deepTree()}, "most nodes": {Safe: filledTree(60)},
		"all of it made":               {Safe: impl.Tree{Next: 1}, Wait: []impl.Op{{Kind: impl.OpMake, Path: "/d"}, {Kind: impl.OpNew, Path: "/d/f"}, {Kind: impl.OpAdd, Path: "/d/f", Data: "x"}}},
		"all of it dropped":            {Safe: treeOf(folder("/d"), file("/d/f", "x")), Wait: []impl.Op{{Kind: impl.OpDrop, Path: "/d/f"}, {Kind: impl.OpDrop, Path: "/d"}}},
		"made, dropped and made":       {Safe: impl.Tree{Next: 1}, Wait: []impl.Op{{Kind: impl.OpNew, Path: "/f"}, {Kind: impl.OpDrop, Path: "/f"}, {Kind: impl.OpMake, Path: "/f"}}},
		"room for one that is dropped": {Safe: filledTree(60), Wait: []impl.Op{{Kind: impl.OpDrop, Path: "/a"}, {Kind: impl.OpNew, Path: "/b"}}},
		"one waits":                    waitingDisk(1), "all but one wait": waitingDisk(maxWait - 1), "all wait": waitingDisk(maxWait),
		"all that wait are syncs": {Safe: sampleTree(), Wait: slices.Repeat([]impl.Op{{Kind: impl.OpSync, Path: "none"}}, maxWait)}, "one sync of nothing": {Safe: impl.Tree{Next: 1}, Wait: []impl.Op{{Kind: impl.OpSync}}},
	}
	for many := range len(goodOps()) + 1 {
		list[fmt.Sprintf("%d good ones", many)] = impl.Disk{Safe: sampleTree(), Wait: goodOps()[:many]}
	}
	for _, at := range []int{0, 1, 150, maxWait - 2, maxWait - 1} {
		wait := slices.Insert(waitingDisk(maxWait-1).Wait, at, impl.Op{Kind: impl.OpSync, Time: -1})
		list[fmt.Sprintf("all wait, a sync at %d", at)] = impl.Disk{Safe: sampleTree(), Wait: wait}
	}
	return list
}

// wrongDisks have a Safe that isn't right, or an op that is refused, or one too many.
func wrongDisks() map[string]impl.Disk {
	syncs := slices.Repeat([]impl.Op{{Kind: impl.OpSync}}, maxWait+1)
	list := map[string]impl.Disk{
		"the zero disk": {}, "no tree, and a sync": {Wait: syncs[:1]}, "one too many": waitingDisk(maxWait + 1), "one sync too many": {Safe: sampleTree(), Wait: syncs}, "far too many": {Safe: impl.Tree{Next: 1}, Wait: slices.Repeat(syncs, 30)},
		"one too many, the last one refused": {Safe: sampleTree(), Wait: append(waitingDisk(maxWait).Wait, impl.Op{Kind: impl.OpDrop, Path: "/no"})},
		"dropped ahead of being made":        {Safe: impl.Tree{Next: 1}, Wait: []impl.Op{{Kind: impl.OpDrop, Path: "/f"}, {Kind: impl.OpNew, Path: "/f"}}},
		"dropped twice":                      {Safe: treeOf(file("/f", "")), Wait: []impl.Op{{Kind: impl.OpDrop, Path: "/f"}, {Kind: impl.OpDrop, Path: "/f"}}},
		"room for one that is dropped later": {Safe: filledTree(60), Wait: []impl.Op{{Kind: impl.OpNew, Path: "/b"}, {Kind: impl.OpDrop, Path: "/a"}}},
	}
	for what, tree := range wrongTrees() {
		list[what] = impl.Disk{Safe: tree}
		list[what+", and a sync"] = impl.Disk{Safe: tree, Wait: syncs[:1]}
		list[what+", and an op"] = impl.Disk{Safe: tree, Wait: []impl.Op{{Kind: impl.OpNew, Path: "/new"}}}
	}
	for i, r := range refusedOps() {
		for at := range len(goodOps()) + 1 {
			list[fmt.Sprintf("op %d refused at %d", i, at)] = impl.Disk{Safe: sampleTree(), Wait: slices.Insert(goodOps(), at, r.o)}
		}
		full := waitingDisk(maxWait)
		for _, at := range []int{0, 150, maxWait - 1} {
			wait := slices.Clone(full.Wait)
			wait[at] = r.o
			list[fmt.Sprintf("op %d refused at %d of all", i, at)] = impl.Disk{Safe: full.Safe, Wait: wait}
		}
	}
	return list
}

func TestMaxWait(t *testing.T) {
	if impl.MaxWait != maxWait {
		t.Error("limit", impl.MaxWait)
	}
}

func TestDiskOk(t *testing.T) {
	for what, d := range rightDisks() {
		if _, right := modelOf(d); !right || !impl.DiskOk(d) {
			t.Errorf("no right disk (%s): %s", what, textOfDisk(d))
		}
	}
	for what, d := range wrongDisks() {
		if _, right := modelOf(d); right || impl.DiskOk(d) {
			t.Errorf("a right disk (%s): %s", what, textOfDisk(d))
		}
	}
	// The limit, met with ops and with syncs.
	for count := maxWait - 2; count <= maxWait+2; count++ {
		if got := impl.DiskOk(waitingDisk(count)); got != (count <= maxWait) {
			t.Errorf("DiskOk = %v with %d ops", got, count)
		}
	}
}

func TestRightDisksAreLookedAtAndCut(t *testing.T) {
	for _, d := range rightDisks() {
		checkDisk(t, d)
	}
}

func TestNewDisk(t *testing.T) {
	for _, tree := range []impl.Tree{{Next: 1}, {Nodes: []impl.Node{}, Next: 1}, {Next: 1000000}, sampleTree(), deepTree(), filledTree(1), filledTree(59), filledTree(60)} {
		given, all := withRoom(tree)
		before := slices.Clone(all)
		d := impl.NewDisk(given)
		if !sameDisk(d, impl.Disk{Safe: tree}) || !impl.DiskOk(d) || !sameTree(impl.Live(d), tree) {
			t.Errorf("a disk of\n%s\nis\n%s", textOfTree(tree), textOfDisk(d))
		}
		spoilDisk(d)
		if !slices.Equal(all, before) {
			t.Errorf("a disk of\n%s\nshares memory with it", textOfTree(tree))
		}
	}
	for what, tree := range wrongTrees() {
		if d := impl.NewDisk(tree); !isZeroDisk(d) || impl.DiskOk(d) {
			t.Errorf("a disk of a tree (%s): %s", what, textOfDisk(d))
		}
	}
}

func TestLiveAndCutStepByStep(t *testing.T) {
	d := impl.Disk{Safe: impl.Tree{Next: 1}, Wait: []impl.Op{
		{Kind: impl.OpMake, Path: "/d", Mode: 493, Time: 1}, {Kind: impl.OpNew, Path: "/d/f", Mode: 420, Time: 2}, {Kind: impl.OpAdd, Path: "/d/f", Data: "one", Time: 3}, {Kind: impl.OpMove, Path: "/d/f", To: "/g"}, {Kind: impl.OpSync},
		{Kind: impl.OpMode, Path: "/d", Mode: 448}, {Kind: impl.OpTouch, Path: "/d", Time: 4}, {Kind: impl.OpCut, Path: "/g", Time: 5}, {Kind: impl.OpDrop, Path: "/d"},
	}}
	made, named := impl.Node{Path: "/d", Dir: true, Mode: 493, Time: 1, Id: 1}, impl.Node{Path: "/d/f", Mode: 420, Time: 2, Id: 2}
	filled, moved, cut := named, named, named
	filled.Data, filled.Time = "one", 3
	moved = filled
	moved.Path = "/g"
	cut = moved
	cut.Data, cut.Time = "", 5
	shut := made
	shut.Mode = 448
	touched := shut
	touched.Time = 4
	steps := [][]impl.Node{nil, {made}, {made, named}, {made, filled}, {made, moved}, {made, moved}, {shut, moved}, {touched, moved}, {touched, cut}, {cut}}
	for k, nodes := range steps {
		next := min(k, 2) + 1
		want := impl.Tree{Nodes: nodes, Next: next}
		if got := impl.Cut(d, k); !sameDisk(got, impl.Disk{Safe: want}) {
			t.Errorf("Cut at %d left\n%s\nnot\n%s", k, textOfDisk(got), textOfTree(want))
		}
		if got := impl.Live(impl.Disk{Safe: d.Safe, Wait: d.Wait[:k]}); !sameTree(got, want) {
			t.Errorf("Live of the first %d is\n%s\nnot\n%s", k, textOfTree(got), textOfTree(want))
		}
	}
	for _, k := range []int{-1, -300, math.MinInt} {
		if got := impl.Cut(d, k); !sameDisk(got, impl.Disk{Safe: d.Safe}) {
			t.Errorf("Cut at %d left %s", k, textOfDisk(got))
		}
	}
	for _, k := range []int{9, 10, 300, 301, math.MaxInt} {
		if got := impl.Cut(d, k); !sameDisk(got, impl.Disk{Safe: impl.Live(d)}) {
			t.Errorf("Cut at %d left %s", k, textOfDisk(got))
		}
	}
}

// A sync that stands in Wait is an op that does nothing: what stands ahead of it may be lost all the same.
func TestCutAroundASyncInWait(t *testing.T) {
	d := impl.Disk{Safe: treeOf(file("/f", "")), Wait: []impl.Op{{Kind: impl.OpAdd, Path: "/f", Data: "1"}, {Kind: impl.OpSync}, {Kind: impl.OpAdd, Path: "/f", Data: "2"}}}
	for k, want := range []string{"", "1", "1", "12", "12"} {
		if got := impl.Cut(d, k); len(got.Wait) != 0 || got.Safe.Nodes[0].Data != want {
			t.Errorf("Cut at %d left %s", k, textOfDisk(got))
		}
	}
	if got, code := impl.Put(d, impl.Op{Kind: impl.OpDrop, Path: "/f"}); code != impl.FsOk || len(got.Wait) != 4 || got.Safe.Nodes[0].Data != "" {
		t.Errorf("put behind a sync, %d: %s", code, textOfDisk(got))
	}
	checkDisk(t, d)
}

func TestNothingIsToldOfWrongDisks(t *testing.T) {
	ops := []impl.Op{{Kind: impl.OpSync}, {Kind: impl.OpNew, Path: "/new"}, {Kind: impl.OpMode, Path: "/b"}, {Kind: impl.OpDrop, Path: "/no"}, {Kind: 9}}
	for what, d := range wrongDisks() {
		held := holdDisk(d)
		if live := impl.Live(held.disk); !sameTree(live, impl.Tree{}) {
			t.Errorf("Live (%s): %s", what, textOfTree(live))
		}
		for _, o := range ops {
			if got, code := impl.Put(held.disk, o); !isZeroDisk(got) || code != impl.FsBad {
				t.Errorf("%s (%s) told %d and %s", textOfOp(o), what, code, textOfDisk(got))
			}
		}
		for _, k := range []int{math.MinInt, -1, 0, 1, len(d.Wait) - 1, len(d.Wait), maxWait, math.MaxInt} {
			if got := impl.Cut(held.disk, k); !isZeroDisk(got) {
				t.Errorf("Cut at %d (%s): %s", k, what, textOfDisk(got))
			}
		}
		if !held.isAsItWas() {
			t.Errorf("a wrong disk (%s) was written into", what)
		}
	}
}

// What is refused is refused at once, also where the first ops alone would be right.
func TestCutNeedsAllOfWaitToBeRight(t *testing.T) {
	d := impl.Disk{Safe: treeOf(file("/f", "")), Wait: []impl.Op{{Kind: impl.OpAdd, Path: "/f", Data: "1"}, {Kind: impl.OpDrop, Path: "/no"}}}
	for k := -1; k < 4; k++ {
		if got := impl.Cut(d, k); !isZeroDisk(got) {
			t.Errorf("Cut at %d left %s", k, textOfDisk(got))
		}
	}
}

func TestPutOneByOne(t *testing.T) {
	m := mustModel(t, impl.NewDisk(sampleTree()))
	for i, o := range goodOps() {
		for _, r := range refusedOps() {
			checkPutAll(t, m, []refusal{r})
		}
		m = checkPutAll(t, m, []refusal{{o, impl.FsOk}})
		checkDisk(t, m.disk())
		// A sync is put nowhere: all ahead of it is safe.
		if want := []int{1, 2, 3, 0, 1, 2, 3, 4, 5, 6, 7, 0, 1}[i]; len(m.wait) != want {
			t.Errorf("%d ops wait behind op %d, want %d", len(m.wait), i, want)
		}
	}
	tree, _, _ := impl.DoAll(sampleTree(), goodOps())
	if live := impl.Live(m.disk()); !sameTree(live, tree) {
		t.Errorf("live is\n%s\nnot\n%s", textOfTree(live), textOfTree(tree))
	}
}

func TestPutTellsEachCode(t *testing.T) {
	told := map[int]bool{}
	for _, r := range refusedOps() {
		for _, d := range []impl.Disk{{Safe: sampleTree()}, {Safe: sampleTree(), Wait: goodOps()[:1]}, {Safe: sampleTree(), Wait: goodOps()}, waitingDisk(maxWait - 1)} {
			got, code := impl.Put(d, r.o)
			if code != r.code || !sameDisk(got, d) {
				t.Errorf("%s told %d, want %d, and left\n%s\nof\n%s", textOfOp(r.o), code, r.code, textOfDisk(got), textOfDisk(d))
			}
			told[code] = true
		}
	}
	for _, code := range []int{impl.FsBad, impl.FsNone, impl.FsThere, impl.FsKind, impl.FsFull, impl.FsBusy} {
		if !told[code] {
			t.Errorf("code %d was never told", code)
		}
	}
	// FsFull of the tree is that of what is live, not of what is safe.
	d := impl.Disk{Safe: filledTree(59)}
	m := checkPutAll(t, mustModel(t, d), []refusal{{impl.Op{Kind: impl.OpNew, Path: "/z"}, impl.FsOk}, {impl.Op{Kind: impl.OpNew, Path: "/y"}, impl.FsFull}, {impl.Op{Kind: impl.OpDrop, Path: "/z"}, impl.FsOk}, {impl.Op{Kind: impl.OpNew, Path: "/y"}, impl.FsOk}})
	if len(m.wait) != 3 || m.live().Next != 62 || m.disk().Safe.Next != 60 {
		t.Error("at the limit of nodes:", textOfDisk(m.disk()))
	}
}

func TestPutOfSync(t *testing.T) {
	syncs := []impl.Op{{Kind: impl.OpSync}, {Kind: impl.OpSync, Path: "/b", To: "/c", Data: "x", Mode: 1, Time: 1}, {Kind: impl.OpSync, Path: "none", Data: strings.Repeat("x", 4000), Mode: -1, Time: math.MinInt}}
	for what, d := range rightDisks() {
		for _, o := range syncs {
			got, code := impl.Put(d, o)
			if code != impl.FsOk || !sameDisk(got, impl.Disk{Safe: impl.Live(d)}) || !impl.DiskOk(got) {
				t.Errorf("synced (%s), %d: %s", what, code, textOfDisk(got))
			}
			checkPut(t, mustModel(t, d), o)
			for _, k := range []int{-1, 0, 1, 300} {
				if cut := impl.Cut(got, k); !sameDisk(cut, got) {
					t.Errorf("what was synced (%s) is lost at %d: %s", what, k, textOfDisk(cut))
				}
			}
		}
	}
}

func TestPutUpToTheLimit(t *testing.T) {
	last := impl.Op{Kind: impl.OpMode, Path: "/b", Mode: 77}
	for count := maxWait - 2; count <= maxWait; count++ {
		d, code := waitingDisk(count), impl.FsOk
		if count == maxWait {
			code = impl.FsFull
		}
		// Each kind of op but a sync, all of which the tree would take.
		ops := []impl.Op{last, {Kind: impl.OpMake, Path: "/c"}, {Kind: impl.OpNew, Path: "/c"}, {Kind: impl.OpAdd, Path: "/b", Data: "x"}, {Kind: impl.OpAdd, Path: "/b"}, {Kind: impl.OpCut, Path: "/b"}, {Kind: impl.OpMove, Path: "/b", To: "/c"}, {Kind: impl.OpDrop, Path: "/b"}, {Kind: impl.OpTouch, Path: "/b"}}
		for _, o := range ops {
			got, gotCode := impl.Put(d, o)
			if gotCode != code || len(got.Wait) != min(count+1, maxWait) || !impl.DiskOk(got) {
				t.Errorf("%s told %d, want %d, with %d that wait: %s", textOfOp(o), gotCode, code, count, textOfDisk(got))
			}
			checkPut(t, mustModel(t, d), o)
		}
	}
	full := mustModel(t, waitingDisk(maxWait))
	m := checkPutAll(t, full, []refusal{{last, impl.FsFull}, {impl.Op{Kind: impl.OpSync, Path: "none"}, impl.FsOk}, {last, impl.FsOk}, {impl.Op{Kind: impl.OpSync}, impl.FsOk}})
	if len(m.wait) != 0 || m.behind[0].Nodes[8].Mode != 77 {
		t.Error("behind the sync of a full one:", textOfDisk(m.disk()))
	}
	// The zero disk, and one with too many, aren't full but bad.
	for _, d := range []impl.Disk{{}, waitingDisk(maxWait + 1)} {
		if got, code := impl.Put(d, last); code != impl.FsBad || !isZeroDisk(got) {
			t.Errorf("put to no disk: %d, %s", code, textOfDisk(got))
		}
	}
}

// refusalsByKind are ops of each kind that can be refused, by what any number of modes of /b make of sampleTree: for each kind each code that Do has for it there.
func refusalsByKind() []refusal {
	long := strings.Repeat("x", 3001)
	return []refusal{
		{impl.Op{Kind: impl.OpMake, Path: "/"}, impl.FsBad}, {impl.Op{Kind: impl.OpMake, Path: "/c", Mode: 512}, impl.FsBad}, {impl.Op{Kind: impl.OpMake, Path: "/c", Time: -1}, impl.FsBad},
		{impl.Op{Kind: impl.OpMake, Path: "/b"}, impl.FsThere}, {impl.Op{Kind: impl.OpMake, Path: "/a"}, impl.FsThere}, {impl.Op{Kind: impl.OpMake, Path: "/no/c"}, impl.FsNone}, {impl.Op{Kind: impl.OpMake, Path: "/b/c"}, impl.FsNone},
		{impl.Op{Kind: impl.OpNew, Path: "c"}, impl.FsBad}, {impl.Op{Kind: impl.OpNew, Path: "/c", Mode: -1}, impl.FsBad}, {impl.Op{Kind: impl.OpNew, Path: "/c", Time: lastTime + 1}, impl.FsBad},
		{impl.Op{Kind: impl.OpNew, Path: "/b"}, impl.FsThere}, {impl.Op{Kind: impl.OpNew, Path: "/a/b"}, impl.FsThere}, {impl.Op{Kind: impl.OpNew, Path: "/no/c"}, impl.FsNone}, {impl.Op{Kind: impl.OpNew, Path: "/a/x/c"}, impl.FsNone},
		{impl.Op{Kind: impl.OpAdd, Data: "x"}, impl.FsBad}, {impl.Op{Kind: impl.OpAdd, Path: "/b", Time: -1}, impl.FsBad}, {impl.Op{Kind: impl.OpAdd, Path: "/c", Data: "x"}, impl.FsNone}, {impl.Op{Kind: impl.OpAdd, Path: "/a", Data: long}, impl.FsKind}, {impl.Op{Kind: impl.OpAdd, Path: "/b", Data: long}, impl.FsFull},
		{impl.Op{Kind: impl.OpCut, Path: "/b/"}, impl.FsBad}, {impl.Op{Kind: impl.OpCut, Path: "/b", Time: -1}, impl.FsBad}, {impl.Op{Kind: impl.OpCut, Path: "/c"}, impl.FsNone}, {impl.Op{Kind: impl.OpCut, Path: "/e"}, impl.FsKind},
		{impl.Op{Kind: impl.OpMove, Path: "/b", To: "c"}, impl.FsBad}, {impl.Op{Kind: impl.OpMove, Path: "/b", To: "/b"}, impl.FsBad}, {impl.Op{Kind: impl.OpMove, Path: "/a", To: "/a/b/d"}, impl.FsBad}, {impl.Op{Kind: impl.OpMove, Path: "/c", To: "/d"}, impl.FsNone},
		{impl.Op{Kind: impl.OpMove, Path: "/b", To: "/e"}, impl.FsKind}, {impl.Op{Kind: impl.OpMove, Path: "/e", To: "/b"}, impl.FsKind}, {impl.Op{Kind: impl.OpMove, Path: "/b", To: "/no/c"}, impl.FsNone}, {impl.Op{Kind: impl.OpMove, Path: "/e", To: "/b/c"}, impl.FsNone},
		{impl.Op{Kind: impl.OpDrop, Path: "/"}, impl.FsBad}, {impl.Op{Kind: impl.OpDrop, Path: "/c"}, impl.FsNone}, {impl.Op{Kind: impl.OpDrop, Path: "/a"}, impl.FsBusy}, {impl.Op{Kind: impl.OpDrop, Path: "/a/b"}, impl.FsBusy},
		{impl.Op{Kind: impl.OpMode, Path: "b"}, impl.FsBad}, {impl.Op{Kind: impl.OpMode, Path: "/b", Mode: 512}, impl.FsBad}, {impl.Op{Kind: impl.OpMode, Path: "/c"}, impl.FsNone},
		{impl.Op{Kind: impl.OpTouch, Path: "/.."}, impl.FsBad}, {impl.Op{Kind: impl.OpTouch, Path: "/b", Time: -1}, impl.FsBad}, {impl.Op{Kind: impl.OpTouch, Path: "/c"}, impl.FsNone},
		{impl.Op{Kind: -1, Path: "/b"}, impl.FsBad}, {impl.Op{Kind: 9, Path: "/b"}, impl.FsBad}, {impl.Op{Kind: math.MaxInt, Path: "/c"}, impl.FsBad}, {impl.Op{Kind: math.MinInt}, impl.FsBad},
	}
}

// What Do refuses isn't to stand in Wait: its code is told, whether there is room or not, and the disk stays as it was.
func TestPutOfWhatIsRefusedWhereWaitIsFull(t *testing.T) {
	for _, count := range []int{0, 1, maxWait - 1, maxWait} {
		d := waitingDisk(count)
		for _, r := range slices.Concat(refusalsByKind(), refusedOps()) {
			got, code := impl.Put(d, r.o)
			if code != r.code || !sameDisk(got, d) {
				t.Errorf("%s told %d, want %d, with %d that wait: %s", textOfOp(r.o), code, r.code, count, textOfDisk(got))
			}
			if _, doCode := impl.Do(impl.Live(d), r.o); doCode != r.code {
				t.Errorf("%s done to what is live told %d, want %d", textOfOp(r.o), doCode, r.code)
			}
			checkPut(t, mustModel(t, d), r.o)
		}
	}
}

// Where Wait is full, and the tree has no room either, what Do names ahead of its own FsFull is told.
func TestPutWhereWaitAndTreeAreFull(t *testing.T) {
	noIds := sampleTree()
	noIds.Next = 1000000
	news := func(path string, code int) []refusal {
		return []refusal{{impl.Op{Kind: impl.OpMake, Path: path}, code}, {impl.Op{Kind: impl.OpNew, Path: path}, code}}
	}
	full := treeOf(folder("/a"), file("/b", strings.Repeat("x", 3000)))
	rows := []struct {
		tree impl.Tree
		path string
		list []refusal
	}{
		{filledTree(60), "/f01", slices.Concat(news("/f02", impl.FsThere), news("/a", impl.FsThere), news("/no/c", impl.FsNone), news("/c", impl.FsFull), news("/a/c", impl.FsFull), news("c", impl.FsBad))},
		{noIds, "/b", slices.Concat(news("/b", impl.FsThere), news("/b/c", impl.FsNone), news("/c", impl.FsFull), news("/", impl.FsBad))},
		{full, "/b", []refusal{{impl.Op{Kind: impl.OpAdd, Path: "/b", Data: "x"}, impl.FsFull}, {impl.Op{Kind: impl.OpAdd, Path: "/a", Data: "x"}, impl.FsKind}, {impl.Op{Kind: impl.OpAdd, Path: "/c", Data: "x"}, impl.FsNone}}},
		// A folder with so much under it that a move would leave no paths.
		{deepTree(), "/z", []refusal{{impl.Op{Kind: impl.OpMove, Path: "/a", To: "/1/2/3/4/a"}, impl.FsBad}, {impl.Op{Kind: impl.OpMove, Path: "/a", To: "/z"}, impl.FsKind}, {impl.Op{Kind: impl.OpMove, Path: "/1", To: "/no/1"}, impl.FsNone}}},
	}
	for _, r := range rows {
		for _, count := range []int{maxWait - 1, maxWait} {
			checkPutAll(t, mustModel(t, filledUp(impl.Disk{Safe: r.tree}, r.path, count)), r.list)
		}
	}
}

// What is live tells the code, not what is safe, also where Wait is full.
func TestPutWhereWaitIsFullAsksWhatIsLive(t *testing.T) {
	for _, count := range []int{maxWait - 1, maxWait} {
		code := impl.FsOk
		if count == maxWait {
			code = impl.FsFull
		}
		m := mustModel(t, filledUp(impl.Disk{Safe: sampleTree(), Wait: goodOps()}, "/b", count))
		for _, r := range []refusal{
			{impl.Op{Kind: impl.OpNew, Path: "/c"}, impl.FsThere}, {impl.Op{Kind: impl.OpMake, Path: "/a/d"}, impl.FsNone}, {impl.Op{Kind: impl.OpAdd, Path: "/c", Data: "x"}, impl.FsKind}, {impl.Op{Kind: impl.OpDrop, Path: "/c"}, impl.FsBusy}, {impl.Op{Kind: impl.OpTouch, Path: "/e"}, impl.FsNone},
			{impl.Op{Kind: impl.OpMake, Path: "/e"}, code}, {impl.Op{Kind: impl.OpNew, Path: "/c/d"}, code}, {impl.Op{Kind: impl.OpMode, Path: "/c"}, code}, {impl.Op{Kind: impl.OpDrop, Path: "/c/a/x"}, code}, {impl.Op{Kind: impl.OpSync}, impl.FsOk},
		} {
			if _, got := impl.Put(m.disk(), r.o); got != r.code {
				t.Errorf("%s told %d, want %d, with %d that wait", textOfOp(r.o), got, r.code, count)
			}
			checkPut(t, m, r.o)
		}
	}
}

func TestEveryOpPutToDisks(t *testing.T) {
	ops := everyOp([]string{"/a", "/a/b", "/a/b/c", "/b", "/c", "/c/a", "/e", "/no/a", "/", ""})
	disks := []impl.Disk{waitingDisk(maxWait - 1), waitingDisk(maxWait)}
	for many := range len(goodOps()) + 1 {
		disks = append(disks, impl.Disk{Safe: sampleTree(), Wait: goodOps()[:many]})
	}
	for _, d := range disks {
		m := mustModel(t, d)
		for _, o := range ops {
			checkPut(t, m, o)
		}
	}
}

func TestManyOpsPut(t *testing.T) {
	told := map[int]int{}
	synced, most := 0, 0
	for seed := range 30 {
		random := rand.New(rand.NewSource(int64(seed)))
		m := mustModel(t, impl.NewDisk(impl.Tree{Next: 1}))
		for step := range 200 {
			o := randomOp(random)
			if o.Kind == impl.OpSync && random.Intn(4) > 0 {
				continue
			}
			_, code := m.put(o)
			told[code]++
			if o.Kind == impl.OpSync && len(m.wait) > 0 {
				synced++
			}
			m = checkPut(t, m, o)
			most = max(most, len(m.wait))
			if step%20 == 19 {
				checkDisk(t, m.disk())
			}
			// A power cut in between: the walk goes on from what it left.
			if random.Intn(80) == 0 {
				m = mustModel(t, impl.Cut(m.disk(), random.Intn(len(m.wait)+2)-1))
			}
		}
	}
	for _, code := range []int{impl.FsOk, impl.FsBad, impl.FsNone, impl.FsThere, impl.FsKind, impl.FsBusy} {
		if told[code] == 0 {
			t.Errorf("code %d was never told", code)
		}
	}
	if synced < 50 || most < 20 {
		t.Errorf("%d syncs, and %d ops at most waited", synced, most)
	}
}

// A walk without a sync, till there is no room, and on.
func TestPutTillThereIsNoRoom(t *testing.T) {
	random := rand.New(rand.NewSource(1000))
	m := mustModel(t, impl.NewDisk(sampleTree()))
	told := map[int]int{}
	for refused := 0; refused < 300; {
		o := randomOp(random)
		if o.Kind == impl.OpSync {
			continue
		}
		if len(m.wait) == maxWait {
			_, code := impl.Put(m.disk(), o)
			told[code]++
			refused++
		}
		m = checkPut(t, m, o)
	}
	for _, code := range []int{impl.FsBad, impl.FsNone, impl.FsThere, impl.FsKind, impl.FsFull, impl.FsBusy} {
		if told[code] == 0 {
			t.Errorf("code %d was never told without room", code)
		}
	}
	if told[impl.FsOk] > 0 {
		t.Errorf("%d ops were put without room", told[impl.FsOk])
	}
	checkDisk(t, m.disk())
	checkPut(t, m, impl.Op{Kind: impl.OpSync})
}

// Two disks that come of one are apart: what is put to one of them leaves the other one as it was.
func TestDisksThatComeOfOneAreApart(t *testing.T) {
	d := impl.NewDisk(sampleTree())
	for i, o := range goodOps() {
		before := cloneDisk(d)
		first, _ := impl.Put(d, impl.Op{Kind: impl.OpMode, Path: "/b", Mode: 1})
		kept := cloneDisk(first)
		second, _ := impl.Put(d, impl.Op{Kind: impl.OpTouch, Path: "/b", Time: 2})
		refused, _ := impl.Put(d, impl.Op{Kind: impl.OpDrop, Path: "/no"})
		spoilDisk(second)
		spoilDisk(refused)
		spoilDisk(impl.Cut(d, i))
		spoil(impl.Live(d))
		if !sameDisk(first, kept) || !sameDisk(d, before) {
			t.Fatalf("disks behind op %d share memory:\n%s", i, textOfDisk(first))
		}
		d, _ = impl.Put(d, o)
	}
}

func TestDisksAtOnce(t *testing.T) {
	d := impl.Disk{Safe: sampleTree(), Wait: goodOps()}
	held := holdDisk(d)
	m := mustModel(t, d)
	var group sync.WaitGroup
	for range 8 {
		group.Go(func() {
			for _, o := range everyOp([]string{"/a", "/b", "/c/a"}) {
				got, code := impl.Put(held.disk, o)
				if want, wantCode := m.put(o); code != wantCode || !sameDisk(got, want.disk()) {
					t.Errorf("%s told %d", textOfOp(o), code)
				}
			}
			for k := range len(d.Wait) + 1 {
				if got := impl.Cut(held.disk, k); !sameDisk(got, m.cut(k)) {
					t.Errorf("Cut at %d left %s", k, textOfDisk(got))
				}
			}
		})
	}
	group.Wait()
	if !held.isAsItWas() {
		t.Error("the disk was written into")
	}
}
