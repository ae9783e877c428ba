package tests

import (
	"fmt"
	"math"
	"runtime"
	"slices"
	"strings"
	"sync"
	"testing"

	"loop.example/changetrail/impl"
)

// plant is a system told in another way than the program does: its disk block by block, what its store has, and the story of its state.
type plant struct {
	disk  impl.Disk
	store impl.Store
	story story
	up    bool
}

// plantAt is a plant that has a checkpoint of a number, and nothing in its log. The first one is a new system.
func plantAt(gen int, p story) plant {
	d, _ := p.desk()
	store := storeOf(gen, d.write())
	return plant{disk: diskOf(store), store: store, story: p, up: true}
}

// sys is a plant as the program has it.
func (p plant) sys() impl.Sys {
	if !p.up {
		return impl.Sys{Disk: p.disk}
	}
	return impl.Sys{Disk: p.disk, Store: p.store, State: p.story.state(), Up: true}
}

// opened is a plant of which power came back.
func (p plant) opened() plant {
	p.up = true
	return p
}

// room is how many pages a story leaves.
func (p story) room() int {
	for _, k := range p.texts() {
		if len(k[1]) > 3000 {
			return -1
		}
	}
	return 96 - p.need()
}

// written is a disk with blocks that were written.
func written(d impl.Disk, list []impl.Raw) impl.Disk {
	blocks := map[int]string{}
	for _, w := range list {
		blocks[w.At] = w.Data
	}
	return with(d, blocks)
}

// ahead is what is written ahead of a group, as there is no room for it, and the store then; false, if that cannot be.
func (p plant) ahead(group string) ([]impl.Raw, impl.Store, bool) {
	if p.store.Next+plainBlocks(group) <= 12 {
		return nil, p.store, true
	}
	d, fits := p.story.desk()
	if !fits || p.store.Gen == 99999 {
		return nil, impl.Store{}, false
	}
	text := d.write()
	return plainSave(p.store.Gen+1, text), storeOf(p.store.Gen+1, text), true
}

// told is the story behind what is written, the group that tells it, and the code.
func (p plant) told(e impl.SysEvent) (story, string, int) {
	switch {
	case !p.up:
		return p.story, "", 12
	case e.Kind == impl.SysCalls:
		group, _ := plainCall(e.Call)
		next, code := p.story.do(e.Call)
		return next, group, code
	case e.Kind == impl.SysCommits:
		next, code := p.story.commit()
		if code != 0 {
			return p.story, "", 13
		}
		return next, "commit", 0
	}
	return p.story, "", 14
}

// writes is all that is written, how many of it for the checkpoint, and the store then; false, if that cannot be.
func (p plant) writes(group string) ([]impl.Raw, int, impl.Store, bool) {
	saved, at, ok := p.ahead(group)
	if !ok {
		return nil, 0, impl.Store{}, false
	}
	return append(saved, plainAppend(at, group)...), len(saved), storeOf(at.Gen, at.Text, append(slices.Clone(at.Groups), group)...), true
}

// do is a plant behind what happens, and the code.
func (p plant) do(e impl.SysEvent) (plant, int) {
	if e.Kind == impl.SysOpens {
		return p.opened(), 0
	}
	next, group, code := p.told(e)
	if code != 0 {
		return p, code
	}
	list, saved, store, ok := p.writes(group)
	if !ok || next.room() < 0 {
		return p, 9
	}
	if e.Cut >= 0 && e.Cut < len(list) {
		p.disk, p.up = written(p.disk, list[:e.Cut]), false
		if saved > 0 && e.Cut >= saved {
			_, p.store, _ = p.ahead(group)
		}
		return p, 10
	}
	return plant{disk: written(p.disk, list), store: store, story: next, up: true}, 0
}

// logged is a plant behind what happens, also if its state would not fit.
func (p plant) logged(t *testing.T, e impl.SysEvent) plant {
	t.Helper()
	next, group, code := p.told(e)
	list, _, store, ok := p.writes(group)
	if code != 0 || !ok {
		t.Fatalf("%+v: the model has the code %d, %v", e, code, ok)
	}
	return plant{disk: written(p.disk, list), store: store, story: next, up: true}
}

func calling(c impl.Call) impl.SysEvent {
	return impl.SysEvent{Kind: impl.SysCalls, Call: c, Cut: -1}
}

func committing() impl.SysEvent {
	return impl.SysEvent{Kind: impl.SysCommits, Cut: -1}
}

func opening() impl.SysEvent {
	return impl.SysEvent{Kind: impl.SysOpens, Cut: -1}
}

func cutAt(cut int, e impl.SysEvent) impl.SysEvent {
	e.Cut = cut
	return e
}

func sameSys(a, b impl.Sys) bool {
	return a.Up == b.Up && sameDisk(a.Disk, b.Disk) && sameStore(a.Store, b.Store) && sameState(a.State, b.State)
}

func noSys(s impl.Sys) bool {
	return sameSys(s, impl.Sys{})
}

// brief is a system as far as it can be told in a line.
func brief(s impl.Sys) string {
	return fmt.Sprintf("up %v, gen %d, groups %q, next %d, trail %v, nodes %v, layers %q", s.Up, s.Store.Gen, s.Store.Groups, s.Store.Next, s.State.Trail, s.State.Nodes, s.State.Layers)
}

// checkSys asks for a system that is that of a plant, and for what its disk opens as.
func checkSys(t *testing.T, what string, s impl.Sys, p plant) {
	t.Helper()
	if !sameSys(s, p.sys()) {
		t.Errorf("%s: %s, not %s; %s", what, brief(s), brief(p.sys()), unlike(s.Disk, p.disk))
	}
	if !impl.SysOk(s) {
		t.Errorf("%s: %s is not ok", what, brief(s))
	}
	open, ok := impl.SysOpen(s.Disk)
	if !ok || !sameSys(open, p.opened().sys()) {
		t.Errorf("%s: opened %v as %s, not %s", what, ok, brief(open), brief(p.opened().sys()))
	}
	again, ok := impl.SysOpen(open.Disk)
	if !ok || !sameSys(again, open) || !sameDisk(open.Disk, s.Disk) {
		t.Errorf("%s: opened again %v as %s", what, ok, brief(again))
	}
	if room := impl.SysRoom(open.State); room != p.story.room() {
		t.Errorf("%s: %d pages are left, not %d", what, room, p.story.room())
	}
	if _, code := impl.StateSave(open.State); (code == 0) != (p.story.room() >= 0) {
		t.Errorf("%s: StateSave has the code %d, and %d pages are left", what, code, p.story.room())
	}
	if safe := impl.SysSafe(s); safe != (p.story.room() >= 0) {
		t.Errorf("%s: safe %v, and %d pages are left", what, safe, p.story.room())
	}
}

// happen lets something happen, and asks for what the plant says.
func happen(t *testing.T, what string, s impl.Sys, p plant, e impl.SysEvent, want int) (impl.Sys, plant) {
	t.Helper()
	next, code := p.do(e)
	if code != want {
		t.Fatalf("%s: %+v: the model has the code %d, not %d", what, e, code, want)
	}
	got, code := impl.SysDo(s, e)
	if code != want {
		t.Errorf("%s: %+v: code %d, not %d", what, e, code, want)
	}
	if code != 0 && code != 10 && !sameSys(got, s) {
		t.Errorf("%s: %+v: code %d changed %s to %s", what, e, code, brief(s), brief(got))
	}
	checkSys(t, what, got, next)
	return got, next
}

// startAt is the system of a plant, which is asked for all that a system is asked for.
func startAt(t *testing.T, what string, p plant) (impl.Sys, plant) {
	t.Helper()
	s, ok := impl.SysOpen(p.disk)
	if !ok {
		t.Fatalf("%s: not opened", what)
	}
	checkSys(t, what, s, p)
	return s, p
}

// newSys is a new system.
func newSys(t *testing.T, what string, m model) (impl.Sys, plant) {
	t.Helper()
	s, ok := impl.SysNew(m.tree(""))
	if !ok {
		t.Fatalf("%s: refused", what)
	}
	checkSys(t, what, s, plantAt(1, storyOf(m)))
	return s, plantAt(1, storyOf(m))
}

// happenAll lets things happen one by one, none of them with a code.
func happenAll(t *testing.T, what string, s impl.Sys, p plant, list ...impl.SysEvent) (impl.Sys, plant) {
	t.Helper()
	for _, e := range list {
		s, p = happen(t, what, s, p, e, 0)
	}
	return s, p
}

// someSys has been behind a checkpoint, and has groups, a layer, and something over what is sealed.
func someSys(t *testing.T) (impl.Sys, plant) {
	t.Helper()
	s, p := newSys(t, "some", modelOf(example()))
	for _, c := range exampleCalls() {
		s, p = happen(t, "some", s, p, calling(c), 0)
	}
	s, p = happen(t, "some", s, p, committing(), 0)
	for _, c := range []impl.Call{writing("/n", 0, "x"), renaming("/c/f", "/f"), call(chmod, "/a/b", 3), call(remove, "/f/e", 0)} {
		s, p = happen(t, "some", s, p, calling(c), 0)
	}
	if s.Store.Gen != 2 || len(s.Store.Groups) != 4 || len(s.State.Layers) != 1 || len(s.State.Upper.Gone) == 0 || len(s.State.Upper.Puts) == 0 {
		t.Fatal(brief(s))
	}
	return s, p
}

// P58: a new system is as its tree, with nothing over it.
func TestNewSystems(t *testing.T) {
	files := dir(7)
	for i := range 27 {
		files.Names = append(files.Names, fmt.Sprintf("f%04d", i))
		files.Kids = append(files.Kids, file(7, strings.Repeat("\xff", 24)))
	}
	most := dir(7, named{"abcde", dir(7, named{"abcde", dir(7, named{"abcde", files})})})
	trees := okTrees()
	trees["the example"] = example()
	trees["as much as a tree can be"] = most
	for what, x := range trees {
		s, p := newSys(t, what, modelOf(x))
		seen, ok := impl.SysSee(s)
		sealed, is := impl.SysSealed(s)
		if !s.Up || s.Store.Gen != 1 || len(s.Store.Groups) != 0 || !ok || !is || !same(seen, modelOf(x).tree("")) || !same(sealed, seen) || !noUpper(s.State.Upper) || len(s.State.Trail) != 0 || len(s.State.Layers) != 0 || !impl.SysSafe(s) {
			t.Errorf("%s: %s", what, brief(s))
		}
		_, code := impl.StateSave(s.State)
		if code != 0 || p.story.room() < 0 {
			t.Errorf("%s: it does not fit", what)
		}
	}
	// Of all that there can be in a tree there is room for, so that no tree that is ok does not fit.
	if room := storyOf(modelOf(most)).room(); impl.TreeCount(most) != 30 || room < 10 || room > 30 {
		t.Errorf("%d parts, %d pages are left", impl.TreeCount(most), room)
	}
	for what, x := range badTrees() {
		if s, ok := impl.SysNew(x); ok || !noSys(s) {
			t.Errorf("%s: %s", what, brief(s))
		}
	}
}

// What stands on the disk, by hand.
func TestExampleDisk(t *testing.T) {
	s, p := newSys(t, "the example", modelOf(dir(0)))
	s, p = happenAll(t, "the example", s, p, calling(writing("/a", 0, "hi")), calling(call(mkdir, "/d", 5)), committing())
	first := "first 8\ndir / 0\n\nnodes 7\nnext 1\n\ntrail 0\n\nupper 0\n\nend\n"
	want := with(blank(), map[int]string{1: fmt.Sprint("C 1 ", len(first)), 104: first, 2: "H 1 0 15", 3: "Dwrite /a 0 6869", 4: "H 1 1 10", 5: "Dmkdir /d 5", 6: "H 1 2 6", 7: "Dcommit"})
	if !sameDisk(s.Disk, want) {
		t.Error(unlike(s.Disk, want))
	}
	s, p = happenAll(t, "the example", s, p, calling(renaming("/a", "/d/b")), calling(call(chmod, "/d", 1)), calling(call(truncate, "/d/b", 3)))
	// Power fails behind the checkpoint that comes ahead of the group: it stands, and the log is what it was.
	save := "first 8\ndir / 0\n\nlay0 27\nnew /a 0 6869\nnewdir /d 5\n" + "\nnodes 19\nnext 3\n2 /d\n1 /d/b\n\ntrail 22\nat /a\nat /d\nat /d/b\n" + "\nupper 44\nhide /a\ndir /d 1\nfile /d/b 0 686900\n"
	save = strings.Replace(save, "lay0 27", fmt.Sprint("lay0 ", len("new /a 0 6869\nnewdir /d 5\n")), 1)
	save = strings.Replace(save, "nodes 19", fmt.Sprint("nodes ", len("next 3\n2 /d\n1 /d/b\n")), 1)
	save = strings.Replace(save, "trail 22", fmt.Sprint("trail ", len("at /a\nat /d\nat /d/b\n")), 1)
	save = strings.Replace(save, "upper 44", fmt.Sprint("upper ", len("hide /a\ndir /d 1\nfile /d/b 0 686900\n")), 1) + "\nend\n"
	if d, _ := p.story.desk(); d.write() != save {
		t.Fatalf("the model writes %q", d.write())
	}
	pieces := (len(save) + 63) / 64
	want = with(s.Disk, map[int]string{0: fmt.Sprint("C 2 ", len(save))})
	for i := range pieces {
		want.Blocks[14+i] = save[64*i : min(64*i+64, len(save))]
	}
	down, _ := happen(t, "behind the checkpoint", s, p, cutAt(pieces+1, calling(call(remove, "/d/b", 0))), 10)
	if !sameDisk(down.Disk, want) {
		t.Error(unlike(down.Disk, want))
	}
	s, _ = happenAll(t, "the example", s, p, calling(call(remove, "/d/b", 0)))
	want = with(want, map[int]string{2: "H 2 0 11", 3: "Dremove /d/b"})
	if !sameDisk(s.Disk, want) {
		t.Error(unlike(s.Disk, want))
	}
}

// checkPower lets power fail behind each write of what happens (P48), and tells how many of these there are, and how many of them are of a checkpoint.
func checkPower(t *testing.T, what string, s impl.Sys, p plant, e impl.SysEvent) (int, int) {
	t.Helper()
	_, group, code := p.told(e)
	list, saved, _, ok := p.writes(group)
	if code != 0 || !ok {
		t.Fatalf("%s: %+v: the model has the code %d, %v", what, e, code, ok)
	}
	after, _ := happen(t, what, s, p, cutAt(-1, e), 0)
	for cut := range list {
		which := fmt.Sprintf("%s: %+v, cut %d of %d", what, e, cut, len(list))
		down, q := happen(t, which, s, p, cutAt(cut, e), 10)
		open, ok := impl.SysOpen(down.Disk)
		if !ok || !sameState(open.State, s.State) || down.Up || !noStore(down.Store) || !noState(down.State) || !impl.SysSafe(down) {
			t.Errorf("%s: opened %v as %s, and it was %s", which, ok, brief(open), brief(s))
		}
		if (open.Store.Gen == s.Store.Gen) != (saved == 0 || cut < saved) {
			t.Errorf("%s: opened as the checkpoint %d, which was %d", which, open.Store.Gen, s.Store.Gen)
		}
		// What was not done is done now, and the system is as far as it would have been.
		open, q = happen(t, which, down, q, opening(), 0)
		open, _ = happen(t, which, open, q, cutAt(-1, e), 0)
		if !sameState(open.State, after.State) {
			t.Errorf("%s: opened and done again %s, not %s", which, brief(open), brief(after))
		}
	}
	for _, cut := range []int{len(list), len(list) + 1, 99999, math.MaxInt, -2, math.MinInt} {
		whole, _ := happen(t, fmt.Sprint(what, ", cut ", cut), s, p, cutAt(cut, e), 0)
		if !sameSys(whole, after) {
			t.Errorf("%s: %+v, cut %d: %s, not %s", what, e, cut, brief(whole), brief(after))
		}
	}
	return len(list), saved
}

func TestPowerFails(t *testing.T) {
	s, p := newSys(t, "the example", modelOf(example()))
	long := renaming("/d/e", "/abcde/09az0/abcde/zzzzz")
	events := []impl.SysEvent{
		calling(writing("/a/b", 2, "!")), calling(call(remove, "/c", 0)), calling(call(mkdir, "/abcde", 7)), calling(call(mkdir, "/abcde/09az0", 7)), calling(call(mkdir, "/abcde/09az0/abcde", 7)), committing(),
		calling(long), calling(writing("/abcde/09az0/abcde/zzzzz", 0, strings.Repeat("\xff", 24))), calling(call(chmod, "/a", 4)), committing(), committing(), calling(renaming("/abcde", "/zz")), calling(call(truncate, "/a/b", 0)), calling(call(chmod, "/zz", 1)),
	}
	ahead, behind := 0, 0
	for i, e := range events {
		all, saved := checkPower(t, fmt.Sprint("event ", i), s, p, e)
		if saved > 0 {
			ahead++
		}
		behind = max(behind, all-saved)
		s, p = happen(t, "on", s, p, e, 0)
	}
	// There were two checkpoints at least, and groups of two pieces.
	if ahead < 2 || behind < 3 || s.Store.Gen != 1+ahead {
		t.Errorf("%d checkpoints, %d writes of a group: %s", ahead, behind, brief(s))
	}
}

// A log is full just so, or with a block that is left: the next group goes behind a checkpoint (P65).
func TestFullLogOfSystem(t *testing.T) {
	s, p := newSys(t, "full", modelOf(example()))
	for i := range 6 {
		s, p = happenAll(t, "full", s, p, calling(call(chmod, "/a", i%5)))
	}
	if s.Store.Next != 12 || s.Store.Gen != 1 {
		t.Fatal(brief(s))
	}
	all, saved := checkPower(t, "full", s, p, calling(call(chmod, "/a", 7)))
	if saved < 3 || all != saved+2 {
		t.Errorf("%d writes, %d for the checkpoint", all, saved)
	}
	checkPower(t, "full, a commit", s, p, committing())
	checkPower(t, "full, a long call", s, p, calling(writing("/a/b", 0, strings.Repeat("x", 24))))
	next, q := happen(t, "full", s, p, calling(call(chmod, "/a", 7)), 0)
	if next.Store.Gen != 2 || next.Store.Next != 2 || !slices.Equal(next.Store.Groups, []string{"chmod /a 7"}) {
		t.Errorf("%s", brief(next))
	}
	// Power fails behind the checkpoint: the next group has the whole log.
	down, q := happen(t, "behind the checkpoint", s, p, cutAt(saved, calling(call(chmod, "/a", 7))), 10)
	open, q := happen(t, "behind the checkpoint", down, q, opening(), 0)
	if open.Store.Gen != 2 || open.Store.Next != 0 || len(open.Store.Groups) != 0 || !sameState(open.State, s.State) {
		t.Errorf("%s", brief(open))
	}
	for i := range 6 {
		open, q = happen(t, "behind the checkpoint", open, q, calling(call(chmod, "/a", i)), 0)
	}
	if open.Store.Gen != 2 || open.Store.Next != 12 {
		t.Errorf("%s", brief(open))
	}
	// Two blocks are left, and three are needed.
	s, p = newSys(t, "two left", modelOf(example()))
	for i := range 5 {
		s, p = happenAll(t, "two left", s, p, calling(call(chmod, "/a", i)))
	}
	two, three := calling(call(chmod, "/a", 7)), calling(writing("/a/abcde", 0, strings.Repeat("x", 24)))
	if all, saved := checkPower(t, "two left, two needed", s, p, two); all != 2 || saved != 0 {
		t.Errorf("%d writes, %d for the checkpoint", all, saved)
	}
	if all, saved := checkPower(t, "two left, three needed", s, p, three); all != saved+3 || saved == 0 {
		t.Errorf("%d writes, %d for the checkpoint", all, saved)
	}
}

// A checkpoint that is cut leaves blocks in its area, and a group in the log: they do no harm to what comes then.
func TestCutAndGoneOn(t *testing.T) {
	s, p := newSys(t, "cut", modelOf(example()))
	for i := range 40 {
		e := calling(writing(fmt.Sprint("/a/f", i%7), i%20, strings.Repeat("x", i%4)))
		if i%9 == 8 {
			e = calling(renaming(fmt.Sprint("/a/f", i%7), "/a/g"))
		}
		if i%9 == 0 && i > 0 {
			e = calling(call(remove, "/a/g", 0))
		}
		if _, code := p.do(e); code != 0 {
			continue
		}
		for k := range 3 {
			_, group, _ := p.told(e)
			list, _, _, _ := p.writes(group)
			s, p = happen(t, "cut", s, p, cutAt([]int{len(list) - 1, i % len(list), 0}[k], e), 10)
			s, p = happen(t, "cut", s, p, opening(), 0)
		}
		s, p = happen(t, "and done", s, p, e, 0)
	}
	if s.Store.Gen < 5 {
		t.Error(brief(s))
	}
}

// P65, at the last checkpoint: the log is filled up to its end, and then nothing can be written.
func TestLastCheckpoint(t *testing.T) {
	s, p := startAt(t, "the last but one", plantAt(99998, storyOf(modelOf(example()))))
	for i := range 12 {
		s, p = happenAll(t, "up to the last", s, p, calling(call(chmod, "/a", i%5)))
	}
	if s.Store.Gen != 99999 || s.Store.Next != 12 {
		t.Fatal(brief(s))
	}
	for _, cut := range []int{-1, 0, 1, 99} {
		happen(t, "no more", s, p, cutAt(cut, calling(call(chmod, "/a", 7))), 9)
		happen(t, "no more", s, p, cutAt(cut, committing()), 9)
		happen(t, "a code ahead", s, p, cutAt(cut, calling(call(remove, "/zz", 0))), 3)
	}
	s, p = happen(t, "opened", s, p, opening(), 0)
	happen(t, "no more", s, p, calling(call(chmod, "/a", 7)), 9)
	// There is room for a group of two blocks, but none for one of three.
	s, p = startAt(t, "the last", plantAt(99999, storyOf(modelOf(example()))))
	for i := range 5 {
		s, p = happenAll(t, "the last", s, p, calling(call(chmod, "/a", i)))
	}
	happen(t, "three blocks", s, p, calling(writing("/a/abcde", 0, strings.Repeat("x", 24))), 9)
	happenAll(t, "two blocks", s, p, committing())
}

func TestMostLayers(t *testing.T) {
	s, p := newSys(t, "layers", modelOf(example()))
	for i := range 6 {
		if i%2 == 0 {
			s, p = happenAll(t, "layers", s, p, calling(call(chmod, "/a", i)))
		}
		sealed, _ := impl.SysSealed(s)
		s, p = happen(t, "layers", s, p, committing(), 0)
		now, _ := impl.SysSealed(s)
		// P69.
		if layer := impl.LayerWrite(impl.DiffWalk(sealed, now)); len(s.State.Layers) != i+1 || s.State.Layers[i] != layer || (layer == "") != (i%2 == 1) {
			t.Errorf("layer %d: %q, not %q", i, s.State.Layers, layer)
		}
	}
	for _, cut := range []int{-1, 0, 1, 99} {
		happen(t, "one more", s, p, cutAt(cut, committing()), 13)
	}
	s, p = happenAll(t, "calls go on", s, p, calling(call(chmod, "/a", 7)), opening())
	happen(t, "one more", s, p, committing(), 13)
}

// filled is a story with layers behind its others that say nothing new, and need so many pages.
func (p story) filled(pages int) story {
	p.layers = slices.Clone(p.layers)
	for pages > 0 {
		few := min(pages, 75)
		p.layers = append(p.layers, strings.Repeat(fmt.Sprintf("mode / %d\n", p.sealed[""].mode), 40*few/9))
		pages -= few
	}
	return p
}

// leaving is a story of a directory, which leaves so many pages.
func leaving(t *testing.T, pages int) story {
	t.Helper()
	p := storyOf(modelOf(dir(0, named{"a", dir(0)})))
	p = p.filled(p.room() - pages)
	if p.room() != pages {
		t.Fatalf("%d pages are left, not %d", p.room(), pages)
	}
	return p
}

// A state that leaves no page, and one that needs one more (P51).
func TestNoPageLeft(t *testing.T) {
	// An upper and a trail of a line each have a page each.
	for pages, want := range map[int]int{0: 9, 1: 9, 2: 0, 3: 0} {
		what := fmt.Sprint(pages, " pages are left")
		s, p := startAt(t, what, plantAt(5, leaving(t, pages)))
		for _, cut := range []int{-1, 99} {
			happen(t, what, s, p, cutAt(cut, calling(call(chmod, "/a", 1))), want)
		}
		if want == 9 {
			happen(t, what, s, p, cutAt(0, calling(call(chmod, "/a", 1))), 9)
			continue
		}
		checkPower(t, what, s, p, calling(call(chmod, "/a", 1)))
		s, p = happen(t, what, s, p, calling(call(chmod, "/a", 1)), 0)
		if room := impl.SysRoom(s.State); room != pages-2 {
			t.Errorf("%s: and %d then", what, room)
		}
		s, p = happenAll(t, "no more than that", s, p, calling(call(chmod, "/a", 2)), calling(call(mkdir, "/b", 2)))
		happen(t, "what needs some, there and not elsewhere", s, p, calling(writing("/c", 0, strings.Repeat("x", 24))), map[int]int{2: 9, 3: 0}[pages])
	}
	// A commit needs a page for its layer, and gives back those of the upper and the trail.
	s, p := startAt(t, "a commit", plantAt(5, leaving(t, 0)))
	s, p = happen(t, "a commit of nothing", s, p, committing(), 0)
	if len(s.State.Layers) != 3 || impl.SysRoom(s.State) != 0 {
		t.Error(brief(s))
	}
	happen(t, "what changes nothing is marked", s, p, calling(call(chmod, "/a", 0)), 9)
	s, p = startAt(t, "a commit", plantAt(5, leaving(t, 2)))
	s, p = happenAll(t, "a commit", s, p, calling(call(chmod, "/a", 1)), committing())
	if impl.SysRoom(s.State) != 1 {
		t.Error(brief(s))
	}
}

// SysRoom is not below 0 just if StateSave has no code (P51).
func TestRoom(t *testing.T) {
	for _, k := range []struct {
		what  string
		sizes []int
		want  int
	}{
		{"no layers", nil, 94},
		{"a text as long as can be", []int{3000}, 19},
		{"a text of one byte more, though there are pages", []int{3001}, -1},
		{"a text of one byte more, the second", []int{120, 3001}, -1},
		{"a layer as long as can be", []int{6000}, -1},
		{"two texts too long", []int{6000, 6000}, -1},
		{"all pages", []int{3000, 760}, 0},
		{"all pages, the last not full", []int{3000, 721}, 0},
		{"one page less", []int{3000, 720}, 1},
		{"one byte too many", []int{3000, 761}, -1},
		{"one page too many", []int{3000, 800}, -1},
		{"two pages too many", []int{3000, 801}, -2},
		{"a text as long as can be twice", []int{3000, 3000}, -56},
		{"far too many pages", []int{3000, 3000, 3000, 3000, 3000, 3000}, -356},
		{"far too many pages, and a text too long", []int{3000, 3000, 3000, 3000, 3000, 3001}, -1},
	} {
		p := wordy(k.sizes...)
		s := p.state()
		_, code := impl.StateSave(s)
		if room := impl.SysRoom(s); room != k.want || room != p.room() || (room >= 0) != (code == 0) {
			t.Errorf("%s: %d pages, not %d, nor %d; StateSave has the code %d", k.what, room, k.want, p.room(), code)
		}
	}
	for what, s := range badStates(t) {
		if room := impl.SysRoom(s); room != -1 {
			t.Errorf("%s: %d pages", what, room)
		}
	}
	if room := impl.SysRoom(impl.State{}); room != -1 {
		t.Errorf("nothing: %d pages", room)
	}
}

// A disk may say a state that does not fit: the system is ok, but not safe, and goes on where it fits again.
func TestStatesThatDoNotFit(t *testing.T) {
	p := plantAt(5, leaving(t, 0)).logged(t, calling(call(chmod, "/a", 3)))
	s, p := startAt(t, "two pages too many", p)
	if impl.SysRoom(s.State) != -2 || impl.SysSafe(s) || !impl.SysOk(s) || impl.SysSafe(impl.Sys{Disk: s.Disk}) || !impl.SysOk(impl.Sys{Disk: s.Disk}) {
		t.Error(brief(s))
	}
	happen(t, "no room", s, p, calling(call(chmod, "/a", 4)), 9)
	happen(t, "no room", s, p, calling(call(chmod, "/a", 0)), 9)
	happen(t, "no room", s, p, committing(), 9)
	s, p = startAt(t, "one page too many", p.logged(t, calling(call(chmod, "/a", 0))))
	s, p = happen(t, "a commit gives it back", s, p, committing(), 0)
	if impl.SysRoom(s.State) != 0 || !impl.SysSafe(s) {
		t.Error(brief(s))
	}
	// The log is full: the state as it was has no pages, so that no checkpoint of it can come ahead.
	p = plantAt(5, leaving(t, 0))
	for i := range 6 {
		p = p.logged(t, calling(call(chmod, "/a", 3*(1-i%2))))
	}
	s, p = startAt(t, "one page too many, the log full", p)
	if s.Store.Next != 12 {
		t.Error(brief(s))
	}
	for _, cut := range []int{-1, 0, 5, 99} {
		happen(t, "nothing can be written", s, p, cutAt(cut, committing()), 9)
	}
}

// The last id is given, and one more is asked.
func TestLastIdOfSystem(t *testing.T) {
	p := storyOf(modelOf(example()))
	p.ids.next = 9999
	s, q := startAt(t, "the last id", plantAt(3, p))
	checkPower(t, "the last id", s, q, calling(call(mkdir, "/m", 0)))
	s, q = happenAll(t, "the last id", s, q, calling(call(mkdir, "/m", 0)))
	if id := impl.SysHandle(s, names("/m")); id != 9999 {
		t.Errorf("the id is %d", id)
	}
	for _, cut := range []int{-1, 0, 99} {
		happen(t, "one more", s, q, cutAt(cut, calling(writing("/o", 0, "x"))), 8)
	}
	s, q = happenAll(t, "others go on", s, q, calling(renaming("/m", "/o")), calling(writing("/a/b", 0, "x")), committing(), opening(), calling(call(remove, "/o", 0)))
	happen(t, "never again", s, q, calling(call(mkdir, "/o", 0)), 8)
}

// Each code, and where two could be, the first of them.
func TestSysCodesInOrder(t *testing.T) {
	s, p := someSys(t)
	down, q := happen(t, "power", s, p, cutAt(0, committing()), 10)
	for _, cut := range []int{-1, 0, 99} {
		for _, kind := range []int{0, 4, -1, 9, math.MaxInt, math.MinInt} {
			for _, c := range []impl.Call{{}, call(mkdir, "/zz", 0), call(remove, "/zz", 0)} {
				happen(t, "up", s, p, impl.SysEvent{Kind: kind, Call: c, Cut: cut}, 14)
				happen(t, "down", down, q, impl.SysEvent{Kind: kind, Call: c, Cut: cut}, 12)
			}
		}
		happen(t, "a good call, down", down, q, cutAt(cut, calling(call(mkdir, "/zz", 0))), 12)
		happen(t, "a commit, down", down, q, cutAt(cut, committing()), 12)
		for code, c := range map[int]impl.Call{2: {}, 3: call(remove, "/zz", 0), 4: call(mkdir, "/a/b/x", 0), 5: call(mkdir, "/n", 0), 6: writing("/a/b", 20, "12345"), 7: renaming("/f", "/f/x")} {
			happen(t, "a call", s, p, cutAt(cut, calling(c)), code)
			happen(t, "a call, down", down, q, cutAt(cut, calling(c)), 12)
		}
		for _, c := range noCalls() {
			happen(t, "no call", s, p, cutAt(cut, calling(c)), 2)
		}
		happen(t, "opened, up", s, p, cutAt(cut, opening()), 0)
		happen(t, "opened, down", down, q, cutAt(cut, opening()), 0)
	}
	happen(t, "a needless call", s, p, impl.SysEvent{Kind: impl.SysOpens, Call: call(mkdir, "/n", 9), Cut: 3}, 0)
	happen(t, "a needless call", s, p, impl.SysEvent{Kind: impl.SysCommits, Call: call(mkdir, "/n", 9), Cut: -1}, 0)
	// No room, no ids, too many layers, and no checkpoints, all at once.
	all := leaving(t, 0)
	all.layers = append(all.layers, "", "", "", "")
	all.ids.next = 10000
	both, r := startAt(t, "all at once", plantAt(99999, all))
	happen(t, "a call's code ahead of room", both, r, calling(call(remove, "/zz", 0)), 3)
	happen(t, "too many parts ahead of ids", both, r, calling(writing("/zz", 24, "x")), 6)
	happen(t, "ids ahead of room", both, r, calling(call(mkdir, "/zz", 0)), 8)
	happen(t, "layers ahead of room", both, r, cutAt(0, committing()), 13)
	happen(t, "room ahead of power", both, r, cutAt(0, calling(call(chmod, "/a", 1))), 9)
	less := storyOf(modelOf(example()))
	less.layers = make([]string, 6)
	some, r := startAt(t, "no checkpoints", plantAt(99999, less))
	for i := range 6 {
		some, r = happenAll(t, "no checkpoints", some, r, calling(call(chmod, "/a", i)))
	}
	happen(t, "layers ahead of checkpoints", some, r, committing(), 13)
	happen(t, "a call's code ahead of checkpoints", some, r, calling(call(mkdir, "/a", 0)), 5)
	happen(t, "checkpoints ahead of power", some, r, cutAt(0, calling(call(chmod, "/a", 0))), 9)
	happen(t, "opening needs none", some, r, cutAt(0, opening()), 0)
}

// sysRefused is the answers that there are of a system that is not ok.
func sysRefused(t *testing.T, what string, s impl.Sys) {
	t.Helper()
	if impl.SysOk(s) {
		t.Errorf("%s: ok", what)
	}
	for _, e := range []impl.SysEvent{{}, opening(), committing(), calling(call(mkdir, "/zz", 0)), calling(impl.Call{}), {Kind: 9}, cutAt(0, committing())} {
		if got, code := impl.SysDo(s, e); code != 1 || !noSys(got) {
			t.Errorf("%s: %+v: code %d, %s", what, e, code, brief(got))
		}
	}
	for _, list := range [][]impl.SysEvent{nil, {opening()}, {opening(), committing()}} {
		if got, codes := impl.SysPlay(s, list); len(codes) != 0 || !noSys(got) {
			t.Errorf("%s: played: codes %v, %s", what, codes, brief(got))
		}
	}
	checkBlind(t, what, s)
	if impl.SysSafe(s) || impl.SysBoard(s) != "" {
		t.Errorf("%s: safe %v, board %q", what, impl.SysSafe(s), impl.SysBoard(s))
	}
	for _, line := range []string{"board", "open", "commit", "x", "", "mkdir /zz 0", "read / 0 0", "layer"} {
		if got, answer := impl.FrontDo(s, line); answer != "" || !noSys(got) {
			t.Errorf("%s: %q is answered by %q, %s", what, line, answer, brief(got))
		}
	}
}

// wrongSyses is systems that are not ok, for each of the reasons, all but for one thing the same.
func wrongSyses(t *testing.T) map[string]impl.Sys {
	whole, p := someSys(t)
	before := plantAt(1, storyOf(modelOf(example()))).sys()
	out := map[string]impl.Sys{"nothing": {}, "nothing, up": {Up: true}, "a blank disk": {Disk: blank()}, "a blank disk, up": {Disk: blank(), Up: true}}
	for what, d := range badDisks() {
		out["a disk that is not ok: "+what] = impl.Sys{Disk: d}
		out["a disk that is not ok, up: "+what] = impl.Sys{Disk: d, Store: whole.Store, State: whole.State, Up: true}
	}
	change := func(what string, do func(s *impl.Sys)) {
		s := p.sys()
		s.Store.Groups = slices.Clone(s.Store.Groups)
		do(&s)
		out[what] = s
	}
	change("up, and knows nothing", func(s *impl.Sys) { s.Store, s.State = impl.Store{}, impl.State{} })
	change("up, and knows no store", func(s *impl.Sys) { s.Store = impl.Store{} })
	change("up, and knows no state", func(s *impl.Sys) { s.State = impl.State{} })
	change("another disk", func(s *impl.Sys) { s.Disk = before.Disk })
	change("another store", func(s *impl.Sys) { s.Store = before.Store })
	change("another state", func(s *impl.Sys) { s.State = before.State })
	change("a greater Gen", func(s *impl.Sys) { s.Store.Gen++ })
	change("a smaller Gen", func(s *impl.Sys) { s.Store.Gen-- })
	change("another text", func(s *impl.Sys) { s.Store.Text += "\n" })
	change("no text", func(s *impl.Sys) { s.Store.Text = "" })
	change("a group less", func(s *impl.Sys) { s.Store.Groups = s.Store.Groups[:3] })
	change("no groups", func(s *impl.Sys) { s.Store.Groups = nil })
	change("a group more", func(s *impl.Sys) { s.Store.Groups = append(s.Store.Groups, "") })
	change("another group", func(s *impl.Sys) { s.Store.Groups = append([]string{"commit"}, s.Store.Groups[1:]...) })
	change("groups out of order", func(s *impl.Sys) { s.Store.Groups[0], s.Store.Groups[1] = s.Store.Groups[1], s.Store.Groups[0] })
	change("another Next", func(s *impl.Sys) { s.Store.Next-- })
	change("a greater Next", func(s *impl.Sys) { s.Store.Next++ })
	for what, bad := range badStores() {
		change("a store that is not ok: "+what, func(s *impl.Sys) { s.Store = bad })
	}
	for what, bad := range badStates(t) {
		change("a state that is not ok: "+what, func(s *impl.Sys) { s.State = bad })
	}
	change("another first tree", func(s *impl.Sys) { s.State.First.Mode ^= 1 })
	change("another first tree, below", func(s *impl.Sys) { s.State.First.Kids[0].Kids[0].Data += "x" })
	change("a first tree with a part more", func(s *impl.Sys) {
		s.State.First.Names, s.State.First.Kids = append(s.State.First.Names, "x"), append(s.State.First.Kids, file(0, ""))
	})
	change("a first tree with another name", func(s *impl.Sys) { s.State.First.Names[0] = "0" })
	change("a row less", func(s *impl.Sys) { s.State.Rows = s.State.Rows[1:] })
	change("another row", func(s *impl.Sys) { s.State.Rows[1].Id++ })
	change("an upper that hides less", func(s *impl.Sys) { s.State.Upper.Gone = nil })
	change("an upper that puts another part", func(s *impl.Sys) { s.State.Upper.Puts[0].Mode ^= 1 })
	change("an upper of other whats", func(s *impl.Sys) { s.State.Upper.Puts[0].What = impl.EntryMode })
	change("a mark more", func(s *impl.Sys) { s.State.Trail = append(s.State.Trail, at("/zz")) })
	change("all marked", func(s *impl.Sys) { s.State.Trail = []impl.Mark{sub("/")} })
	change("a mark with another Sub", func(s *impl.Sys) { s.State.Trail[0].Sub = !s.State.Trail[0].Sub })
	change("a mark less", func(s *impl.Sys) { s.State.Trail = s.State.Trail[1:] })
	change("a greater next id", func(s *impl.Sys) { s.State.Nodes.Next++ })
	change("another id", func(s *impl.Sys) { s.State.Nodes.List[0].Id = 0 })
	change("another path of an id", func(s *impl.Sys) { s.State.Nodes.List[0].Path = names("/0") })
	change("a node less", func(s *impl.Sys) { s.State.Nodes.List = s.State.Nodes.List[1:] })
	change("a layer more", func(s *impl.Sys) { s.State.Layers = append(s.State.Layers, "") })
	change("another layer", func(s *impl.Sys) { s.State.Layers = []string{s.State.Layers[0] + "mode / 0\n"} })
	change("the state behind a call", func(s *impl.Sys) { s.State, _ = impl.StateDo(s.State, call(chmod, "/a", 0)) })
	change("the state behind a commit", func(s *impl.Sys) { s.State, _, _ = impl.StateCommit(s.State) })
	change("down, and knows all", func(s *impl.Sys) { s.Up = false })
	change("down, and knows its store", func(s *impl.Sys) { s.Up, s.State = false, impl.State{} })
	change("down, and knows its state", func(s *impl.Sys) { s.Up, s.Store = false, impl.Store{} })
	for what, know := range map[string]func(s *impl.Sys){
		"Gen": func(s *impl.Sys) { s.Store.Gen = 1 }, "a text": func(s *impl.Sys) { s.Store.Text = "x" }, "Next": func(s *impl.Sys) { s.Store.Next = -1 }, "a group of no bytes": func(s *impl.Sys) { s.Store.Groups = []string{""} },
		"a first tree": func(s *impl.Sys) { s.State.First.Dir = true }, "a mode": func(s *impl.Sys) { s.State.First.Mode = 1 }, "a row": func(s *impl.Sys) { s.State.Rows = make([]impl.Row, 1) }, "an upper": func(s *impl.Sys) { s.State.Upper.Gone = make([][]string, 1) },
		"a put": func(s *impl.Sys) { s.State.Upper.Puts = make([]impl.Entry, 1) }, "a mark": func(s *impl.Sys) { s.State.Trail = make([]impl.Mark, 1) }, "a next id": func(s *impl.Sys) { s.State.Nodes.Next = 1 },
		"a node": func(s *impl.Sys) { s.State.Nodes.List = make([]impl.NodeOf, 1) }, "a layer": func(s *impl.Sys) { s.State.Layers = []string{""} },
	} {
		change("down, and knows "+what, func(s *impl.Sys) { *s = impl.Sys{Disk: s.Disk}; know(s) })
	}
	for what, blocks := range map[string]map[int]string{
		"no head":                        {0: ""},
		"a head of a greater Gen":        {1: "C 3 5"},
		"a head of another length":       {0: "C 2 5"},
		"a head of no length":            {0: "C 2 0"},
		"another byte of the text":       {14: "X" + whole.Disk.Blocks[14][1:]},
		"a byte less of the text":        {14: whole.Disk.Blocks[14][1:]},
		"no text":                        {14: ""},
		"a group's head, another number": {2: "H 2 1 13"},
		"a group's head is gone":         {2: ""},
		"a group's head, a greater Gen":  {2: "H 3" + whole.Disk.Blocks[2][3:]},
		"a group that has a code":        {9: "Dremove /n/e"},
		"a group that is no call":        {9: "Dremove //fe"},
		"a block too long":               {193: long(65)},
	} {
		change("up, spoilt: "+what, func(s *impl.Sys) { s.Disk = with(s.Disk, blocks) })
		change("down, spoilt: "+what, func(s *impl.Sys) { *s = impl.Sys{Disk: with(s.Disk, blocks)} })
	}
	// These disks say a system, but another one.
	change("the last group is gone", func(s *impl.Sys) { s.Disk = with(s.Disk, map[int]string{8: ""}) })
	change("another group on the disk", func(s *impl.Sys) { s.Disk = with(s.Disk, map[int]string{9: "Dmkdir /zz 1"}) })
	return out
}

func TestWrongSystems(t *testing.T) {
	all := wrongSyses(t)
	for what, s := range all {
		sysRefused(t, what, s)
	}
	if len(all) < 200 {
		t.Errorf("%d systems", len(all))
	}
	// Blocks that do not count may be any.
	_, p := someSys(t)
	for at, b := range map[int]string{1: "", 10: "D", 11: "H 1 0 3", 13: "C 9 9", 103: "x", 104: "", 193: long(64)} {
		s := p.sys()
		s.Disk = with(s.Disk, map[int]string{at: b})
		if !impl.SysOk(s) || !impl.SysOk(impl.Sys{Disk: s.Disk}) || !impl.SysSafe(s) {
			t.Errorf("block %d is %q, and it is not ok", at, b)
		}
	}
}

// sysShut asks that a disk says no system.
func sysShut(t *testing.T, what string, d impl.Disk) {
	t.Helper()
	if s, ok := impl.SysOpen(d); ok || !noSys(s) {
		t.Errorf("%s: opened %v as %s", what, ok, brief(s))
	}
	if impl.SysOk(impl.Sys{Disk: d}) || impl.SysSafe(impl.Sys{Disk: d}) {
		t.Errorf("%s: ok", what)
	}
}

func TestDisksThatSayNoSystem(t *testing.T) {
	for what, d := range badDisks() {
		sysShut(t, what, d)
	}
	for i, s := range someStores() {
		sysShut(t, fmt.Sprint("a store of other texts ", i), diskOf(s))
	}
	story := storyOf(modelOf(example()))
	desk, _ := story.desk()
	text := desk.write()
	if _, ok := impl.SysOpen(diskOf(storeOf(7, text, "chmod /a 1", "commit"))); !ok {
		t.Fatal("not opened")
	}
	for _, group := range []string{
		"", " ", "x", "commit ", " commit", "Commit", "commit\n", "commit commit", "open", "do", "board", "cut 0 commit", "cut 1 chmod /a 1", "C 1 4", "H 7 0 3", "mkdir", "mkdir /n", "mkdir / 0", "mkdir /n 8", "mkdir /n 00", "mkdir /n 0 ", "mkdir  /n 0", "mkdir /n 0\n", "write /a/b 0 ", "write /a/b 25 -",
		"mkdir /a 0", "remove /zz", "remove /a", "mkdir /c/x 0", "write /a 0 -", "write /a/b 24 00", "truncate /d 0", "rename /d /d/x", "rename /a /c", "rename /zz /y", "chmod /zz 0", bytesOf(600), strings.Repeat("commit", 100),
	} {
		sysShut(t, fmt.Sprintf("a group %q", group), diskOf(storeOf(7, text, group)))
		sysShut(t, fmt.Sprintf("a group %q, the last", group), diskOf(storeOf(7, text, "chmod /a 1", group)))
		if len(group) < 300 {
			sysShut(t, fmt.Sprintf("a group %q, the first", group), diskOf(storeOf(7, text, group, "chmod /a 1")))
		}
	}
	sysShut(t, "a group that has a code by the one ahead of it", diskOf(storeOf(7, text, "remove /c", "chmod /c 1")))
	sysShut(t, "a directory made twice", diskOf(storeOf(7, text, "mkdir /n 0", "mkdir /n 0")))
	for commits, layers := range []int{6, 5, 4, 3, 2, 1} {
		full := story
		full.layers = make([]string, layers)
		d, _ := full.desk()
		if s, ok := impl.SysOpen(diskOf(storeOf(1, d.write(), slices.Repeat([]string{"commit"}, commits)...))); !ok || len(s.State.Layers) != 6 {
			t.Errorf("%d layers and %d commits: %v", layers, commits, ok)
		}
		sysShut(t, fmt.Sprintf("%d layers and %d commits", layers, commits+1), diskOf(storeOf(1, d.write(), slices.Repeat([]string{"commit"}, commits+1)...)))
	}
	last := story
	last.ids.next = 10000
	d, _ := last.desk()
	sysShut(t, "no ids left", diskOf(storeOf(1, d.write(), "mkdir /n 0")))
	for what, text := range map[string]string{
		"no bytes": "", "no pages": "x", "no end": strings.TrimSuffix(text, "end\n"), "no newline": strings.TrimSuffix(text, "\n"), "a byte behind": text + "\n", "twice": text + text, "no texts": "end\n", "other texts": "a 0\n\nend\n",
		"a text too many": desk.with("zzz", "x").write(), "no upper": desk.without("upper").write(), "no first": desk.without("first").write(), "a layer that does not fit": desk.with("lay0", "gone /zz\n").write(), "a trail that does not cover": desk.with("upper", "dir / 1\n").write(),
		"a state out of step": desk.with("nodes", "next 1\n").write(), "a name that is none": strings.Replace(text, "first", "firsts", 1), "a size with a nought": strings.Replace(text, "trail 0", "trail 00", 1),
	} {
		sysShut(t, what, diskOf(storeOf(1, text)))
		sysShut(t, what+", and a group", diskOf(storeOf(1, text, "chmod /a 1")))
	}
}

// plainSays is what a disk says, told by the chapters ahead alone, one by one.
func plainSays(d impl.Disk) (impl.Sys, bool) {
	store, ok := plainOpen(d)
	if !ok {
		return impl.Sys{}, false
	}
	pages, ok := impl.PagesRead(store.Text)
	if !ok {
		return impl.Sys{}, false
	}
	state, ok := impl.StateLoad(pages)
	for _, group := range store.Groups {
		if !ok {
			break
		}
		c, isCall := impl.CallParse(group)
		next, code := impl.StateDo(state, c)
		if group == "commit" {
			isCall = true
			next, _, code = impl.StateCommit(state)
		}
		state, ok = next, isCall && code == 0
	}
	if !ok {
		return impl.Sys{}, false
	}
	return impl.Sys{Disk: d, Store: store, State: state, Up: true}, true
}

// Whatever was spoilt, a disk opens as it says, or not at all; the system that was is ok just if it is that.
func TestSpoiltSystems(t *testing.T) {
	t.Parallel()
	r := newMaker(41)
	opened, shut, still := 0, 0, 0
	for i := range 120 {
		p := plantAt(1+r.IntN(3), storyOf(r.model(i%13)))
		for range r.IntN(12) {
			p, _ = p.do(r.event(p))
		}
		p = p.opened()
		for range 8 {
			d := r.spoilt(p.disk)
			if r.IntN(3) == 0 {
				d = r.spoilt(d)
			}
			want, says := plainSays(d)
			s, ok := impl.SysOpen(d)
			if ok != says || !sameSys(s, want) {
				t.Fatalf("opened %v as %s, not %v as %s: %q", ok, brief(s), says, brief(want), d.Blocks[:16])
			}
			known := p.sys()
			known.Disk = d
			if isOk := says && sameStore(known.Store, want.Store) && sameState(known.State, want.State); impl.SysOk(known) != isOk || impl.SysOk(impl.Sys{Disk: d}) != says {
				t.Fatalf("ok %v, not %v: %q", !isOk, isOk, d.Blocks[:16])
			} else if isOk {
				still++
			}
			if !says {
				shut++
				sysShut(t, "spoilt", d)
				continue
			}
			opened++
			if safe := impl.SysSafe(s); safe != (impl.SysRoom(s.State) >= 0) || safe != impl.SysSafe(impl.Sys{Disk: d}) {
				t.Fatalf("safe %v: %s", safe, brief(s))
			}
		}
	}
	if opened < 150 || shut < 150 || still < 50 {
		t.Errorf("%d opened, %d did not, %d still ok", opened, shut, still)
	}
}

// event is something that happens to a plant: often a call, and often cut.
func (r maker) event(p plant) impl.SysEvent {
	e := calling(r.any(p.story.seen))
	switch r.IntN(12) {
	case 0:
		e = opening()
	case 1, 2:
		e = committing()
	case 3:
		e.Kind = r.IntN(6) - 1
	}
	if !p.up && r.IntN(3) > 0 {
		e = opening()
	}
	if r.IntN(4) > 0 {
		return e
	}
	// Cuts are where they count, if they do.
	most := 3
	if _, group, code := p.told(e); code == 0 && e.Kind != impl.SysOpens {
		list, _, _, _ := p.writes(group)
		most = len(list) + 2
	}
	return cutAt(r.IntN(most), e)
}

// start is a plant of any kind: often a new one, or one at the end of its checkpoints, ids or pages.
func (r maker) start(i int) plant {
	p := storyOf(r.model(i % 31))
	gen := 1
	switch i % 6 {
	case 1:
		gen = 99996 + r.IntN(4)
	case 2:
		p.ids.next = 9996 + r.IntN(5)
	case 3:
		p = p.filled(p.room() - r.IntN(6))
	case 4:
		p.layers = make([]string, 4+r.IntN(3))
	}
	return plantAt(gen, p)
}

// P47 to P51, P65, P68: any calls, commits, power failures and openings, one behind the other.
func TestMadeUpSystems(t *testing.T) {
	t.Parallel()
	r := newMaker(42)
	codes := map[int]int{}
	for i := range 62 {
		what := fmt.Sprint("made up ", i)
		start := r.start(i)
		s, p := startAt(t, what, start)
		plain := start.story.seen.tree("")
		var list []impl.SysEvent
		var want []int
		for range 15 {
			e := r.event(p)
			_, code := p.do(e)
			s, p = happen(t, what, s, p, e, code)
			if e.Kind == impl.SysCalls && code == 0 {
				plain, _ = impl.TreeDo(plain, e.Call)
			}
			// P51.
			if code == 9 {
				next, _, _ := p.told(e)
				if next.room() >= 0 && s.Store.Gen != 99999 {
					t.Errorf("%s: %+v is refused by %s", what, e, brief(s))
				}
			}
			list, want = append(list, e), append(want, code)
			codes[code]++
			if t.Failed() {
				return
			}
		}
		// P49: what one sees is what a plain tree would be.
		open, _ := impl.SysDo(s, opening())
		if seen, ok := impl.SysSee(open); !ok || !same(seen, plain) {
			t.Errorf("%s: one sees %q, not %q", what, impl.TreeShow(seen), impl.TreeShow(plain))
		}
		played, got := impl.SysPlay(start.sys(), list)
		if !sameSys(played, s) || !slices.Equal(got, want) {
			t.Errorf("%s: played %s, not %s, codes %v, not %v", what, brief(played), brief(s), got, want)
		}
		checkOpenedBetween(t, what, r, start, list)
		if i%3 == 0 {
			checkSees(t, what, open, p.opened())
		}
	}
	for _, code := range []int{0, 3, 4, 5, 6, 7, 8, 9, 10, 12, 13, 14} {
		if codes[code] == 0 {
			t.Errorf("the code %d never was there: %v", code, codes)
		}
	}
}

// checkOpenedBetween is P68: the same happens, opened where power failed, and opened in between, too.
func checkOpenedBetween(t *testing.T, what string, r maker, start plant, list []impl.SysEvent) {
	t.Helper()
	var plain, more []impl.SysEvent
	for _, e := range list {
		plain = append(plain, e)
		if e.Cut >= 0 {
			plain = append(plain, opening())
		}
	}
	for _, e := range plain {
		more = append(more, e)
		for range r.IntN(3) {
			more = append(more, opening())
		}
	}
	// Codes of what is no opening.
	codesOf := func(list []impl.SysEvent) (impl.Sys, []int) {
		s, codes := impl.SysPlay(start.sys(), append(list, opening()))
		var some []int
		for i, e := range list {
			if e.Kind != impl.SysOpens {
				some = append(some, codes[i])
			}
		}
		return s, some
	}
	one, codes := codesOf(plain)
	two, others := codesOf(more)
	if !sameSys(one, two) || !slices.Equal(codes, others) {
		t.Errorf("%s: %s, and opened in between %s, codes %v and %v; %s", what, brief(one), brief(two), codes, others, unlike(one.Disk, two.Disk))
	}
}

// P48, behind any calls.
func TestMadeUpPowerFailures(t *testing.T) {
	t.Parallel()
	r := newMaker(43)
	ahead := 0
	for i := range 24 {
		s, p := startAt(t, "made up", r.start(7*i))
		for range 15 {
			e := cutAt(-1, r.event(p))
			if next, code := p.do(e); code != 0 || e.Kind == impl.SysOpens {
				p = next.opened()
				continue
			}
			if _, group, _ := p.told(e); p.store.Next+plainBlocks(group) > 12 || r.IntN(8) == 0 {
				s, _ = impl.SysOpen(p.disk)
				_, saved := checkPower(t, "made up", s, p, e)
				if saved > 0 {
					ahead++
				}
			}
			p, _ = p.do(e)
			if t.Failed() {
				return
			}
		}
	}
	if ahead < 6 {
		t.Errorf("%d checkpoints", ahead)
	}
}

func TestPlaySystems(t *testing.T) {
	s, p := someSys(t)
	for _, list := range [][]impl.SysEvent{nil, {}} {
		if got, codes := impl.SysPlay(s, list); len(codes) != 0 || !sameSys(got, s) {
			t.Errorf("nothing: codes %v, %s", codes, brief(got))
		}
	}
	list := []impl.SysEvent{calling(call(remove, "/zz", 0)), calling(call(chmod, "/a", 0)), {Kind: 9}, cutAt(1, committing()), committing(), {Kind: 9}, calling(impl.Call{}), opening(), committing(), cutAt(0, opening())}
	got, codes := impl.SysPlay(s, list)
	for _, e := range list {
		p, _ = p.do(e)
	}
	if !slices.Equal(codes, []int{3, 0, 14, 10, 12, 12, 12, 0, 0, 0}) {
		t.Errorf("codes %v", codes)
	}
	checkSys(t, "played", got, p)
	// One that is down can be played, too.
	down, _ := impl.SysDo(s, cutAt(0, committing()))
	if got, codes := impl.SysPlay(down, []impl.SysEvent{committing(), opening()}); !slices.Equal(codes, []int{12, 0}) || !sameSys(got, s) {
		t.Errorf("codes %v, %s", codes, brief(got))
	}
	if got, codes := impl.SysPlay(down, nil); len(codes) != 0 || !sameSys(got, down) {
		t.Errorf("codes %v, %s", codes, brief(got))
	}
}

// P57: one file is written and removed again and again.
func TestAgainAndAgain(t *testing.T) {
	t.Parallel()
	wide := modelOf(wide(12))
	near, far := storyOf(wide), storyOf(wide)
	near.ids.next, far.ids.next = 994, 9990
	for what, k := range map[string]struct {
		start plant
		times int
		want  int
	}{
		"a new system":         {plantAt(1, storyOf(modelOf(dir(0)))), 120, 0},
		"ids grow by a figure": {plantAt(1, near), 20, 0},
		"ids come to an end":   {plantAt(1, far), 20, 8},
		"checkpoints do, too":  {plantAt(99997, storyOf(wide)), 20, 9},
	} {
		s, p := startAt(t, what, k.start)
		room, seen := 0, map[int]bool{}
		for i := range k.times {
			for _, e := range []impl.SysEvent{calling(writing("/again", 0, "again")), calling(call(remove, "/again", 0))} {
				next, code := impl.SysDo(s, e)
				want, model := p.do(e)
				if code != model || !sameSys(next, want.sys()) {
					t.Fatalf("%s, time %d: code %d, not %d", what, i, code, model)
				}
				// What was not written cannot be removed.
				if code != 0 && code != 8 && code != 9 && !(code == 3 && (seen[8] || seen[9])) {
					t.Errorf("%s, time %d: code %d", what, i, code)
				}
				s, p, seen[code] = next, want, true
			}
			if i == 0 {
				room = impl.SysRoom(s.State)
			}
			if left := impl.SysRoom(s.State); left < room-1 || !impl.SysSafe(s) {
				t.Errorf("%s, time %d: %d pages are left, which were %d", what, i, left, room)
			}
		}
		if k.want != 0 && !seen[k.want] || k.want == 0 && len(seen) != 1 {
			t.Errorf("%s: codes %v", what, seen)
		}
	}
}

// P57: no page is left for longer ids.
func TestNoPageForLongerIds(t *testing.T) {
	refused := 0
	for count := 1; count <= 12; count++ {
		// The first file gets the id 97, and the next one is 98 then.
		p := storyOf(modelOf(wide(count)))
		p.ids.next = 97
		first, _ := p.do(writing("/again", 0, "again"))
		s, q := startAt(t, "longer ids", plantAt(1, p.filled(first.room())))
		for i := range 5 {
			e := calling(writing("/again", 0, "again"))
			if _, code := q.do(e); code == 9 && i > 0 {
				refused++
				happen(t, fmt.Sprint("longer ids ", i), s, q, e, 9)
				break
			}
			s, q = happen(t, fmt.Sprint("longer ids ", i), s, q, e, 0)
			s, q = happen(t, fmt.Sprint("longer ids ", i), s, q, calling(call(remove, "/again", 0)), 0)
		}
	}
	if refused == 0 {
		t.Error("the last page was never needed")
	}
}

// P64: what is written for a checkpoint and a group can be written in any order, if no block is written twice.
func TestWritesInAnyOrder(t *testing.T) {
	r := newMaker(44)
	for i := range 60 {
		p := plantAt(1, storyOf(r.model(i%31)))
		for range 5 + r.IntN(9) {
			p, _ = p.do(cutAt(-1, r.event(p)))
		}
		e := calling(writing(fmt.Sprint("/w", i), 0, strings.Repeat("w", i%25)))
		p = p.opened()
		_, group, code := p.told(e)
		if code != 0 {
			continue
		}
		list, _, _, _ := p.writes(group)
		got, code := impl.SysDo(p.sys(), e)
		at := map[int]bool{}
		for _, w := range list {
			at[w.At] = true
		}
		if code != 0 || len(at) != len(list) {
			t.Fatalf("code %d, %d blocks, %d writes", code, len(at), len(list))
		}
		for range 4 {
			mixed := slices.Clone(list)
			r.Shuffle(len(mixed), func(i, j int) { mixed[i], mixed[j] = mixed[j], mixed[i] })
			d := impl.DiskWrite(p.disk, mixed, len(mixed))
			s, ok := impl.SysOpen(d)
			if !sameDisk(d, got.Disk) || !ok || !sameSys(s, got) {
				t.Errorf("in another order: %s", unlike(d, got.Disk))
			}
		}
		// Two neighbours that are of different blocks, with all others as they were.
		for j := range list[1:] {
			mixed := slices.Clone(list)
			mixed[j], mixed[j+1] = mixed[j+1], mixed[j]
			for _, cut := range []int{j, j + 2, len(list)} {
				if one, two := impl.DiskWrite(p.disk, list, cut), impl.DiskWrite(p.disk, mixed, cut); !sameDisk(one, two) {
					t.Errorf("%d and the next one changed places, cut %d: %s", j, cut, unlike(one, two))
				}
			}
		}
	}
}

// Nothing is left behind a call that still runs, and none is in the way of another one.
func TestSystemsSideBySide(t *testing.T) {
	s, _ := someSys(t)
	list := []impl.SysEvent{calling(call(chmod, "/a", 1)), cutAt(1, committing()), opening(), committing(), calling(call(mkdir, "/zz", 0)), calling(call(remove, "/zz", 0)), cutAt(5, calling(call(chmod, "/a", 2))), opening()}
	want, codes := impl.SysPlay(s, list)
	before := runtime.NumGoroutine()
	var all sync.WaitGroup
	for range 8 {
		all.Go(func() {
			for range 5 {
				if got, others := impl.SysPlay(s, list); !sameSys(got, want) || !slices.Equal(codes, others) {
					t.Errorf("codes %v, %s", others, brief(got))
				}
			}
		})
	}
	all.Wait()
	for range 1000 {
		runtime.Gosched()
	}
	if after := runtime.NumGoroutine(); after > before+8 {
		t.Errorf("%d goroutines, which were %d", after, before)
	}
}
