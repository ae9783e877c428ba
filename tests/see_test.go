package tests

import (
	"fmt"
	"maps"
	"math"
	"slices"
	"testing"

	"loop.example/changetrail/impl"
)

// board is how a plant stands.
func (p plant) board() string {
	if !p.up {
		return "down\n"
	}
	head := fmt.Sprintf("gen %d, %d groups, %d layers, %d pages\n", p.store.Gen, len(p.store.Groups), len(p.story.layers), p.story.room())
	return head + p.story.seen.show() + plainText(p.story.trail.list())
}

// looks is how often one looks where the trail leads.
func (p story) looks() int {
	_, looks := leads{p.sealed, p.seen, p.trail}.diff()
	return looks
}

// plainReadAt is what a model answers to a read, and the code.
func plainReadAt(m model, path []string, at, n int) (string, int) {
	x, there := m[text(path)]
	switch {
	case at < 0 || n < 0:
		return "", 2
	case !there || len(path) > 0 && !isPlainPath(path):
		return "", 3
	case x.dir:
		return "", 4
	}
	data := x.data[min(at, len(x.data)):]
	return data[:min(n, len(data))], 0
}

func plainList(m model, path []string) ([]string, int) {
	x, there := m[text(path)]
	switch {
	case !there || len(path) > 0 && !isPlainPath(path):
		return nil, 3
	case !x.dir:
		return nil, 4
	}
	return m.below(text(path)), 0
}

// someOf is not more than so many of a list, from its beginning to its end.
func someOf[T any](list []T, most int) []T {
	var out []T
	for i := 0; i < len(list); i += 1 + len(list)/most {
		out = append(out, list[i])
	}
	return out
}

// checkSees asks a system all questions, and for what its plant says; it is left as it is (P54).
func checkSees(t *testing.T, what string, s impl.Sys, p plant) {
	t.Helper()
	if board := impl.SysBoard(s); board != p.board() {
		t.Errorf("%s: the board is %q, not %q", what, board, p.board())
	}
	if !p.up {
		checkBlind(t, what, s)
		return
	}
	checkTrees(t, what, s, p)
	paths := [][]string{nil, {"n"}, {"a", "b", "c", "d", "e"}, {""}, {"a/b"}, {"A"}}
	for _, path := range someOf(slices.Sorted(maps.Keys(p.story.seen)), 5) {
		paths = append(paths, names(path))
	}
	for _, path := range paths {
		checkPath(t, what, s, p, path)
	}
	for _, id := range []int{-1, 0, p.story.ids.next, p.story.ids.next + 1, math.MaxInt, math.MinInt} {
		if data, code := impl.SysReadBy(s, id, 0, 99); data != "" || code != 3 {
			t.Errorf("%s: by %d is read %q, code %d", what, id, data, code)
		}
	}
	if !sameSys(s, p.sys()) {
		t.Errorf("%s: it was changed by questions", what)
	}
}

// checkTrees asks a system for its trees and layers (P53).
func checkTrees(t *testing.T, what string, s impl.Sys, p plant) {
	t.Helper()
	seen, sees := impl.SysSee(s)
	sealed, seals := impl.SysSealed(s)
	folded, folds := impl.SysFold(s)
	if !sees || !seals || !folds || !same(seen, p.story.seen.tree("")) || !same(sealed, p.story.sealed.tree("")) || !same(folded, sealed) {
		t.Errorf("%s: one sees %v %q, sealed is %v %q, folded %v %q", what, sees, impl.TreeShow(seen), seals, impl.TreeShow(sealed), folds, impl.TreeShow(folded))
	}
	layer, looks := impl.SysLayer(s)
	walk := impl.SysWalk(s)
	if layer != p.story.layer() || walk != layer || looks != p.story.looks() {
		t.Errorf("%s: the layer is %q, by a walk %q, not %q, and %d looks, not %d", what, layer, walk, p.story.layer(), looks, p.story.looks())
	}
	if most := 2*4*len(p.story.trail) + (leads{p.story.sealed, p.story.seen, p.story.trail}).allBelow(); looks > most {
		t.Errorf("%s: %d looks, and %d at most", what, looks, most)
	}
	list, ok := impl.LayerRead(layer)
	over, fits := impl.LayerApply(sealed, list)
	if !ok || !fits || !same(over, seen) {
		t.Errorf("%s: %q over what is sealed is %q, not %q", what, layer, impl.TreeShow(over), impl.TreeShow(seen))
	}
}

// checkPath asks a system for what is at a path (P52, P59).
func checkPath(t *testing.T, what string, s impl.Sys, p plant, path []string) {
	t.Helper()
	id := impl.SysHandle(s, path)
	want := 0
	if isPlainPath(path) {
		want = p.story.ids.ids[text(path)]
	}
	if id != want {
		t.Errorf("%s: the id of %q is %d, not %d", what, path, id, want)
	}
	for _, k := range [][2]int{{0, 99}, {1, 2}, {-1, 0}, {math.MaxInt, math.MaxInt}} {
		data, code := impl.SysRead(s, path, k[0], k[1])
		if wantData, wantCode := plainReadAt(p.story.seen, path, k[0], k[1]); data != wantData || code != wantCode {
			t.Errorf("%s: at %q %v is read %q, code %d, not %q, code %d", what, path, k, data, code, wantData, wantCode)
		}
		if id == 0 {
			break
		}
		if by, again := impl.SysReadBy(s, id, k[0], k[1]); by != data || again != code {
			t.Errorf("%s: by %d %v is read %q, code %d, not %q, code %d", what, id, k, by, again, data, code)
		}
	}
	list, code := impl.SysList(s, path)
	if wantList, wantCode := plainList(p.story.seen, path); !slices.Equal(list, wantList) || code != wantCode {
		t.Errorf("%s: at %q are listed %q, code %d, not %q, code %d", what, path, list, code, wantList, wantCode)
	}
}

// checkBlind asks a system of which nothing is seen, as it is not ok, or not up.
func checkBlind(t *testing.T, what string, s impl.Sys) {
	t.Helper()
	seen, sees := impl.SysSee(s)
	sealed, seals := impl.SysSealed(s)
	folded, folds := impl.SysFold(s)
	if sees || seals || folds || !isNothing(seen) || !isNothing(sealed) || !isNothing(folded) {
		t.Errorf("%s: one sees %v %v, sealed is %v %v, folded %v %v", what, sees, seen, seals, sealed, folds, folded)
	}
	layer, looks := impl.SysLayer(s)
	if walk := impl.SysWalk(s); layer != "" || looks != 0 || walk != "" {
		t.Errorf("%s: the layer is %q, %d looks, by a walk %q", what, layer, looks, walk)
	}
	for _, path := range [][]string{nil, names("/a"), names("/a/b"), names("/zz"), {"A"}} {
		data, code := impl.SysRead(s, path, 0, 9)
		_, wrong := impl.SysRead(s, path, -1, -1)
		if data != "" || code != 12 || wrong != 12 {
			t.Errorf("%s: at %v is read %q, codes %d and %d", what, path, data, code, wrong)
		}
		if list, code := impl.SysList(s, path); len(list) != 0 || code != 12 {
			t.Errorf("%s: at %v is listed %v, code %d", what, path, list, code)
		}
		if id := impl.SysHandle(s, path); id != 0 {
			t.Errorf("%s: the id of %v is %d", what, path, id)
		}
	}
	for _, id := range []int{-1, 0, 1, 2, 9999} {
		data, code := impl.SysReadBy(s, id, 0, 9)
		_, wrong := impl.SysReadBy(s, id, -1, -1)
		if data != "" || code != 12 || wrong != 12 {
			t.Errorf("%s: by %d is read %q, codes %d and %d", what, id, data, code, wrong)
		}
	}
}

func TestSeenSystems(t *testing.T) {
	s, p := someSys(t)
	checkSees(t, "some", s, p)
	want := "gen 2, 4 groups, 1 layers, 87 pages\ndir / 0\ndir /a 4\nfile /a/b 3 686921\ndir /c 7\ndir /f 0\nfile /n 0 78\nat /a/b\nsub /c/f\nsub /f\nat /n\n"
	if board := impl.SysBoard(s); board != want {
		t.Errorf("the board is %q, not %q", board, want)
	}
	layer, looks := impl.SysLayer(s)
	if layer != "mode /a/b 3\ngone /c/f\nnewdir /f 0\nnew /n 0 78\n" || looks != 7 || impl.SysWalk(s) != layer {
		t.Errorf("%q, %d looks", layer, looks)
	}
	down, q := happen(t, "down", s, p, cutAt(1, committing()), 10)
	checkSees(t, "down", down, q)
	if board := impl.SysBoard(down); board != "down\n" || !impl.SysSafe(down) {
		t.Errorf("the board is %q", board)
	}
	open, q := happen(t, "opened", down, q, opening(), 0)
	checkSees(t, "opened", open, q)
	for what, x := range okTrees() {
		s, p := newSys(t, what, modelOf(x))
		checkSees(t, what, s, p)
	}
	checkBlind(t, "nothing", impl.Sys{})
}

// A room below 0 is shown, too (P59).
func TestBoardOfWhatDoesNotFit(t *testing.T) {
	p := plantAt(5, leaving(t, 0)).logged(t, calling(call(chmod, "/a", 3)))
	s, p := startAt(t, "two pages too many", p)
	checkSees(t, "two pages too many", s, p)
	if board := impl.SysBoard(s); board != "gen 5, 1 groups, 2 layers, -2 pages\ndir / 0\ndir /a 3\nat /a\n" {
		t.Errorf("the board is %q", board)
	}
}

// P52, P70: a handle follows its file, also behind commits, power failures and openings.
func TestHandles(t *testing.T) {
	s, p := newSys(t, "handles", modelOf(example()))
	file, folder := impl.SysHandle(s, names("/a/b")), impl.SysHandle(s, names("/a"))
	if file != 2 || folder != 1 || impl.SysHandle(s, nil) != 0 {
		t.Fatalf("%d and %d", file, folder)
	}
	where := "/a/b"
	for i, e := range []impl.SysEvent{
		calling(renaming("/a/b", "/x")), committing(), calling(renaming("/x", "/d/y")), cutAt(1, calling(renaming("/d/y", "/zz"))), opening(), calling(renaming("/a", "/d/z")), calling(renaming("/d/y", "/d/z/b")), committing(),
		cutAt(0, committing()), opening(), calling(renaming("/d", "/e")), calling(writing("/e/z/b", 2, "!")), calling(call(chmod, "/e/z/b", 7)), calling(renaming("/e/z", "/a")), cutAt(3, committing()), opening(), calling(writing("/d", 0, "another")), committing(),
	} {
		next, code := p.do(e)
		s, p = happen(t, "handles", s, p, e, code)
		if e.Kind == impl.SysCalls && e.Call.Kind == rename && code == 0 && atOrBelow(where, text(e.Call.Path)) {
			where = text(e.Call.To) + where[len(text(e.Call.Path)):]
		}
		if !next.up {
			if data, code := impl.SysReadBy(s, file, 0, 9); data != "" || code != 12 {
				t.Errorf("event %d: by its id is read %q, code %d", i, data, code)
			}
			continue
		}
		data, code := impl.SysRead(s, names(where), 0, 9)
		by, again := impl.SysReadBy(s, file, 0, 9)
		if code != 0 || again != 0 || data != by || data[:2] != "hi" || impl.SysHandle(s, names(where)) != file {
			t.Errorf("event %d: at %s is read %q, code %d, by its id %q, code %d", i, where, data, code, by, again)
		}
	}
	if where != "/a/b" || impl.SysHandle(s, names("/a")) != folder {
		t.Errorf("it is at %s, and its directory has the id %d", where, impl.SysHandle(s, names("/a")))
	}
	if data, code := impl.SysReadBy(s, folder, 0, 9); data != "" || code != 4 {
		t.Errorf("of a directory is read %q, code %d", data, code)
	}
	// A file that is gone is nowhere, and one that is made at its path is another one.
	s, p = happenAll(t, "gone", s, p, calling(call(remove, "/a/b", 0)))
	if _, code := impl.SysReadBy(s, file, 0, 9); code != 3 {
		t.Errorf("code %d", code)
	}
	if _, code := impl.SysReadBy(s, file, -1, -1); code != 3 {
		t.Errorf("code %d", code)
	}
	s, _ = happenAll(t, "made anew", s, p, calling(writing("/a/b", 0, "x")), committing())
	if _, code := impl.SysReadBy(s, file, 0, 9); code != 3 || impl.SysHandle(s, names("/a/b")) <= file {
		t.Errorf("code %d, the id %d", code, impl.SysHandle(s, names("/a/b")))
	}
}

// P55: what is written and written back leaves no layer.
func TestWrittenBack(t *testing.T) {
	start, q := someSys(t)
	for what, list := range map[string][]impl.SysEvent{
		"a file":                     {calling(writing("/zz", 0, "x")), calling(renaming("/zz", "/c/y")), calling(renaming("/c/y", "/zz")), calling(call(remove, "/zz", 0))},
		"a file, with openings":      {calling(writing("/zz", 0, "x")), opening(), calling(renaming("/zz", "/c/y")), cutAt(1, committing()), opening(), calling(renaming("/c/y", "/zz")), calling(call(remove, "/zz", 0)), opening()},
		"a file below one that went": {calling(writing("/a/zz", 0, "x")), calling(renaming("/a", "/c/a")), calling(renaming("/c/a", "/a")), calling(call(remove, "/a/zz", 0))},
		"a directory":                {calling(call(mkdir, "/zz", 1)), calling(renaming("/zz", "/c/y")), calling(renaming("/c/y", "/zz")), calling(call(remove, "/zz", 0))},
		"many files": {
			calling(writing("/z1", 0, "")), calling(writing("/z2", 0, "")), calling(writing("/z3", 0, "")), calling(writing("/z4", 0, "")), calling(writing("/z5", 0, "")), calling(writing("/z6", 0, "")),
			calling(call(remove, "/z1", 0)), calling(call(remove, "/z2", 0)), calling(call(remove, "/z3", 0)), calling(call(remove, "/z4", 0)), calling(call(remove, "/z5", 0)), calling(call(remove, "/z6", 0)),
		},
	} {
		for _, k := range []struct {
			s impl.Sys
			p plant
		}{{start, q}, {impl.Sys{}, plantAt(1, storyOf(modelOf(other())).filled(20))}} {
			s, p := startAt(t, what, k.p)
			if k.s.Up {
				s = k.s
			}
			layer, _ := impl.SysLayer(s)
			walk, room := impl.SysWalk(s), impl.SysRoom(s.State)
			for _, e := range list {
				_, code := p.do(e)
				if code != 0 && code != 10 {
					t.Fatalf("%s: %+v: code %d", what, e, code)
				}
				s, p = happen(t, what, s, p, e, code)
			}
			after, _ := impl.SysLayer(s)
			if after != layer || impl.SysWalk(s) != walk || impl.SysRoom(s.State) > room {
				t.Errorf("%s: the layer is %q, by a walk %q, and was %q", what, after, impl.SysWalk(s), layer)
			}
		}
	}
}

// P56: a commit of nothing is an empty layer.
func TestCommitsOfNothing(t *testing.T) {
	s, p := someSys(t)
	for i := range 4 {
		before, _ := impl.SysSee(s)
		s, p = happen(t, "a commit", s, p, committing(), 0)
		layer, looks := impl.SysLayer(s)
		seen, _ := impl.SysSee(s)
		sealed, _ := impl.SysSealed(s)
		last := s.State.Layers[len(s.State.Layers)-1]
		if layer != "" || looks != 0 || impl.SysWalk(s) != "" || !same(seen, before) || !same(sealed, seen) || (last == "") != (i > 0) {
			t.Errorf("commit %d: %q, %d looks, the last layer is %q", i, layer, looks, last)
		}
		checkSees(t, "a commit", s, p)
	}
}

// What is ok is safe, too, but for want of room.
func TestSafe(t *testing.T) {
	s, p := someSys(t)
	down := impl.Sys{Disk: s.Disk}
	if !impl.SysSafe(s) || !impl.SysSafe(down) {
		t.Error("not safe")
	}
	over := plantAt(5, leaving(t, 1)).logged(t, calling(call(chmod, "/a", 3)))
	s, _ = startAt(t, "one page too many", over)
	if impl.SysSafe(s) || impl.SysSafe(impl.Sys{Disk: s.Disk}) || impl.SysRoom(s.State) != -1 {
		t.Error("safe, without room")
	}
	just := plantAt(5, leaving(t, 2)).logged(t, calling(call(chmod, "/a", 3)))
	s, _ = startAt(t, "all pages", just)
	if !impl.SysSafe(s) || !impl.SysSafe(impl.Sys{Disk: s.Disk}) || impl.SysRoom(s.State) != 0 {
		t.Error("not safe, with all pages")
	}
	if impl.SysSafe(impl.Sys{}) || impl.SysSafe(impl.Sys{Up: true}) {
		t.Error("nothing is safe")
	}
	// A trail that marks more leads to the same, and is as safe.
	p.story.trail = track{"": true}
	p = plantAt(3, p.story)
	s, p = startAt(t, "all marked", p)
	checkSees(t, "all marked", s, p)
	if !impl.SysSafe(s) {
		t.Error("not safe, all marked")
	}
}
