package tests

import (
	"fmt"
	"maps"
	"slices"
	"strings"
	"testing"

	"loop.example/changetrail/impl"
)

const (
	otherText = "dir / 0\ndir /a 4\nfile /a/b 0 686921\ndir /c 7\ndir /c/f 0\nfile /c/f/e 0 00ff\n"
	layerText = "mode /a 4\ndata /a/b 686921\ngone /c\nnewdir /c 7\nnewdir /c/f 0\nnew /c/f/e 0 00ff\ngone /d\n"
)

func other() impl.Tree {
	return dir(0,
		named{"a", dir(4, named{"b", file(0, "hi!")})},
		named{"c", dir(7, named{"f", dir(0, named{"e", file(0, "\x00\xff")})})})
}

func gone(path string) impl.Entry {
	return impl.Entry{Path: names(path), What: impl.EntryGone}
}

func newDir(path string, mode int) impl.Entry {
	return impl.Entry{Path: names(path), What: impl.EntryNew, Dir: true, Mode: mode}
}

func newFile(path string, mode int, data string) impl.Entry {
	return impl.Entry{Path: names(path), What: impl.EntryNew, Mode: mode, Data: data}
}

func moded(path string, mode int) impl.Entry {
	return impl.Entry{Path: names(path), What: impl.EntryMode, Mode: mode}
}

func dataed(path, data string) impl.Entry {
	return impl.Entry{Path: names(path), What: impl.EntryData, Data: data}
}

func sameEntries(a, b []impl.Entry) bool {
	return slices.EqualFunc(a, b, func(x, y impl.Entry) bool {
		return slices.Equal(x.Path, y.Path) && x.What == y.What && x.Dir == y.Dir && x.Mode == y.Mode && x.Data == y.Data
	})
}

// checkDiff asks all that is promised of what differs between two trees that are ok.
func checkDiff(t *testing.T, what string, base, cur impl.Tree) []impl.Entry {
	t.Helper()
	list := impl.DiffWalk(base, cur)
	if x, ok := impl.LayerApply(base, list); !ok || !same(x, cur) {
		t.Fatalf("%s: %v gives %q, not %q", what, list, impl.TreeShow(x), impl.TreeShow(cur))
	}
	if (len(list) == 0) != same(base, cur) {
		t.Errorf("%s: %d entries from %q to %q", what, len(list), impl.TreeShow(base), impl.TreeShow(cur))
	}
	text := impl.LayerWrite(list)
	again, ok := impl.LayerRead(text)
	if !ok || !sameEntries(list, again) || len(text) > 6000 || (text == "") != (len(list) == 0) {
		t.Errorf("%s: %v was written %q and read %v %v", what, list, text, again, ok)
	}
	if x, ok := impl.LayerApply(base, again); !ok || !same(x, cur) {
		t.Errorf("%s: read again it gives %q, not %q", what, impl.TreeShow(x), impl.TreeShow(cur))
	}
	for i := range list {
		less := slices.Delete(slices.Clone(list), i, i+1)
		if x, ok := impl.LayerApply(base, less); ok && same(x, cur) {
			t.Errorf("%s: entry %d of %v can be left out", what, i, list)
		}
	}
	return list
}

func TestExampleDiff(t *testing.T) {
	want := []impl.Entry{
		moded("/a", 4), dataed("/a/b", "hi!"), gone("/c"), newDir("/c", 7), newDir("/c/f", 0), newFile("/c/f/e", 0, "\x00\xff"), gone("/d"),
	}
	if impl.TreeShow(other()) != otherText {
		t.Fatal(impl.TreeShow(other()))
	}
	list := checkDiff(t, "example", example(), other())
	if !sameEntries(list, want) || impl.LayerWrite(list) != layerText {
		t.Errorf("%v, written %q", list, impl.LayerWrite(list))
	}
	read, ok := impl.LayerRead(layerText)
	if !ok || !sameEntries(read, want) {
		t.Errorf("read %v %v", read, ok)
	}
}

func TestDiffs(t *testing.T) {
	f, most := file(0, ""), strings.Repeat("\xff", 24)
	below := dir(1, named{"x", dir(2, named{"y", file(3, "y")})}, named{"z", f})
	for _, k := range []struct {
		what      string
		base, cur impl.Tree
		want      string
	}{
		{"nothing at all", dir(0), dir(0), ""},
		{"the root's mode alone", dir(0), dir(7), "mode / 7\n"},
		{"the root's mode alone, with something below", dir(3, named{"a", below}), dir(4, named{"a", below}), "mode / 4\n"},
		{"the root's mode, and what is below", dir(7, named{"a", f}), dir(0, named{"b", f}), "mode / 0\ngone /a\nnew /b 0 -\n"},
		{"only in the old one", dir(0, named{"a", below}), dir(0), "gone /a\n"},
		{"only in the new one", dir(0), dir(0, named{"a", below}), "newdir /a 1\nnewdir /a/x 2\nnew /a/x/y 3 79\nnew /a/z 0 -\n"},
		{"a file where a directory was", dir(0, named{"a", below}), dir(0, named{"a", file(1, "hi")}), "gone /a\nnew /a 1 6869\n"},
		{"a directory where a file was", dir(0, named{"a", file(1, "hi")}), dir(0, named{"a", below}), "gone /a\nnewdir /a 1\nnewdir /a/x 2\nnew /a/x/y 3 79\nnew /a/z 0 -\n"},
		{"an empty directory where an empty file was", dir(0, named{"a", f}), dir(0, named{"a", dir(0)}), "gone /a\nnewdir /a 0\n"},
		{"a file where a directory was, within another one", dir(0, named{"d", dir(0, named{"a", below}, named{"b", f})}), dir(0, named{"d", dir(0, named{"a", f}, named{"b", dir(0)})}), "gone /d/a\nnew /d/a 0 -\ngone /d/b\nnewdir /d/b 0\n"},
		{"mode of a file", dir(0, named{"a", f}), dir(0, named{"a", file(7, "")}), "mode /a 7\n"},
		{"bytes of a file", dir(0, named{"a", f}), dir(0, named{"a", file(0, "\x00")}), "data /a 00\n"},
		{"no bytes any more", dir(0, named{"a", file(0, most)}), dir(0, named{"a", f}), "data /a -\n"},
		{"mode and bytes", dir(0, named{"a", file(1, "a")}), dir(0, named{"a", file(0, "b")}), "mode /a 0\ndata /a 62\n"},
		{"mode ahead of what is below", dir(0, named{"d", dir(1, named{"a", file(0, "a")})}), dir(0, named{"d", dir(2, named{"a", file(3, "b")})}), "mode /d 2\nmode /d/a 3\ndata /d/a 62\n"},
		{"a name that goes on comes behind what is below", dir(0, named{"a", dir(0, named{"z", f})}, named{"a0", f}), dir(0, named{"a", dir(0)}, named{"a0", dir(0)}), "gone /a/z\ngone /a0\nnewdir /a0 0\n"},
		{"names in turn", dir(0, named{"a", f}, named{"c", f}, named{"e", f}), dir(0, named{"b", f}, named{"c", f}, named{"d", f}), "gone /a\nnew /b 0 -\nnew /d 0 -\ngone /e\n"},
		{"most names of a path", deep(3, named{"f", file(0, most)}), deep(3, named{"g", file(7, most)}), "gone /d/d/d/f\nnew /d/d/d/g 7 " + strings.Repeat("ff", 24) + "\n"},
	} {
		list := checkDiff(t, k.what, k.base, k.cur)
		if text := impl.LayerWrite(list); text != k.want {
			t.Errorf("%s: %q, not %q", k.what, text, k.want)
		}
		checkDiff(t, k.what+", back", k.cur, k.base)
		checkDiff(t, k.what+", and itself", k.cur, k.cur)
	}
}

// The longest layers: all names are as long as can be, and all that was is gone.
func TestGreatestDiff(t *testing.T) {
	full := func(first string) impl.Tree {
		x := impl.Tree{Dir: true}
		for i := range 27 {
			x.Names = append(x.Names, fmt.Sprintf("%s%04d", first, i))
			x.Kids = append(x.Kids, file(7, strings.Repeat("\xff", 24)))
		}
		return dir(7, named{first + "abcd", dir(7, named{"abcde", dir(7, named{"abcde", x})})})
	}
	base, cur := full("a"), full("b")
	if !impl.TreeOk(base) || impl.TreeCount(cur) != 30 {
		t.Fatal("not the greatest trees")
	}
	list := checkDiff(t, "greatest", base, cur)
	if len(list) != 31 {
		t.Errorf("%d entries", len(list))
	}
	wideA, wideB := wide(30), wide(30)
	for i := range wideA.Names {
		wideA.Names[i] = "a" + wideA.Names[i]
		wideB.Names[i] = "b" + wideB.Names[i]
	}
	if list := checkDiff(t, "widest", wideA, wideB); len(list) != 60 {
		t.Errorf("%d entries", len(list))
	}
}

func TestDiffOfBadTrees(t *testing.T) {
	for name, x := range badTrees() {
		for _, y := range []impl.Tree{example(), dir(0), x} {
			if list := impl.DiffWalk(x, y); len(list) != 0 {
				t.Errorf("from %s: %v", name, list)
			}
			if list := impl.DiffWalk(y, x); len(list) != 0 {
				t.Errorf("to %s: %v", name, list)
			}
		}
	}
}

// diff is what differs, told by the paths of both models: their texts are in the order of paths.
func (m model) diff(to model) []impl.Entry {
	all := maps.Clone(m)
	maps.Copy(all, to)
	var out []impl.Entry
	for _, p := range slices.Sorted(maps.Keys(all)) {
		was, old := m[p]
		is, now := to[p]
		path := names(p)
		if old && now && was.dir == is.dir {
			if was.mode != is.mode {
				out = append(out, impl.Entry{Path: path, What: impl.EntryMode, Mode: is.mode})
			}
			if was.data != is.data {
				out = append(out, impl.Entry{Path: path, What: impl.EntryData, Data: is.data})
			}
			continue
		}
		if old && to[above(p)].dir {
			out = append(out, impl.Entry{Path: path, What: impl.EntryGone})
		}
		if now {
			out = append(out, impl.Entry{Path: path, What: impl.EntryNew, Dir: is.dir, Mode: is.mode, Data: is.data})
		}
	}
	return out
}

// near is a model not far from another one: some calls behind it, or some parts become the other kind.
func (r maker) near(m model) model {
	for range r.IntN(6) {
		m, _ = m.do(r.call(m))
	}
	next := maps.Clone(m)
	for range r.IntN(3) {
		p := text(r.path(next))
		x, there := next[p]
		if !there {
			continue
		}
		if x.dir {
			for q := range maps.Clone(next) {
				if q != p && atOrBelow(q, p) {
					delete(next, q)
				}
			}
			next[p] = thing{mode: r.IntN(8), data: r.data(24)}
		} else {
			next[p] = thing{dir: true, mode: x.mode}
		}
	}
	if r.IntN(3) == 0 {
		next[""] = thing{dir: true, mode: r.IntN(8)}
	}
	return next
}

func TestMadeUpDiffs(t *testing.T) {
	r := newMaker(3)
	seen := map[int]int{}
	turned := 0
	for i := range 600 {
		m := r.model(i % 31)
		to := r.near(m)
		if i%3 == 0 {
			to = r.model(r.IntN(31))
		}
		list := checkDiff(t, "made up", m.tree(""), to.tree(""))
		if want := m.diff(to); !sameEntries(list, want) {
			t.Fatalf("from %q to %q: %v, not %v", m.show(), to.show(), list, want)
		}
		for j, e := range list {
			seen[e.What]++
			if e.What == impl.EntryNew && j > 0 && list[j-1].What == impl.EntryGone && text(list[j-1].Path) == text(e.Path) {
				turned++
			}
		}
	}
	if len(seen) != 4 || turned == 0 {
		t.Errorf("seen %v, %d turned into the other kind", seen, turned)
	}
}

// Layers on top of each other, one by one and all at once.
func TestLayersOnTop(t *testing.T) {
	r := newMaker(4)
	for i := range 120 {
		first := r.model(i % 31)
		m, x := first, first.tree("")
		var all []impl.Entry
		for range 6 {
			to := r.near(m)
			if r.IntN(4) == 0 {
				to = r.model(r.IntN(31))
			}
			read, _ := impl.LayerRead(impl.LayerWrite(impl.DiffWalk(m.tree(""), to.tree(""))))
			y, ok := impl.LayerApply(x, read)
			if !ok || !same(y, to.tree("")) {
				t.Fatalf("%v over %q: %q", read, m.show(), impl.TreeShow(y))
			}
			all = append(all, read...)
			m, x = to, y
		}
		y, ok := impl.LayerApply(first.tree(""), all)
		if !ok || !same(y, m.tree("")) {
			t.Fatalf("%v at once: %q", all, impl.TreeShow(y))
		}
	}
}
