package tests

import (
	"maps"
	"slices"
	"strings"
	"testing"

	"loop.example/changetrail/impl"
)

// checkLead asks what a trail leads to, and all that is promised of it.
func checkLead(t *testing.T, what string, base, cur impl.Tree, list []impl.Mark, want []impl.Entry, looks, below int, covers bool) {
	t.Helper()
	got, looked := impl.TrailDiff(base, cur, list)
	if !sameEntries(got, want) || looked != looks {
		t.Errorf("%s: %v from %q to %q: %d looks, not %d, and %v, not %v", what, list, impl.TreeShow(base), impl.TreeShow(cur), looked, looks, got, want)
	}
	if n := impl.TrailBelow(base, cur, list); n != below {
		t.Errorf("%s: %v from %q to %q: %d below, not %d", what, list, impl.TreeShow(base), impl.TreeShow(cur), n, below)
	}
	if ok := impl.TrailCovers(base, cur, list); ok != covers {
		t.Errorf("%s: %v from %q to %q: covers %v", what, list, impl.TreeShow(base), impl.TreeShow(cur), ok)
	}
	if !covers {
		return
	}
	if walked := impl.DiffWalk(base, cur); !sameEntries(got, walked) || impl.LayerWrite(got) != impl.LayerWrite(walked) {
		t.Errorf("%s: %v from %q to %q: %v, a walk finds %v", what, list, impl.TreeShow(base), impl.TreeShow(cur), got, walked)
	}
	if most := impl.VisitFactor*len(list)*impl.TreeMaxDepth + below; looked > most {
		t.Errorf("%s: %v from %q to %q: %d looks, at most %d", what, list, impl.TreeShow(base), impl.TreeShow(cur), looked, most)
	}
}

// leadCase is what is asked of two trees and a trail; the trail is told by words, the entries by a layer.
type leadCase struct {
	what         string
	base, cur    impl.Tree
	trail, layer string
	looks, below int
	covers       bool
}

func (k leadCase) check(t *testing.T) {
	t.Helper()
	want, ok := impl.LayerRead(k.layer)
	if !ok || !impl.TreeOk(k.base) || !impl.TreeOk(k.cur) || !impl.TrailOk(marks(k.trail)) {
		t.Fatalf("%s: not ok", k.what)
	}
	checkLead(t, k.what, k.base, k.cur, marks(k.trail), want, k.looks, k.below, k.covers)
}

func TestExampleLead(t *testing.T) {
	list, _ := impl.TrailRead(trailText)
	want, _ := impl.LayerRead(layerText)
	checkLead(t, "example", example(), other(), list, want, 7, 4, true)
	leadCase{"the root", example(), other(), "/*", layerText, 8, 8, true}.check(t)
	leadCase{"no marks", example(), other(), "", "", 0, 0, false}.check(t)
	for i, m := range list {
		less := slices.Delete(slices.Clone(list), i, i+1)
		if impl.TrailCovers(example(), other(), less) {
			t.Errorf("without %v it covers", m)
		}
	}
}

// some has parts at two levels below it: four paths with its own.
func some() impl.Tree {
	return dir(1, named{"x", dir(2, named{"y", file(3, "y")})}, named{"z", file(0, "")})
}

func TestLeadOfOneTreeAlone(t *testing.T) {
	none, f, d := dir(0), dir(0, named{"a", file(1, "hi")}), dir(0, named{"a", some()})
	newD := "newdir /a 1\nnewdir /a/x 2\nnew /a/x/y 3 79\nnew /a/z 0 -\n"
	for _, k := range []leadCase{
		{"a new file", none, f, "/a", "new /a 1 6869\n", 2, 0, true},
		{"a new file, under", none, f, "/a*", "new /a 1 6869\n", 2, 1, true},
		{"a new file, under the root", none, f, "/*", "new /a 1 6869\n", 2, 2, true},
		{"a new file, not marked", none, f, "/b", "", 1, 0, false},
		{"a new file, a mark below it", none, f, "/a/b", "new /a 1 6869\n", 2, 0, false},
		{"a new file, all marked below it", none, f, "/a/b*", "new /a 1 6869\n", 2, 0, false},
		{"a new directory below which all is marked", none, d, "/a /a/x /a/x/y /a/z", newD, 5, 0, true},
		{"a new directory below which all is marked, some under", none, d, "/a /a/x* /a/z", newD, 5, 2, true},
		{"a new directory below which all is marked, each with Sub", none, d, "/a /a/x* /a/z*", newD, 5, 3, true},
		{"a new directory, and more marks than parts", none, d, "/a /a/b /a/x /a/x/y /a/x/z /a/z", newD, 5, 0, true},
		{"a new directory, under", none, d, "/a*", newD, 5, 4, true},
		{"a new directory, under the root", none, d, "/*", newD, 5, 5, true},
		{"a new directory, it alone marked", none, d, "/a", newD, 5, 0, false},
		{"a new directory, one below marked", none, d, "/a/x/y", newD, 5, 0, false},
		{"a new directory, all but it marked", none, d, "/a/x* /a/z", newD, 5, 2, false},
		{"a new directory, all but the last marked", none, d, "/a /a/x /a/x/y", newD, 5, 0, false},
		{"a new directory, nothing marked", none, d, "/a0 /b", "", 1, 0, false},
		{"a file that is gone", f, none, "/a", "gone /a\n", 2, 0, true},
		{"a file that is gone, under", f, none, "/a*", "gone /a\n", 2, 1, true},
		{"a file that is gone, under the root", f, none, "/*", "gone /a\n", 2, 2, true},
		{"a file that is gone, not marked", f, none, "/0", "", 1, 0, false},
		{"a directory that is gone", d, none, "/a", "gone /a\n", 2, 0, false},
		{"a directory that is gone, all marked", d, none, "/a /a/x /a/x/y /a/z", "gone /a\n", 2, 0, true},
		{"a directory that is gone, some under", d, none, "/a /a/x* /a/z*", "gone /a\n", 2, 3, true},
		{"a directory that is gone, under", d, none, "/a*", "gone /a\n", 2, 4, true},
		{"a directory that is gone, under the root", d, none, "/*", "gone /a\n", 5, 5, true},
		{"a directory that is gone, one below marked", d, none, "/a/x/y", "gone /a\n", 2, 0, false},
	} {
		k.check(t)
	}
}

func TestLeadOfWhatTurned(t *testing.T) {
	f, d := dir(0, named{"a", file(1, "hi")}), dir(0, named{"a", some()})
	toF, toD := "gone /a\nnew /a 1 6869\n", "gone /a\nnewdir /a 1\nnewdir /a/x 2\nnew /a/x/y 3 79\nnew /a/z 0 -\n"
	within := func(x impl.Tree) impl.Tree { return dir(0, named{"d", x}) }
	for _, k := range []leadCase{
		{"a file where a directory was, marked", d, f, "/a", toF, 2, 0, false},
		{"a file where a directory was, all marked", d, f, "/a /a/x /a/x/y /a/z", toF, 2, 0, true},
		{"a file where a directory was, what is gone under", d, f, "/a /a/x* /a/z", toF, 2, 2, true},
		{"a file where a directory was, under", d, f, "/a*", toF, 2, 4, true},
		{"a file where a directory was, under the root", d, f, "/*", toF, 5, 5, true},
		{"a file where a directory was, under one above", within(d), within(f), "/d*", "gone /d/a\nnew /d/a 1 6869\n", 6, 5, true},
		{"a file where a directory was, one below marked", d, f, "/a/z", toF, 2, 0, false},
		{"a file where a directory was, not marked", d, f, "/b*", "", 1, 0, false},
		{"a directory where a file was, marked", f, d, "/a", toD, 5, 0, false},
		{"a directory where a file was, all marked", f, d, "/a /a/x /a/x/y /a/z", toD, 5, 0, true},
		{"a directory where a file was, what is new under", f, d, "/a /a/x* /a/z*", toD, 5, 3, true},
		{"a directory where a file was, under", f, d, "/a*", toD, 5, 4, true},
		{"a directory where a file was, under the root", f, d, "/*", toD, 5, 5, true},
		{"a directory where a file was, under one above", within(f), within(d), "/d*", "gone /d/a\nnewdir /d/a 1\nnewdir /d/a/x 2\nnew /d/a/x/y 3 79\nnew /d/a/z 0 -\n", 6, 5, true},
		{"a directory where a file was, one below marked", f, d, "/a/x", toD, 5, 0, false},
		{"a directory where a file was, not marked", f, d, "/a0", "", 1, 0, false},
		{"an empty directory where an empty file was", dir(0, named{"a", file(0, "")}), dir(0, named{"a", dir(0)}), "/a", "gone /a\nnewdir /a 0\n", 2, 0, true},
		{"an empty file where an empty directory was", dir(0, named{"a", dir(0)}), dir(0, named{"a", file(0, "")}), "/a*", "gone /a\nnew /a 0 -\n", 2, 1, true},
	} {
		k.check(t)
	}
}

func TestLeadOfBoth(t *testing.T) {
	was := dir(0, named{"a", dir(1, named{"b", file(2, "b")}, named{"c", dir(3, named{"d", file(4, "d")})})}, named{"a0", file(5, "e")})
	is := dir(7, named{"a", dir(2, named{"b", file(3, "bb")}, named{"c", dir(4, named{"d", file(4, "dd")})})}, named{"a0", file(5, "")})
	all := "mode / 7\nmode /a 2\nmode /a/b 3\ndata /a/b 6262\nmode /a/c 4\ndata /a/c/d 6464\ndata /a0 -\n"
	same := is
	same.Mode = 0
	for _, k := range []leadCase{
		{"the root with Sub", was, is, "/*", all, 6, 6, true},
		{"all but the root marked", was, is, "/a /a/b /a/c /a/c/d /a0", strings.TrimPrefix(all, "mode / 7\n"), 6, 0, false},
		{"all marked, the root stays", was, same, "/a /a/b /a/c /a/c/d /a0", strings.TrimPrefix(all, "mode / 7\n"), 6, 0, true},
		{"all marked or under, the root stays", was, same, "/a /a/b /a/c* /a0", strings.TrimPrefix(all, "mode / 7\n"), 6, 2, true},
		{"all under", was, same, "/a* /a0*", strings.TrimPrefix(all, "mode / 7\n"), 6, 5, true},
		{"a directory's mode alone", was, same, "/a", "mode /a 2\n", 2, 0, false},
		{"a file's mode and bytes", was, same, "/a/b", "mode /a/b 3\ndata /a/b 6262\n", 3, 0, false},
		{"a file with Sub", was, same, "/a/b*", "mode /a/b 3\ndata /a/b 6262\n", 3, 1, false},
		{"on the way it differs, and is not marked", was, same, "/a/c/d", "data /a/c/d 6464\n", 4, 0, false},
		{"a sibling that differs is not looked at", was, same, "/a/c*", "mode /a/c 4\ndata /a/c/d 6464\n", 4, 2, false},
		{"a longer name is not below", was, same, "/a0", "data /a0 -\n", 2, 0, false},
		{"a mark below a file that differs", was, same, "/a0/b", "", 2, 0, false},
		{"all marked below a file that differs", was, same, "/a0/b*", "", 2, 0, false},
		{"a mark where neither has something", was, same, "/b", "", 1, 0, false},
		{"one far from anything", was, same, "/b/c/d/e*", "", 1, 0, false},
		{"one where neither has something, and what is ahead differs", was, same, "/a/e", "", 2, 0, false},
		{"some where neither has something", was, was, "/a/e /a/f* /a1 /b/c*", "", 2, 0, true},
		{"no marks, and nothing differs", was, was, "", "", 0, 0, true},
		{"no marks, and one differs", was, same, "", "", 0, 0, false},
		{"no marks, and the root differs", dir(0), dir(1), "", "", 0, 0, false},
		{"a mark, and the root differs", dir(0), dir(1), "/a", "", 1, 0, false},
		{"the root alone differs", dir(0), dir(1), "/*", "mode / 1\n", 1, 1, true},
		{"the root alone", dir(0), dir(0), "/*", "", 1, 1, true},
		{"what stays is looked at", was, was, "/a /a/b /a/c* /a0", "", 6, 2, true},
	} {
		k.check(t)
	}
}

// Names that only one has, and some of both, under a mark and on the way to some.
func TestLeadOfMixedNames(t *testing.T) {
	f, g := file(0, ""), file(1, "")
	was := dir(0, named{"d", dir(0, named{"a", f}, named{"c", f}, named{"e", dir(0, named{"x", f}, named{"y", f})})})
	is := dir(0, named{"d", dir(0, named{"b", f}, named{"c", g}, named{"e", dir(0, named{"y", g}, named{"z", f})})})
	all := "gone /d/a\nnew /d/b 0 -\nmode /d/c 1\ngone /d/e/x\nmode /d/e/y 1\nnew /d/e/z 0 -\n"
	leadCase{"the root", was, is, "/*", all, 9, 9, true}.check(t)
	leadCase{"under", was, is, "/d*", all, 9, 8, true}.check(t)
	leadCase{"marked", was, is, "/d/a /d/b /d/c /d/e*", all, 9, 4, true}.check(t)
	leadCase{"each marked", was, is, "/d/b /d/c /d/e /d/e/x /d/e/y /d/e/z", strings.TrimPrefix(all, "gone /d/a\n"), 8, 0, false}.check(t)
	leadCase{"back", is, was, "/d/a /d/b /d/c /d/e*", "new /d/a 0 -\ngone /d/b\nmode /d/c 0\nnew /d/e/x 0 -\nmode /d/e/y 0\ngone /d/e/z\n", 9, 4, true}.check(t)
}

// The greatest trees, the longest paths, and as many marks as there may be.
func TestLeadAtTheLimits(t *testing.T) {
	was, is := wide(30), wide(30)
	for i := range is.Names {
		is.Names[i] = "g" + is.Names[i]
	}
	checkLead(t, "all names differ", was, is, marks("/*"), impl.DiffWalk(was, is), 61, 61, true)
	checkLead(t, "no name is marked", was, is, marks("/a* /b*"), nil, 1, 0, false)
	checkLead(t, "the greatest tree", was, was, marks("/*"), nil, 31, 31, true)
	leadCase{"most marks", was, wide(24), "/f24 /f25 /f26 /f27 /f28 /f29", "gone /f24\ngone /f25\ngone /f26\ngone /f27\ngone /f28\ngone /f29\n", 7, 0, true}.check(t)
	leadCase{"one more differs", was, wide(23), "/f24 /f25 /f26 /f27 /f28 /f29", "gone /f24\ngone /f25\ngone /f26\ngone /f27\ngone /f28\ngone /f29\n", 7, 0, false}.check(t)
	all := impl.DiffWalk(dir(0), was)
	checkLead(t, "as many as can be new", dir(0), was, marks("/*"), all, 31, 31, true)
	great := impl.DiffWalk(dir(0), dir(0, named{"a", wide(29)}))
	checkLead(t, "a great directory", dir(0), dir(0, named{"a", wide(29)}), marks("/a*"), great, 31, 30, true)
	far, near := deep(3, named{"f", file(0, "")}), deep(3, named{"f", file(0, "x")})
	leadCase{"the longest path", far, near, "/d/d/d/f", "data /d/d/d/f 78\n", 5, 0, true}.check(t)
	leadCase{"the longest path, under", far, near, "/d/d/d/f*", "data /d/d/d/f 78\n", 5, 1, true}.check(t)
	for _, names := range []int{1, 2, 3} {
		path := strings.Repeat("/d", names)
		leadCase{"the longest path, under " + path, far, near, path + "*", "data /d/d/d/f 78\n", 5, 5 - names, true}.check(t)
	}
}

// Six marks that share no way: as many looks as there can be without Sub.
func TestMostLooks(t *testing.T) {
	was, is := impl.Tree{Dir: true}, impl.Tree{Dir: true}
	var list []impl.Mark
	for _, name := range []string{"a", "b", "c", "d", "e", "f"} {
		was.Names, is.Names = append(was.Names, name), append(is.Names, name)
		was.Kids, is.Kids = append(was.Kids, deep(2, named{"x", file(0, "")})), append(is.Kids, deep(2, named{"x", file(0, "y")}))
		list = append(list, at("/"+name+"/d/d/x"))
	}
	checkLead(t, "most looks", was, is, list, impl.DiffWalk(was, is), 25, 0, true)
}

func TestLeadOfBadTrees(t *testing.T) {
	trails := [][]impl.Mark{nil, marks("/*"), marks("/a"), marks("/d*"), marks("/a /b /c /d /e /f")}
	for name, x := range badTrees() {
		for _, list := range append(trails, badTrails()["twice"]) {
			checkLead(t, "base "+name, x, example(), list, nil, 0, 0, false)
			checkLead(t, "cur "+name, example(), x, list, nil, 0, 0, false)
			checkLead(t, "both "+name, x, x, list, nil, 0, 0, false)
		}
	}
}

func TestLeadOfBadTrails(t *testing.T) {
	for name, list := range badTrails() {
		checkLead(t, name, example(), other(), list, nil, 0, 0, false)
		checkLead(t, name, example(), example(), list, nil, 0, 0, false)
		checkLead(t, name, dir(0), dir(0), list, nil, 0, 0, false)
	}
}

// leads is where a trail leads between two models, told path by path: each by what is above it.
type leads struct {
	old, now model
	trail    track
}

// paths is all that either has, each ahead of what is within it.
func (l leads) paths() []string {
	both := maps.Clone(l.old)
	maps.Copy(both, l.now)
	return slices.Sorted(maps.Keys(both))
}

// kinds in the order of the document.
const (
	kindNew    = "only in cur"
	kindGone   = "only in base"
	kindTurned = "a file in one, a directory in the other one"
	kindUnder  = "under the trail"
	kindElse   = "else"
)

func (l leads) kind(path string) string {
	was, old := l.old[path]
	is, now := l.now[path]
	switch {
	case !old:
		return kindNew
	case !now:
		return kindGone
	case was.dir != is.dir:
		return kindTurned
	case l.trail.under(path):
		return kindUnder
	}
	return kindElse
}

// looked says whether one comes to a path by itself.
func (l leads) looked(path string) bool {
	if path == "" {
		return true
	}
	for p := range l.trail {
		if atOrBelow(p, path) {
			return l.kind(above(path)) == kindElse && l.looked(above(path))
		}
	}
	return false
}

// tells says whether what becomes of a path is found.
func (l leads) tells(path string) bool {
	for p := path; ; p = above(p) {
		if l.looked(p) && l.kind(p) != kindElse {
			return true
		}
		if p == "" {
			return l.looked(path) && l.trail.marked(path)
		}
	}
}

func (l leads) diff() ([]impl.Entry, int) {
	if len(l.trail) == 0 {
		return nil, 0
	}
	looks := 0
	for _, path := range l.paths() {
		if !l.looked(path) {
			continue
		}
		switch l.kind(path) {
		case kindGone, kindElse:
			looks++
		case kindUnder:
			looks += l.below(path)
		default:
			looks += leads{old: model{}, now: l.now}.below(path)
		}
	}
	list := slices.DeleteFunc(l.old.diff(l.now), func(e impl.Entry) bool { return !l.tells(text(e.Path)) })
	return list, looks
}

// below is how many paths both have at a path or below it.
func (l leads) below(path string) int {
	n := 0
	for _, p := range l.paths() {
		if atOrBelow(p, path) {
			n++
		}
	}
	return n
}

func (l leads) allBelow() int {
	n := 0
	for p, all := range l.trail {
		if all {
			n += l.below(p)
		}
	}
	return n
}

func (l leads) differing() []string {
	return slices.DeleteFunc(l.paths(), func(p string) bool {
		was, old := l.old[p]
		is, now := l.now[p]
		return old && now && was == is
	})
}

func (l leads) covers() bool {
	return !slices.ContainsFunc(l.differing(), func(p string) bool { return !l.trail.marked(p) })
}

func (l leads) check(t *testing.T, what string) {
	t.Helper()
	want, looks := l.diff()
	checkLead(t, what, l.old.tree(""), l.now.tree(""), l.trail.list(), want, looks, l.allBelow(), l.covers())
}

// trail is one with marks of paths that differ, and some others.
func (r maker) trail(l leads, few bool) track {
	k := track{}
	for _, p := range l.differing() {
		if p != "" && (!few || r.IntN(3) == 0) {
			k.add(p, r.IntN(5) == 0)
		} else if p == "" && r.IntN(4) == 0 {
			k.add(p, true)
		}
	}
	for range r.IntN(4) {
		k.add(text(r.path(l.now)), r.IntN(6) == 0)
		k.add(text(r.path(l.old)), r.IntN(6) == 0)
	}
	k.coarsen()
	return k
}

func TestMadeUpLeads(t *testing.T) {
	r := newMaker(8)
	kinds, covers := map[string]int{}, map[bool]int{}
	for i := range 2500 {
		m := r.model(i % 31)
		l := leads{old: m, now: r.near(m)}
		if i%5 == 0 {
			l.now = r.model(r.IntN(31))
		}
		l.trail = r.trail(l, i%2 == 0)
		l.check(t, "made up")
		if t.Failed() {
			return
		}
		for _, p := range l.paths() {
			if l.looked(p) {
				kinds[l.kind(p)]++
			}
		}
		covers[l.covers() && len(l.differing()) > 0]++
	}
	if len(kinds) != 5 || kinds[kindTurned] < 50 || covers[true] < 300 || covers[false] < 300 {
		t.Errorf("%v, covers %v", kinds, covers)
	}
}

// Of a tree and itself nothing differs, whatever the trail.
func TestNothingDiffers(t *testing.T) {
	for name, x := range okTrees() {
		for _, list := range okTrails() {
			got, looks := impl.TrailDiff(x, x, list)
			if len(got) != 0 || (looks == 0) != (len(list) == 0) || !impl.TrailCovers(x, x, list) {
				t.Errorf("%s, %v: %v, %d looks", name, list, got, looks)
			}
		}
	}
	r := newMaker(9)
	for i := range 600 {
		m := r.model(i % 31)
		l := leads{old: m, now: m, trail: track{}}
		for range r.IntN(9) {
			mark := r.mark(i%2 == 0)
			l.trail.add(text(mark.Path), mark.Sub)
		}
		l.trail.coarsen()
		l.check(t, "itself")
		if got, _ := impl.TrailDiff(m.tree(""), m.tree(""), l.trail.list()); len(got) != 0 {
			t.Fatalf("%v of %q and itself: %v", l.trail, m.show(), got)
		}
	}
}
