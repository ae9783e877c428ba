package tests

import (
	"fmt"
	"maps"
	"math"
	"slices"
	"strings"
	"testing"

	"loop.example/changetrail/impl"
)

// upper is what lies over a model that it makes another one, told path by path.
func (m model) upper(to model) impl.Upper {
	both := maps.Clone(m)
	maps.Copy(both, to)
	var u impl.Upper
	for _, p := range slices.Sorted(maps.Keys(both)) {
		was, old := m[p]
		is, now := to[p]
		if old && p != "" && (!now || was.dir != is.dir) && to[above(p)].dir {
			u.Gone = append(u.Gone, names(p))
		}
		if now && (!old || was != is) {
			u.Puts = append(u.Puts, impl.Entry{Path: names(p), What: impl.EntryNew, Dir: is.dir, Mode: is.mode, Data: is.data})
		}
	}
	return u
}

// seen is what one sees through an upper over a model, from the root on, name by name.
func (m model) seen(u impl.Upper) model {
	out := model{}
	m.see(u, "", out)
	return out
}

func (m model) see(u impl.Upper, path string, out model) {
	x, there := m[path]
	for _, gone := range u.Gone {
		there = there && !atOrBelow(path, text(gone))
	}
	further := m.below(path)
	for _, e := range u.Puts {
		p := text(e.Path)
		if p == path {
			x, there = thing{e.Dir, e.Mode, e.Data}, true
		}
		if p != "" && above(p) == path {
			further = append(further, p[len(path)+1:])
		}
	}
	if !there {
		return
	}
	out[path] = x
	if x.dir {
		for _, name := range further {
			m.see(u, path+"/"+name, out)
		}
	}
}

// upperText is an upper as it is written, one that can be.
func upperText(u impl.Upper) string {
	out := ""
	for _, path := range u.Gone {
		out += "hide " + text(path) + "\n"
	}
	for _, e := range u.Puts {
		out += model{text(e.Path): {e.Dir, e.Mode, e.Data}}.show()
	}
	return out
}

func sameUpper(a, b impl.Upper) bool {
	return slices.EqualFunc(a.Gone, b.Gone, slices.Equal[[]string]) && sameEntries(a.Puts, b.Puts)
}

func noUpper(u impl.Upper) bool {
	return sameUpper(u, impl.Upper{})
}

// over is an upper: paths that are hidden, by their words, and what is put.
func over(hidden string, puts ...impl.Entry) impl.Upper {
	u := impl.Upper{Puts: puts}
	for _, word := range strings.Fields(hidden) {
		u.Gone = append(u.Gone, names(word))
	}
	return u
}

// checkUpper asks for the upper that makes a model of another one, and for all that can be asked of it.
func checkUpper(t *testing.T, what string, base, cur model) impl.Upper {
	t.Helper()
	rows := base.rows()
	u, ok := impl.UpperOf(rows, cur.tree(""))
	if !ok || !sameUpper(u, base.upper(cur)) {
		t.Errorf("%s: from %q to %q: %v %v, not %v", what, base.show(), cur.show(), ok, u, base.upper(cur))
	}
	checkSight(t, what, rows, u, base, cur)
	if noUpper(u) != maps.Equal(base, cur) {
		t.Errorf("%s: from %q to %q: %v", what, base.show(), cur.show(), u)
	}
	written := impl.UpperWrite(u)
	read, ok := impl.UpperRead(written)
	if written != upperText(u) || !ok || !sameUpper(read, u) {
		t.Errorf("%s: written %q, and read %v %v", what, written, ok, read)
	}
	return u
}

// checkSight asks for what one sees through an upper that is ok.
func checkSight(t *testing.T, what string, rows []impl.Row, u impl.Upper, base, cur model) {
	t.Helper()
	x, ok := impl.UpperTree(rows, u)
	if !ok || !same(x, cur.tree("")) || !impl.UpperOk(rows, u) {
		t.Errorf("%s: %v over %q is %v %q, not %q", what, u, base.show(), ok, impl.TreeShow(x), cur.show())
	}
	paths := [][]string{nil, {}, {"n"}, {"a", "b", "c", "d"}, {"a", "b", "c", "d", "e"}, {""}, {"a", ""}, {"a/b"}, {"/a"}, {"A"}}
	for p := range base {
		paths = append(paths, names(p), names(p+"/n"))
	}
	for p := range cur {
		paths = append(paths, names(p), names(p+"/a"))
	}
	for _, path := range paths {
		if len(path) == 1 && path[0] == "" || slices.Contains(path, "a/b") || slices.Contains(path, "/a") || len(path) == 2 && path[1] == "" {
			checkLook(t, what, rows, u, path, thing{}, false, nil)
			continue
		}
		want, there := cur[text(path)]
		checkLook(t, what, rows, u, path, want, there, cur.below(text(path)))
		y, is := impl.TreeAt(x, path)
		got, seen := impl.UpperLook(rows, u, path)
		if is != seen || !same(got, impl.Tree{Dir: y.Dir, Mode: y.Mode, Data: y.Data}) || !slices.Equal(y.Names, impl.UpperNames(rows, u, path)) {
			t.Errorf("%s: at %q one sees %v %v, and the tree has %v %v", what, path, seen, got, is, y)
		}
	}
}

func checkLook(t *testing.T, what string, rows []impl.Row, u impl.Upper, path []string, want thing, there bool, list []string) {
	t.Helper()
	x, ok := impl.UpperLook(rows, u, path)
	if ok != there || !same(x, impl.Tree{Dir: want.dir, Mode: want.mode, Data: want.data}) {
		t.Errorf("%s: at %q one sees %v %v, not %v %v", what, path, ok, x, there, want)
	}
	if got := impl.UpperNames(rows, u, path); !slices.Equal(got, list) {
		t.Errorf("%s: below %q one sees %q, not %q", what, path, got, list)
	}
}

// checkNoSight asks for the answers that there are of an upper that is not ok.
func checkNoSight(t *testing.T, what string, rows []impl.Row, u impl.Upper) {
	t.Helper()
	x, ok := impl.UpperTree(rows, u)
	if impl.UpperOk(rows, u) || ok || !isNothing(x) {
		t.Errorf("%s: ok %v, one sees %v %v", what, impl.UpperOk(rows, u), ok, x)
	}
	paths := [][]string{nil, {}, {"a"}, {"a", "b"}, {"c"}, {"d"}, {"n"}, {"n", "m"}, {""}}
	for _, e := range u.Puts[:min(len(u.Puts), 40)] {
		paths = append(paths, e.Path)
	}
	for _, path := range paths {
		checkLook(t, what, rows, u, path, thing{}, false, nil)
	}
	for _, c := range append(noCalls(), call(mkdir, "/n", 0), call(chmod, "/a", 0), call(remove, "/n", 0), renaming("/a", "/n"), renaming("/a", "/a")) {
		if v, code := impl.UpperDo(rows, u, c); code != 1 || !noUpper(v) {
			t.Errorf("%s: %+v: code %d, %v", what, c, code, v)
		}
	}
}

func TestUpperLimits(t *testing.T) {
	if impl.UpperMaxText != 4000 {
		t.Error("the limit is not the document's")
	}
}

func TestExampleUpper(t *testing.T) {
	u := checkUpper(t, "the example", modelOf(example()), modelOf(other()))
	want := over("/c /d", newDir("/a", 4), newFile("/a/b", 0, "hi!"), newDir("/c", 7), newDir("/c/f", 0), newFile("/c/f/e", 0, "\x00\xff"))
	if !sameUpper(u, want) {
		t.Errorf("%v", u)
	}
	if text := impl.UpperWrite(u); text != "hide /c\nhide /d\ndir /a 4\nfile /a/b 0 686921\ndir /c 7\ndir /c/f 0\nfile /c/f/e 0 00ff\n" {
		t.Errorf("%q", text)
	}
	checkUpper(t, "the example, back", modelOf(other()), modelOf(example()))
}

func TestUppers(t *testing.T) {
	f, most := file(0, ""), strings.Repeat("\xff", 24)
	below := dir(1, named{"x", dir(2, named{"y", file(3, "y")})}, named{"z", f})
	put := "dir /a 1\ndir /a/x 2\nfile /a/x/y 3 79\nfile /a/z 0 -\n"
	for _, k := range []struct {
		what      string
		base, cur impl.Tree
		want      string
	}{
		{"the sealed tree", below, below, ""},
		{"the sealed tree, a root alone", dir(3), dir(3), ""},
		{"the root's mode alone", dir(0), dir(7), "dir / 7\n"},
		{"the root's mode alone, with something below", dir(3, named{"a", below}), dir(4, named{"a", below}), "dir / 4\n"},
		{"the root's mode, and what is below", dir(7, named{"a", f}), dir(0, named{"b", f}), "hide /a\ndir / 0\nfile /b 0 -\n"},
		{"all is gone", dir(0, named{"a", below}), dir(0), "hide /a\n"},
		{"all is new", dir(0), dir(0, named{"a", below}), put},
		{"all is new, the root's mode, too", dir(0), dir(1, named{"a", below}), "dir / 1\n" + put},
		{"a file where a directory was", dir(0, named{"a", below}), dir(0, named{"a", file(1, "hi")}), "hide /a\nfile /a 1 6869\n"},
		{"a directory where a file was", dir(0, named{"a", file(1, "hi")}), dir(0, named{"a", below}), "hide /a\n" + put},
		{"an empty directory where an empty file was", dir(0, named{"a", f}), dir(0, named{"a", dir(0)}), "hide /a\ndir /a 0\n"},
		{"an empty file where an empty directory was", dir(0, named{"a", dir(0)}), dir(0, named{"a", f}), "hide /a\nfile /a 0 -\n"},
		{"a file where a directory was, within another one", dir(0, named{"d", dir(0, named{"a", below}, named{"b", f})}), dir(0, named{"d", dir(0, named{"a", f}, named{"b", dir(0)})}), "hide /d/a\nhide /d/b\nfile /d/a 0 -\ndir /d/b 0\n"},
		{"mode of a file", dir(0, named{"a", f}), dir(0, named{"a", file(7, "")}), "file /a 7 -\n"},
		{"mode of a file that has bytes", dir(0, named{"a", file(0, "x")}), dir(0, named{"a", file(7, "x")}), "file /a 7 78\n"},
		{"bytes of a file", dir(0, named{"a", file(5, "")}), dir(0, named{"a", file(5, "\x00")}), "file /a 5 00\n"},
		{"no bytes any more", dir(0, named{"a", file(5, most)}), dir(0, named{"a", file(5, "")}), "file /a 5 -\n"},
		{"mode and bytes, put once", dir(0, named{"a", file(1, "a")}, named{"b", file(1, "a")}), dir(0, named{"a", file(0, "b")}, named{"b", file(0, "b")}), "file /a 0 62\nfile /b 0 62\n"},
		{"mode of a directory, what is below stays", dir(0, named{"a", below}), dir(0, named{"a", dir(7, named{"x", below.Kids[0]}, named{"z", f})}), "dir /a 7\n"},
		{"mode of a directory, and one below", dir(0, named{"d", dir(1, named{"a", file(0, "a")})}), dir(0, named{"d", dir(2, named{"a", file(3, "b")})}), "dir /d 2\nfile /d/a 3 62\n"},
		{"below a directory that stays", dir(0, named{"d", dir(1, named{"a", f}, named{"c", f})}), dir(0, named{"d", dir(1, named{"b", f}, named{"c", f})}), "hide /d/a\nfile /d/b 0 -\n"},
		{"a name that goes on comes behind what is below", dir(0, named{"a", dir(0, named{"z", f})}, named{"a0", f}), dir(0, named{"a", dir(0)}, named{"a0", dir(0)}), "hide /a/z\nhide /a0\ndir /a0 0\n"},
		{"the longest path", deep(3, named{"f", f}), deep(3, named{"g", file(7, most)}), "hide /d/d/d/f\nfile /d/d/d/g 7 " + strings.Repeat("ff", 24) + "\n"},
	} {
		base, cur := modelOf(k.base), modelOf(k.cur)
		if text := impl.UpperWrite(checkUpper(t, k.what, base, cur)); text != k.want {
			t.Errorf("%s: %q, not %q", k.what, text, k.want)
		}
		checkUpper(t, k.what+", back", cur, base)
		checkUpper(t, k.what+", and itself", cur, cur)
	}
}

// Of the names below one directory some are hidden, some put, some sealed, and some are what they were not.
func TestUpperNames(t *testing.T) {
	f := file(1, "x")
	base := dir(0, named{"d", dir(0, named{"a", f}, named{"b", f}, named{"c", dir(0, named{"x", f})}, named{"e", f}, named{"g", dir(0, named{"x", f})}, named{"h", f})})
	u := over("/d/a /d/c /d/e", newFile("/d/0", 0, ""), newFile("/d/b", 2, "y"), newFile("/d/c", 0, ""), newFile("/d/d", 0, ""), newDir("/d/e", 3), newFile("/d/e/y", 0, ""), newFile("/d/g/w", 0, ""), newFile("/d/z", 0, ""))
	want := "dir / 0\ndir /d 0\nfile /d/0 0 -\nfile /d/b 2 79\nfile /d/c 0 -\nfile /d/d 0 -\ndir /d/e 3\nfile /d/e/y 0 -\ndir /d/g 0\nfile /d/g/w 0 -\nfile /d/g/x 1 78\nfile /d/h 1 78\nfile /d/z 0 -\n"
	rows := impl.TableMake(base)
	x, ok := impl.UpperTree(rows, u)
	if !ok || impl.TreeShow(x) != want {
		t.Fatalf("%v %q", ok, impl.TreeShow(x))
	}
	checkSight(t, "mixed", rows, u, modelOf(base), modelOf(x))
	checkUpper(t, "mixed", modelOf(base), modelOf(x))
	for path, list := range map[string]string{"/": "[d]", "/d": "[0 b c d e g h z]", "/d/c": "[]", "/d/c/x": "[]", "/d/e": "[y]", "/d/g": "[w x]", "/d/h": "[]", "/d/a": "[]", "/n": "[]"} {
		if got := fmt.Sprint(impl.UpperNames(rows, u, names(path))); got != list {
			t.Errorf("%s: %s, not %s", path, got, list)
		}
	}
	for _, path := range []string{"/d/a", "/d/c/x", "/d/e/x", "/d/0/x", "/d/f", "/c"} {
		if y, ok := impl.UpperLook(rows, u, names(path)); ok || !isNothing(y) {
			t.Errorf("%s: %v", path, y)
		}
	}
}

func TestUppersOfOkTrees(t *testing.T) {
	all := okTrees()
	for one, x := range all {
		for two, y := range all {
			checkUpper(t, one+", "+two, modelOf(x), modelOf(y))
		}
		if t.Failed() {
			return
		}
	}
}

// As many paths hidden and as many parts put as can be.
func TestGreatestUpper(t *testing.T) {
	base, cur := wide(30), wide(30)
	for i := range cur.Names {
		cur.Names[i] = "g" + cur.Names[i]
	}
	cur.Mode = 1
	u := checkUpper(t, "all names differ", modelOf(base), modelOf(cur))
	if len(u.Gone) != 30 || len(u.Puts) != 31 {
		t.Errorf("%d gone, %d put", len(u.Gone), len(u.Puts))
	}
	base = wide(30)
	cur.Names = base.Names
	for i := range cur.Kids {
		cur.Kids[i] = dir(0)
	}
	u = checkUpper(t, "all are turned", modelOf(base), modelOf(cur))
	if len(u.Gone) != 30 || len(u.Puts) != 31 {
		t.Errorf("%d gone, %d put", len(u.Gone), len(u.Puts))
	}
	u.Puts = append(u.Puts, newDir("/h", 0))
	checkNoSight(t, "one part too many", impl.TableMake(base), u)
}

func TestUppersRefused(t *testing.T) {
	refuse := func(what string, rows []impl.Row, cur impl.Tree) {
		if u, ok := impl.UpperOf(rows, cur); ok || !noUpper(u) {
			t.Errorf("%s: %v %v", what, ok, u)
		}
	}
	for what, rows := range tampered() {
		for _, cur := range []impl.Tree{example(), other(), dir(0), {}} {
			refuse(what, rows, cur)
		}
		for _, u := range []impl.Upper{{}, over("/a"), over("/c /d", newDir("/a", 4)), over("", newDir("/", 3)), over("", newDir("/", 0), newFile("/a", 0, ""))} {
			checkNoSight(t, what, rows, u)
		}
	}
	for what, x := range badTrees() {
		refuse(what, impl.TableMake(example()), x)
		refuse(what, impl.TableMake(dir(0)), x)
		refuse(what, nil, x)
	}
}

// wrongUppers is uppers that are not those of what one sees through them, over the example.
func wrongUppers() map[string]impl.Upper {
	long := strings.Repeat("x", 25)
	out := map[string]impl.Upper{
		"hides what is not there":                 over("/b"),
		"hides what is not there, below":          over("/a/a"),
		"hides what is not there, far below":      over("/n/n/n/n"),
		"hides what is below a file":              over("/c/x"),
		"hides what is not there, beside":         over("/a /b"),
		"hides the root":                          {Gone: [][]string{nil}},
		"hides the root, which is put":            {Gone: [][]string{{}}, Puts: []impl.Entry{newDir("/", 0)}},
		"hides the root, which is put as another": {Gone: [][]string{{}}, Puts: []impl.Entry{newDir("/", 3)}},
		"hides twice":                             over("/a /a"),
		"hides twice, another one between":        over("/a /c /a"),
		"hides out of order":                      over("/c /a"),
		"hides what is below what is hidden":      over("/a /a/b"),
		"hides what is below, then it":            over("/a/b /a"),
		"hides what is put, not there":            over("/n", newFile("/n", 0, "")),
		"hides a name that is none":               {Gone: [][]string{{"a/b"}}},
		"hides a name of no bytes":                {Gone: [][]string{{""}}},
		"hides a path of too many":                {Gone: [][]string{make([]string, 100000)}},
		"hides 31":                                {Gone: slices.Repeat([][]string{{"a"}}, 31)},
		"hides far too many":                      {Gone: slices.Repeat([][]string{{"a"}}, 100000)},
		"puts a file as it was":                   over("", newFile("/c", 1, "")),
		"puts a directory as it was":              over("", newDir("/a", 5)),
		"puts the root as it was":                 over("", newDir("/", 0)),
		"puts one as it was beside another":       over("", newFile("/a/b", 0, "x"), newFile("/c", 1, "")),
		"puts one as it was, hidden":              over("/c", newFile("/c", 1, "")),
		"puts a directory as it was, hidden":      over("/d", newDir("/d", 0), newFile("/d/e", 0, "\x00\xff")),
		"puts a directory again, hidden":          over("/d", newDir("/d", 0)),
		"puts a directory other, hidden":          over("/d", newDir("/d", 1)),
		"puts a file other, hidden":               over("/c", newFile("/c", 0, "x")),
		"puts twice":                              over("", newFile("/n", 0, ""), newFile("/n", 0, "")),
		"puts twice, the second other":            over("", newFile("/n", 0, ""), newFile("/n", 0, "x")),
		"puts twice, another one between":         over("", newFile("/n", 0, ""), newFile("/o", 0, ""), newFile("/n", 0, "")),
		"puts twice, the root":                    over("", newDir("/", 1), newDir("/", 1)),
		"puts out of order":                       over("", newFile("/o", 0, ""), newFile("/n", 0, "")),
		"puts below ahead":                        over("", newFile("/n/o", 0, ""), newDir("/n", 0)),
		"puts the root behind":                    over("", newFile("/n", 0, ""), newDir("/", 1)),
		"puts below a file":                       over("", newFile("/c/x", 0, "")),
		"puts below a file that is put":           over("", newFile("/n", 0, ""), newFile("/n/x", 0, "")),
		"puts far below a file":                   over("", newDir("/c/x", 0), newFile("/c/x/y", 0, "")),
		"puts below what is hidden":               over("/a", newFile("/a/x", 0, "")),
		"puts below what is hidden, it other":     over("/a", newFile("/a/b", 0, "x")),
		"puts below what is not there":            over("", newFile("/n/x", 0, "")),
		"puts far below what is not there":        over("", newFile("/n/n/n/n", 0, "")),
		"a file where a directory is":             over("", newFile("/a", 0, "x")),
		"a file where a directory is, below gone": over("/a/b", newFile("/a", 0, "x")),
		"a directory where a file is":             over("", newDir("/c", 0)),
		"a directory where a file is, more":       over("", newDir("/c", 0), newFile("/c/x", 0, "")),
		"a file as the root":                      over("", newFile("/", 0, "")),
		"a file as the root, all hidden":          over("/a /c /d", newFile("/", 0, "")),
		"the root with bytes":                     over("", impl.Entry{What: impl.EntryNew, Dir: true, Mode: 1, Data: "x"}),
		"the root's mode too great":               over("", newDir("/", 8)),
		"a mode too great":                        over("", newFile("/c", 8, "")),
		"a mode far too great":                    over("", newDir("/a", math.MaxInt)),
		"a mode below 0":                          over("", newDir("/a", -1)),
		"too many bytes":                          over("", newFile("/c", 1, long)),
		"a directory with bytes":                  over("", impl.Entry{Path: names("/a"), What: impl.EntryNew, Dir: true, Mode: 4, Data: "x"}),
		"a new directory with bytes":              over("", impl.Entry{Path: names("/n"), What: impl.EntryNew, Dir: true, Data: "x"}),
		"a path too long":                         over("", newDir("/d/d", 0), newDir("/d/d/d", 0), newDir("/d/d/d/d", 0), newDir("/d/d/d/d/d", 0)),
		"a path far too long":                     over("", impl.Entry{Path: make([]string, 100000), What: impl.EntryNew}),
		"a path far too long, all above it put":   over("", ladder(40)...),
		"a name too long":                         over("", newFile("/abcdef", 0, "")),
		"far too many put":                        over("", slices.Repeat([]impl.Entry{newFile("/n", 0, "")}, 100000)...),
		"a tree of too many":                      over("", others(26)...),
		"a tree of far too many":                  over("", others(31)...),
	}
	for _, name := range wrongNames() {
		out[fmt.Sprintf("the name %.20q", name)] = over("", impl.Entry{Path: []string{name}, What: impl.EntryNew})
		out[fmt.Sprintf("the name %.20q below", name)] = over("", impl.Entry{Path: []string{"d", name}, What: impl.EntryNew})
	}
	for _, what := range []int{0, impl.EntryGone, impl.EntryMode, impl.EntryData, 5, -1} {
		out[fmt.Sprint("a directory's What ", what)] = over("", impl.Entry{Path: names("/a"), What: what, Dir: true, Mode: 4})
		out[fmt.Sprint("a file's What ", what)] = over("", impl.Entry{Path: names("/c"), What: what, Mode: 4})
		out[fmt.Sprint("a new file's What ", what)] = over("", impl.Entry{Path: names("/n"), What: what})
		out[fmt.Sprint("the root's What ", what)] = over("", impl.Entry{What: what, Dir: true, Mode: 4})
	}
	return out
}

// ladder is directories within one another, so many.
func ladder(count int) []impl.Entry {
	var out []impl.Entry
	for i := range count {
		out = append(out, newDir(strings.Repeat("/d", i+2), 0))
	}
	return out
}

// others is files that the example does not have, so many.
func others(count int) []impl.Entry {
	var out []impl.Entry
	for i := range count {
		out = append(out, newFile(fmt.Sprintf("/n%02d", i), 0, ""))
	}
	return out
}

func TestWrongUppers(t *testing.T) {
	rows := impl.TableMake(example())
	for what, u := range wrongUppers() {
		checkNoSight(t, what, rows, u)
	}
	for what, u := range map[string]impl.Upper{
		"nothing":                     {},
		"nothing, not nil":            {Gone: [][]string{}, Puts: []impl.Entry{}},
		"one hidden":                  over("/a"),
		"one hidden below":            over("/a/b"),
		"all hidden":                  over("/a /c /d"),
		"the root other":              over("", newDir("/", 7)),
		"the root other, its path":    {Puts: []impl.Entry{{Path: []string{}, What: impl.EntryNew, Dir: true, Mode: 7}}},
		"a file where a directory is": over("/a", newFile("/a", 0, "x")),
		"a directory where a file is": over("/c", newDir("/c", 0)),
		"as many as there may be":     over("", others(25)...),
		"all of it other":             over("/a /c /d", others(30)...),
	} {
		checkSight(t, what, rows, u, modelOf(example()), modelOf(example()).seen(u))
	}
}

// doOver does a call through an upper, and asks that it does what it does in the tree that one sees.
func doOver(t *testing.T, what string, base, cur model, u impl.Upper, c impl.Call) (model, impl.Upper, int) {
	t.Helper()
	next, code := cur, 2
	if isPlainCall(c) {
		next, code = cur.do(c)
	}
	rows := base.rows()
	v, got := impl.UpperDo(rows, u, c)
	if got != code || !sameUpper(v, base.upper(next)) || code != 0 && !sameUpper(v, u) {
		t.Errorf("%s: %+v: code %d, not %d, and %v, not %v", what, c, got, code, v, base.upper(next))
	}
	x, _ := impl.UpperTree(rows, v)
	y, done := impl.TreeDo(cur.tree(""), c)
	if !same(x, y) || done != got {
		t.Errorf("%s: %+v: code %d and %q, and in a tree %d and %q", what, c, got, impl.TreeShow(x), done, impl.TreeShow(y))
	}
	return next, v, code
}

func TestCallsThroughUppers(t *testing.T) {
	base, cur := modelOf(other()), modelOf(example())
	for _, from := range []model{base, cur, modelOf(dir(0)), modelOf(wide(30))} {
		u := from.upper(cur)
		for _, k := range refusedCalls() {
			if _, _, code := doOver(t, k.what, from, cur, u, k.c); code != k.code {
				t.Errorf("%s: code %d", k.what, code)
			}
		}
		for _, c := range noCalls() {
			doOver(t, "no call", from, cur, u, c)
		}
	}
	for _, k := range []struct {
		what, want string
		calls      []impl.Call
	}{
		{"a file where a directory was hidden", "hide /a\nfile /a 3 78\n", []impl.Call{call(remove, "/a/b", 0), call(remove, "/a", 0), writing("/a", 0, "x"), call(chmod, "/a", 3)}},
		{"and a directory again", "", []impl.Call{call(remove, "/a/b", 0), call(remove, "/a", 0), writing("/a", 0, "x"), call(remove, "/a", 0), call(mkdir, "/a", 5), writing("/a/b", 0, "hi")}},
		{"a directory where a file was", "hide /c\ndir /c 2\nfile /c/c 0 78\n", []impl.Call{call(remove, "/c", 0), call(mkdir, "/c", 2), writing("/c/c", 0, "x")}},
		{"and a file again", "file /n 0 78\n", []impl.Call{call(remove, "/c", 0), call(mkdir, "/c", 2), writing("/c/c", 0, "x"), renaming("/c/c", "/n"), call(remove, "/c", 0), writing("/c", 0, ""), call(chmod, "/c", 1)}},
		{"gone and new again", "file /c 0 000078\n", []impl.Call{call(remove, "/c", 0), writing("/c", 2, "x")}},
		{"gone and new again, as it was", "", []impl.Call{call(remove, "/c", 0), writing("/c", 2, "x"), call(truncate, "/c", 0), call(chmod, "/c", 1)}},
		{"one in place of another", "hide /a/b\nhide /d/e\ndir /a 0\nfile /a/e 0 00ff\ndir /d 5\nfile /d/b 0 6869\n", []impl.Call{renaming("/a", "/x"), renaming("/d", "/a"), renaming("/x", "/d")}},
		{"and back again", "", []impl.Call{renaming("/a", "/x"), renaming("/d", "/a"), renaming("/x", "/d"), renaming("/d", "/y"), renaming("/a", "/d"), renaming("/y", "/a")}},
	} {
		m, u := modelOf(example()), impl.Upper{}
		for i, c := range k.calls {
			var code int
			m, u, code = doOver(t, k.what, modelOf(example()), m, u, c)
			checkUpper(t, k.what, modelOf(example()), m)
			if code != 0 {
				t.Errorf("%s: call %d has the code %d", k.what, i, code)
			}
		}
		if text := impl.UpperWrite(u); text != k.want {
			t.Errorf("%s: %q, not %q", k.what, text, k.want)
		}
	}
}

// The root's mode stays other, whatever a call does.
func TestRootModeStays(t *testing.T) {
	base, cur := modelOf(example()), modelOf(example())
	cur[""] = thing{dir: true, mode: 6}
	m, u, _ := doOver(t, "the root's mode", base, cur, base.upper(cur), writing("/n", 0, "x"))
	m, u, _ = doOver(t, "the root's mode", base, m, u, call(remove, "/n", 0))
	if !sameUpper(u, over("", newDir("/", 6))) || !maps.Equal(m, cur) {
		t.Errorf("%v", u)
	}
	cur[""] = thing{dir: true}
	if back := checkUpper(t, "the root's mode, back again", base, cur); !noUpper(back) {
		t.Errorf("%v", back)
	}
}

// fullUpper is an upper whose text has so many bytes; it lies over no tree.
func fullUpper(size int) impl.Upper {
	u := impl.Upper{}
	for range (size - 100) / 8 {
		u.Gone = append(u.Gone, names("/a"))
	}
	left := size - len(upperText(u))
	for left > 40 {
		u.Gone = append(u.Gone, names("/a"))
		left -= 8
	}
	// The last line has 11 bytes and two for each byte, or one more with a longer name.
	name := "/b"
	if left%2 == 0 {
		name = "/bb"
		left--
	}
	u.Puts = append(u.Puts, newFile(name, 0, strings.Repeat("x", (left-11)/2)))
	return u
}

func TestUpperTextLimits(t *testing.T) {
	for _, size := range []int{3998, 3999, 4000} {
		u := fullUpper(size)
		text := impl.UpperWrite(u)
		read, ok := impl.UpperRead(text)
		if len(upperText(u)) != size || text != upperText(u) || !ok || !sameUpper(read, u) {
			t.Errorf("%d bytes: %d, read %v", size, len(text), ok)
		}
	}
	for _, size := range []int{4001, 4002, 5000, 20000} {
		u := fullUpper(size)
		text := upperText(u)
		read, ok := impl.UpperRead(text)
		if len(text) != size || impl.UpperWrite(u) != "" || ok || !noUpper(read) {
			t.Errorf("%d bytes: %d written, read %v", size, len(impl.UpperWrite(u)), ok)
		}
	}
}

// Uppers that lie over no tree are written, too, in any order, if each line can be.
func TestUppersThatAreWritten(t *testing.T) {
	for text, u := range map[string]impl.Upper{
		"":                             {},
		"hide /a\n":                    over("/a"),
		"hide /b\nhide /a\nhide /b\n":  over("/b /a /b"),
		"hide /abcde/09az0/abcde/zz\n": over("/abcde/09az0/abcde/zz"),
		"dir / 0\n":                    over("", newDir("/", 0)),
		"dir / 7\ndir / 7\n":           over("", newDir("/", 7), newDir("/", 7)),
		"file /b 7 -\nfile /a 0 00\n":  over("", newFile("/b", 7, ""), newFile("/a", 0, "\x00")),
		"dir /a/b/c/d 3\ndir / 1\n":    over("", newDir("/a/b/c/d", 3), newDir("/", 1)),
		"hide /a\nhide /a/b\nfile /a/b 0 " + strings.Repeat("ff", 24) + "\n": over("/a /a/b", newFile("/a/b", 0, strings.Repeat("\xff", 24))),
	} {
		read, ok := impl.UpperRead(text)
		if impl.UpperWrite(u) != text || !ok || !sameUpper(read, u) {
			t.Errorf("%q: written %q, read %v %v", text, impl.UpperWrite(u), ok, read)
		}
	}
}

func TestUppersWithoutText(t *testing.T) {
	good := newFile("/a", 0, "x")
	for _, what := range []int{0, impl.EntryGone, impl.EntryMode, impl.EntryData, 5, -1} {
		for _, e := range []impl.Entry{newDir("/", 0), newDir("/a", 0), newFile("/a", 0, "")} {
			e.What = what
			if text := impl.UpperWrite(over("", good, e)); text != "" {
				t.Errorf("%v: written %q", e, text)
			}
		}
	}
	for what, u := range map[string]impl.Upper{
		"the root hidden":            {Gone: [][]string{nil}},
		"the root hidden, another":   {Gone: [][]string{{"a"}, {}}},
		"five names hidden":          over("/a/b/c/d/e"),
		"far too many names":         {Gone: [][]string{make([]string, 100000)}},
		"a name of no bytes":         {Gone: [][]string{{""}}},
		"a name with a slash":        {Gone: [][]string{{"a/b"}}},
		"a name too long":            over("/abcdef"),
		"a name in capitals":         over("/a /B"),
		"a mode too great":           over("/a", newFile("/a", 8, "")),
		"a mode below 0":             over("", newDir("/a", -1)),
		"too many bytes":             over("", newFile("/a", 0, strings.Repeat("x", 25))),
		"a directory with bytes":     over("", good, impl.Entry{Path: names("/b"), What: impl.EntryNew, Dir: true, Data: "x"}),
		"a path too long":            over("", newFile("/a/b/c/d/e", 0, "")),
		"a name that is none":        over("", newFile("/A", 0, "")),
		"the root a file":            over("", newFile("/", 0, "")),
		"the root with bytes":        over("", impl.Entry{What: impl.EntryNew, Dir: true, Data: "x"}),
		"the root's mode too great":  over("", newDir("/", 8)),
		"the root's mode below 0":    over("", newDir("/", -1)),
		"the root's mode as changed": over("", moded("/", 1)),
		"gone":                       over("", gone("/a")),
		"mode":                       over("", good, moded("/b", 1)),
		"data":                       over("", dataed("/a", "x"), good),
		"nothing put":                over("", impl.Entry{}),
		"What 5":                     over("", impl.Entry{Path: names("/a"), What: 5}),
		"far too many":               over("", slices.Repeat([]impl.Entry{good}, 100000)...),
		"far too many hidden":        {Gone: slices.Repeat([][]string{{"a"}}, 100000)},
	} {
		if text := impl.UpperWrite(u); text != "" {
			t.Errorf("%s: written %.100q", what, text)
		}
	}
}

func TestUpperTextsRefused(t *testing.T) {
	for _, text := range []string{
		"\n", " ", "hide", "hide\n", "hide \n", "hide /a", "hide /\n", "hide a\n", "hide /a \n", "hide  /a\n", " hide /a\n", "hide /a\n\n", "\nhide /a\n", "hide /a\r\n", "Hide /a\n", "hide /a /b\n", "hide /a 0\n", "hide/a\n", "hide\t/a\n",
		"hide /A\n", "hide /abcdef\n", "hide //a\n", "hide /a/\n", "hide /a//b\n", "hide /a/b/c/d/e\n", "hide /\xff\n", "hide /a\nhide /b", "hide /a\nfoo /b\n", "gone /a\n", "hidden /a\n",
		"dir / 0", "dir / 8\n", "dir / -1\n", "dir / -0\n", "dir / 00\n", "dir / 01\n", "dir / +1\n", "dir /  0\n", "dir  / 0\n", "dir / 0 \n", "dir / 0 -\n", "dir / \n", "dir /\n", "dir 0\n", "file / 0 -\n", "file / 0 00\n", "Dir / 0\n", "newdir /a 0\n",
		"dir /a 0\n\n", "dir /a 0\nhide /b\n", "dir / 0\nhide /a\n", "hide /a\ndir /a 0\nhide /b\n", "dir a 0\n", "dir /a/ 0\n", "dir //a 0\n", "dir /A 0\n", "dir /a/b/c/d/e 0\n",
		"file /zz 0 -", "file /a 0\n", "file /a 0 \n", "file /a 0 0\n", "file /a 0 000\n", "file /a 0 AA\n", "file /a 0 fF\n", "file /a 0 0g\n", "file /a 0 --\n", "file /a 0 -00\n", "file /a 0 00 00\n", "file /a  0 00\n", "file /a 0  00\n", "file /a 00 00\n",
		"file /a 8 -\n", "file /a 07 -\n", "file /a 9999999999999999999999 -\n", "new /a 0 -\n", "file /a 0 " + strings.Repeat("00", 25) + "\n", "mode / 1\n", "data /a 00\n", "end\n", "x", "\x00", "\xff\n",
		strings.Repeat("\n", 4000), strings.Repeat("x", 4000), strings.Repeat(" ", 4000) + "\n", strings.Repeat("hide /a\n", 100000), "hide " + strings.Repeat("/a", 1900) + "\n", "file /a 0 " + strings.Repeat("00", 1900) + "\n",
	} {
		if u, ok := impl.UpperRead(text); ok || !noUpper(u) {
			t.Errorf("%.80q: %v", text, u)
		}
	}
}

// A text that was changed anywhere is refused, or is just what is written of the upper that it tells.
func TestUpperTextsTampered(t *testing.T) {
	taken := 0
	check := func(text string) {
		u, ok := impl.UpperRead(text)
		if ok {
			taken++
		}
		if ok && (impl.UpperWrite(u) != text || upperText(u) != text) || !ok && !noUpper(u) {
			t.Errorf("%q: %v %v", text, ok, u)
		}
	}
	whole := "hide /a\nhide /c/d/e/f\ndir / 3\nfile /a 0 21ff\ndir /d 7\nfile /d/e 1 -\n"
	tamper(whole, check)
	lines := strings.SplitAfter(whole, "\n")
	for i := range lines {
		for j := range lines {
			swapped := slices.Clone(lines)
			swapped[i], swapped[j] = swapped[j], swapped[i]
			check(strings.Join(swapped, ""))
		}
	}
	if taken < 100 {
		t.Errorf("%d taken", taken)
	}
}

func TestMadeUpUppers(t *testing.T) {
	r := newMaker(26)
	turned, roots := 0, 0
	for i := range 150 {
		base := r.model(i % 31)
		cur := r.near(base)
		if i%3 == 0 {
			cur = r.model(r.IntN(31))
		}
		u := checkUpper(t, "made up", base, cur)
		for _, path := range u.Gone {
			if _, there := cur[text(path)]; there {
				turned++
			}
		}
		if len(u.Puts) > 0 && len(u.Puts[0].Path) == 0 {
			roots++
		}
		if t.Failed() {
			return
		}
	}
	if turned < 25 || roots < 25 {
		t.Errorf("%d turned, %d roots", turned, roots)
	}
}

func TestMadeUpCallsThroughUppers(t *testing.T) {
	r := newMaker(27)
	codes := map[int]int{}
	for i := range 120 {
		base := r.model(i % 31)
		cur, u := base, impl.Upper{}
		if i%3 == 0 {
			cur = r.near(base)
			u = base.upper(cur)
		}
		for range 25 {
			c := r.touching(cur, i%2 == 0)
			var code int
			cur, u, code = doOver(t, "made up", base, cur, u, c)
			codes[code]++
			if t.Failed() {
				return
			}
		}
	}
	if len(codes) != 6 {
		t.Errorf("codes %v", codes)
	}
}

// spoilUpper changes one thing of an upper, or takes it from another one.
func (r maker) spoilUpper(u, other impl.Upper, m model) impl.Upper {
	out := impl.Upper{Gone: slices.Clone(u.Gone), Puts: slices.Clone(u.Puts)}
	at := func(n int) int { return r.IntN(n + 1) }
	switch r.IntN(9) {
	case 0:
		out.Gone = slices.Insert(out.Gone, at(len(out.Gone)), r.path(m))
	case 1:
		if len(out.Gone) > 0 {
			i := r.IntN(len(out.Gone))
			out.Gone = slices.Delete(out.Gone, i, i+1)
		}
	case 2:
		if len(out.Gone) > 1 {
			i, j := r.IntN(len(out.Gone)), r.IntN(len(out.Gone))
			out.Gone[i], out.Gone[j] = out.Gone[j], out.Gone[i]
		}
	case 3:
		e := impl.Entry{Path: r.path(m), What: impl.EntryNew, Dir: r.IntN(2) == 0, Mode: r.IntN(8)}
		out.Puts = slices.Insert(out.Puts, at(len(out.Puts)), e)
	case 4:
		if len(out.Puts) > 0 {
			i := r.IntN(len(out.Puts))
			out.Puts = slices.Delete(out.Puts, i, i+1)
		}
	case 5:
		if len(out.Puts) > 1 {
			i, j := r.IntN(len(out.Puts)), r.IntN(len(out.Puts))
			out.Puts[i], out.Puts[j] = out.Puts[j], out.Puts[i]
		}
	case 6:
		if len(out.Puts) > 0 {
			e := &out.Puts[r.IntN(len(out.Puts))]
			e.Mode = r.IntN(8)
		}
	case 7:
		out.Gone = slices.Clone(other.Gone)
	case 8:
		out.Puts = slices.Clone(other.Puts)
	}
	return out
}

// An upper is ok just if it is that of what one sees through it.
func TestSpoiltUppers(t *testing.T) {
	r := newMaker(28)
	taken, refused := 0, 0
	for i := range 1200 {
		base := r.model(1 + i%12)
		u := r.spoilUpper(base.upper(r.near(base)), base.upper(r.near(base)), base)
		seen := base.seen(u)
		if seen.ok() && sameUpper(u, base.upper(seen)) {
			taken++
			checkSight(t, "spoilt", base.rows(), u, base, seen)
		} else {
			refused++
			checkNoSight(t, "spoilt", base.rows(), u)
		}
		if t.Failed() {
			t.Fatalf("%v over %q", u, base.show())
		}
	}
	if taken < 150 || refused < 150 {
		t.Errorf("%d taken, %d refused", taken, refused)
	}
}
