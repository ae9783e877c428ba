package tests

import (
	"maps"
	"math"
	"slices"
	"strings"
	"testing"

	"loop.example/changetrail/impl"
)

// Entries that are ok, the limits met just so.
func okEntries() map[string]impl.Entry {
	longest, most := "/abcde/09az0/abcde/abcde", strings.Repeat("\x0a", 24)
	return map[string]impl.Entry{
		"gone /a\n":                                     gone("/a"),
		"gone " + longest + "\n":                        gone(longest),
		"newdir /a 0\n":                                 newDir("/a", 0),
		"newdir " + longest + " 7\n":                    newDir(longest, 7),
		"new /a 0 -\n":                                  newFile("/a", 0, ""),
		"new " + longest + " 7 ff0a\n":                  newFile(longest, 7, "\xff\n"),
		"new /a/b 1 " + strings.Repeat("0a", 24) + "\n": newFile("/a/b", 1, most),
		"mode / 0\n":                                    moded("/", 0),
		"mode / 7\n":                                    moded("/", 7),
		"mode /a 0\n":                                   moded("/a", 0),
		"mode " + longest + " 7\n":                      moded(longest, 7),
		"data /a -\n":                                   dataed("/a", ""),
		"data " + longest + " 2000\n":                   dataed(longest, " \x00"),
		"data /0 " + strings.Repeat("0a", 24) + "\n":    dataed("/0", most),
	}
}

func TestOkEntries(t *testing.T) {
	for line, e := range okEntries() {
		if text := impl.LayerWrite([]impl.Entry{e}); text != line {
			t.Errorf("%v: %q, not %q", e, text, line)
		}
		if list, ok := impl.LayerRead(line); !ok || !sameEntries(list, []impl.Entry{e}) {
			t.Errorf("%q: %v %v", line, list, ok)
		}
	}
	twice := []impl.Entry{gone("/b"), gone("/b"), moded("/", 1), gone("/a")}
	line := "gone /b\ngone /b\nmode / 1\ngone /a\n"
	list, ok := impl.LayerRead(line)
	if impl.LayerWrite(twice) != line || !ok || !sameEntries(list, twice) {
		t.Error("a text does not ask what the entries are for, nor for their order")
	}
}

// Entries that are not ok, each but for one thing.
func badEntries() map[string]impl.Entry {
	out := map[string]impl.Entry{
		"nothing":           {},
		"gone root":         gone("/"),
		"new root":          newDir("/", 0),
		"new root, a file":  newFile("/", 0, ""),
		"data root":         dataed("/", "x"),
		"gone with a mode":  {Path: names("/a"), What: 1, Mode: 1},
		"gone with dir":     {Path: names("/a"), What: 1, Dir: true},
		"gone with data":    {Path: names("/a"), What: 1, Data: "x"},
		"new dir with data": {Path: names("/n"), What: 2, Dir: true, Data: "x"},
		"new mode above":    newFile("/n", 8, ""),
		"new mode below":    newFile("/n", -1, ""),
		"dir mode above":    newDir("/n", 8),
		"dir mode below":    newDir("/n", math.MinInt),
		"new data too long": newFile("/n", 0, strings.Repeat("x", 25)),
		"mode above":        moded("/a", 8),
		"mode below":        moded("/a", -1),
		"root mode above":   moded("/", 8),
		"root mode below":   moded("/", -1),
		"mode with dir":     {Path: names("/a"), What: 3, Dir: true, Mode: 1},
		"mode with data":    {Path: names("/a"), What: 3, Mode: 1, Data: "x"},
		"root with dir":     {What: 3, Dir: true, Mode: 1},
		"root with data":    {What: 3, Mode: 1, Data: "x"},
		"data with a mode":  {Path: names("/c"), What: 4, Mode: 1, Data: "x"},
		"data with dir":     {Path: names("/c"), What: 4, Dir: true, Data: "x"},
		"data too long":     dataed("/c", strings.Repeat("x", 25)),
	}
	for _, path := range [][]string{{""}, {"A"}, {"abcdef"}, {"a", ""}, {"a/b"}, {"a", "b c"}, {".."}, {"\xff"}, {"a", "b", "c", "d", "e"}, make([]string, 100000)} {
		for what := 1; what <= 4; what++ {
			out["path "+strings.Join(path[:1], "/")+strings.Repeat("I", what)+strings.Repeat("+", len(path))] = impl.Entry{Path: path, What: what}
		}
	}
	for what, name := range map[int]string{0: "what 0", -1: "what -1", 5: "what 5", math.MaxInt: "what greatest", math.MinInt: "what least"} {
		out[name] = impl.Entry{Path: names("/a"), What: what}
		out[name+" root"] = impl.Entry{What: what}
	}
	return out
}

func TestBadEntries(t *testing.T) {
	for name, e := range badEntries() {
		for _, list := range [][]impl.Entry{{e}, {moded("/", 1), e}, {e, moded("/", 1)}} {
			if text := impl.LayerWrite(list); text != "" {
				t.Errorf("%s is written: %q", name, text)
			}
			if x, ok := impl.LayerApply(example(), list); ok || !isNothing(x) {
				t.Errorf("%s is applied: %v %v", name, x, ok)
			}
		}
	}
}

// Entries that are ok, over the example: what comes of them below its root, or "" if they do not fit.
func TestApply(t *testing.T) {
	a, b, c, d, e := "dir /a 5\n", "file /a/b 0 6869\n", "file /c 1 -\n", "dir /d 0\n", "file /d/e 0 00ff\n"
	for _, k := range []struct {
		what string
		list []impl.Entry
		want string
	}{
		{"nothing", nil, a + b + c + d + e},
		{"gone, a file", []impl.Entry{gone("/a/b")}, a + c + d + e},
		{"gone, with all below", []impl.Entry{gone("/a")}, c + d + e},
		{"gone, not there", []impl.Entry{gone("/n")}, ""},
		{"gone, parent not there", []impl.Entry{gone("/n/m")}, ""},
		{"gone, parent a file", []impl.Entry{gone("/c/m")}, ""},
		{"gone twice", []impl.Entry{gone("/a"), gone("/a")}, ""},
		{"gone, and below it", []impl.Entry{gone("/a"), gone("/a/b")}, ""},
		{"below it, and gone", []impl.Entry{gone("/a/b"), gone("/a")}, c + d + e},
		{"new directory", []impl.Entry{newDir("/b", 7)}, a + b + "dir /b 7\n" + c + d + e},
		{"new file", []impl.Entry{newFile("/b", 7, "x")}, a + b + "file /b 7 78\n" + c + d + e},
		{"new, a directory is there", []impl.Entry{newDir("/a", 5)}, ""},
		{"new, a file is there", []impl.Entry{newDir("/c", 1)}, ""},
		{"new file, a directory is there", []impl.Entry{newFile("/a", 5, "")}, ""},
		{"new file, the same is there", []impl.Entry{newFile("/c", 1, "")}, ""},
		{"new, parent not there", []impl.Entry{newFile("/n/m", 0, "")}, ""},
		{"new, parent a file", []impl.Entry{newDir("/c/m", 0)}, ""},
		{"new, parent below a file", []impl.Entry{newDir("/c/m/n", 0)}, ""},
		{"new, parent made ahead of it", []impl.Entry{newDir("/b", 0), newFile("/b/x", 0, "")}, a + b + "dir /b 0\nfile /b/x 0 -\n" + c + d + e},
		{"new, parent made behind it", []impl.Entry{newFile("/b/x", 0, ""), newDir("/b", 0)}, ""},
		{"new, parent made a file ahead of it", []impl.Entry{newFile("/b", 0, ""), newFile("/b/x", 0, "")}, ""},
		{"new, parent taken away ahead of it", []impl.Entry{gone("/d"), newFile("/d/x", 0, "")}, ""},
		{"new, parent taken away behind it", []impl.Entry{newFile("/d/x", 0, ""), gone("/d")}, a + b + c},
		{"new twice", []impl.Entry{newDir("/b", 0), newDir("/b", 0)}, ""},
		{"gone and new", []impl.Entry{gone("/d"), newDir("/d", 3)}, a + b + c + "dir /d 3\n"},
		{"gone and new of the other kind", []impl.Entry{gone("/d"), newFile("/d", 3, "\n")}, a + b + c + "file /d 3 0a\n"},
		{"new and gone, not there", []impl.Entry{newDir("/n", 3), gone("/n")}, a + b + c + d + e},
		{"new and gone, there", []impl.Entry{newDir("/d", 3), gone("/d")}, ""},
		{"gone, file for a directory, and below", []impl.Entry{gone("/c"), newDir("/c", 0), newFile("/c/e", 0, "")}, a + b + "dir /c 0\nfile /c/e 0 -\n" + d + e},
		{"mode of a directory", []impl.Entry{moded("/a", 0)}, "dir /a 0\n" + b + c + d + e},
		{"mode of a file", []impl.Entry{moded("/a/b", 7)}, a + "file /a/b 7 6869\n" + c + d + e},
		{"mode that it has", []impl.Entry{moded("/a", 5)}, a + b + c + d + e},
		{"mode, not there", []impl.Entry{moded("/n", 5)}, ""},
		{"mode, parent not there", []impl.Entry{moded("/n/m", 5)}, ""},
		{"mode, parent a file", []impl.Entry{moded("/c/m", 5)}, ""},
		{"mode, made ahead of it", []impl.Entry{newDir("/n", 1), moded("/n", 2)}, a + b + c + d + e + "dir /n 2\n"},
		{"mode, taken away ahead of it", []impl.Entry{gone("/c"), moded("/c", 2)}, ""},
		{"mode twice", []impl.Entry{moded("/a", 1), moded("/a", 2)}, "dir /a 2\n" + b + c + d + e},
		{"data", []impl.Entry{dataed("/c", "x")}, a + b + "file /c 1 78\n" + d + e},
		{"data, fewer", []impl.Entry{dataed("/d/e", "")}, a + b + c + d + "file /d/e 0 -\n"},
		{"data that it has", []impl.Entry{dataed("/d/e", "\x00\xff")}, a + b + c + d + e},
		{"data of a directory", []impl.Entry{dataed("/a", "x")}, ""},
		{"no data of a directory", []impl.Entry{dataed("/a", "")}, ""},
		{"data, not there", []impl.Entry{dataed("/n", "x")}, ""},
		{"data, parent not there", []impl.Entry{dataed("/n/m", "x")}, ""},
		{"data, parent a file", []impl.Entry{dataed("/c/m", "x")}, ""},
		{"data, turned into a directory", []impl.Entry{gone("/c"), newDir("/c", 0), dataed("/c", "x")}, ""},
		{"data, turned into a file", []impl.Entry{gone("/d"), newFile("/d", 0, "y"), dataed("/d", "x")}, a + b + c + "file /d 0 78\n"},
		{"the last one does not fit", []impl.Entry{moded("/a", 1), gone("/c"), gone("/n")}, ""},
		{"the first one does not fit", []impl.Entry{gone("/n"), moded("/a", 1)}, ""},
	} {
		x, ok := impl.LayerApply(example(), k.list)
		want := "dir / 0\n" + k.want
		if ok != (k.want != "") || ok && impl.TreeShow(x) != want || !ok && !isNothing(x) {
			t.Errorf("%s: %v %q", k.what, ok, impl.TreeShow(x))
		}
	}
}

func TestApplyAtTheRoot(t *testing.T) {
	for _, base := range []impl.Tree{dir(2), example(), wide(30)} {
		x, ok := impl.LayerApply(base, []impl.Entry{moded("/", 7)})
		base.Mode = 7
		if !ok || !same(x, base) {
			t.Errorf("%v %v", x, ok)
		}
	}
	x, ok := impl.LayerApply(dir(3, named{"a", dir(1)}), []impl.Entry{gone("/a"), moded("/", 0), moded("/", 5)})
	if !ok || !same(x, dir(5)) {
		t.Errorf("%v %v", x, ok)
	}
}

func TestApplyOverBadTrees(t *testing.T) {
	for name, x := range badTrees() {
		for _, list := range [][]impl.Entry{nil, {moded("/", 0)}, {gone("/d")}, {gone("/a")}} {
			if y, ok := impl.LayerApply(x, list); ok || !isNothing(y) {
				t.Errorf("over %s: %v %v", name, y, ok)
			}
		}
	}
}

// Only what comes in the end must be ok.
func TestApplyAtTheLimits(t *testing.T) {
	var more, less []impl.Entry
	for i := range 300 {
		name := "/" + string([]byte{'n', byte('a' + i/26), byte('a' + i%26)})
		more = append(more, newDir(name, 0))
		less = append(less, gone(name))
	}
	for _, k := range []struct {
		what string
		base impl.Tree
		list []impl.Entry
		ok   bool
	}{
		{"the last one that fits", wide(29), more[:1], true},
		{"one too many", wide(30), more[:1], false},
		{"one too many, below", dir(0, named{"d", wide(29)}), []impl.Entry{newFile("/d/n", 0, "")}, false},
		{"one too many, and one gone", wide(30), []impl.Entry{more[0], gone("/f00")}, true},
		{"one gone, and one too many", wide(30), []impl.Entry{gone("/f00"), more[0]}, true},
		{"one gone, and two more", wide(30), []impl.Entry{gone("/f00"), more[0], more[1]}, false},
		{"far too many, and gone again", wide(30), slices.Concat(more, less), true},
		{"far too many, and but one gone again", wide(30), slices.Concat(more, less[1:]), false},
		{"far too many, all gone at once", dir(0), slices.Concat([]impl.Entry{newDir("/d", 0)}, below("/d", more[:200]), []impl.Entry{gone("/d")}), true},
		{"the longest path", deep(2, named{"e", dir(0)}), []impl.Entry{newDir("/d/d/e/f", 0)}, true},
		{"the path too long", deep(3, named{"e", dir(0)}), []impl.Entry{newDir("/d/d/d/e/f", 0)}, false},
	} {
		x, ok := impl.LayerApply(k.base, k.list)
		if ok != k.ok || ok && !impl.TreeOk(x) || !ok && !isNothing(x) {
			t.Errorf("%s: %v %v", k.what, x, ok)
		}
	}
}

// below is entries moved into a directory.
func below(path string, list []impl.Entry) []impl.Entry {
	out := slices.Clone(list)
	for i := range out {
		out[i].Path = slices.Concat(names(path), out[i].Path)
	}
	return out
}

func TestLayerTextLimit(t *testing.T) {
	just := slices.Repeat([]impl.Entry{gone("/a")}, 750)
	text := strings.Repeat("gone /a\n", 750)
	list, ok := impl.LayerRead(text)
	if got := impl.LayerWrite(just); len(text) != 6000 || got != text || !ok || !sameEntries(list, just) {
		t.Errorf("6000 bytes: written %d, read %v", len(got), ok)
	}
	for _, more := range [][]impl.Entry{append(slices.Clone(just[1:]), gone("/ab")), append(slices.Clone(just), gone("/a")), slices.Repeat(just, 100)} {
		if got := impl.LayerWrite(more); got != "" {
			t.Errorf("%d bytes are written", len(got))
		}
	}
	for _, text := range []string{text[8:] + "gone /ab\n", text + "gone /a\n", text + "g", text + "\n", strings.Repeat(text, 100), strings.Repeat(" ", 1000000)} {
		if list, ok := impl.LayerRead(text); ok || len(list) != 0 {
			t.Errorf("%d bytes are read", len(text))
		}
	}
}

func TestEmptyLayer(t *testing.T) {
	if list, ok := impl.LayerRead(""); !ok || len(list) != 0 {
		t.Errorf("%v %v", list, ok)
	}
	if text := impl.LayerWrite(nil) + impl.LayerWrite([]impl.Entry{}); text != "" {
		t.Errorf("%q", text)
	}
}

func TestLayersRefused(t *testing.T) {
	for _, text := range []string{
		"\n", " ", " \n", "\n\n", "gone", "gone\n", "gone /a", "gone /a\n\n", "\ngone /a\n", "gone /a\r\n", "gone /a\ngone /b", "gone /a\n ", "gone /a\n\ngone /b\n",
		" gone /a\n", "gone  /a\n", "gone /a \n", "gone\t/a\n", "gone a\n", "gone /\n", "gone //a\n", "gone /a/\n", "gone /A\n", "gone /abcdef\n", "gone /a/b/c/d/e\n", "gone /a 0\n", "gone /a -\n", "gone /a/../b\n",
		"Gone /a\n", "GONE /a\n", "gones /a\n", "gon /a\n", "1 /a\n", "dir /a 0\n", "file /a 0 -\n", "rename /a 0\n", "new dir /a 0\n",
		"newdir /a\n", "newdir /a 8\n", "newdir /a -1\n", "newdir /a 00\n", "newdir /a 07\n", "newdir /a +1\n", "newdir /a 0 -\n", "newdir / 0\n", "newdir /a  0\n", "newdir /a 0 \n", "newdir /a x\n", "newdir /a \n",
		"new /a\n", "new /a 0\n", "new /a 0 \n", "new /a -\n", "new /a 0 - -\n", "new /a 0 -\n\n", "new /a 0 0\n", "new /a 0 000\n", "new /a 0 0A\n", "new /a 0 A0\n", "new /a 0 0g\n", "new /a 0 --\n", "new /a 0 00 00\n", "new /a 0 00-\n", "new /a 8 -\n", "new /a 01 -\n", "new /a 0  -\n", "new / 0 -\n", "new /a - 0\n",
		"new /a 0 " + strings.Repeat("0a", 25) + "\n",
		"mode /\n", "mode /a\n", "mode /a 8\n", "mode /a 03\n", "mode / 00\n", "mode / -0\n", "mode / 3 \n", "mode  3\n", "mode 3\n", "mode // 3\n", "mode /a 3 -\n", "mode /a 99999999999999999999\n", "mode /a 3\x00\n", "mode /a \xd9\xa3\n",
		"data /a\n", "data /a \n", "data / -\n", "data / 00\n", "data /a 0\n", "data /a FF\n", "data /a fF\n", "data /a - \n", "data /a 0 00\n", "data /a -0\n", "data /a \xff\xff\n", "data /a \xef\xbf\xbd\n", "data /\xc3\xa4 -\n", "data\xc2\xa0/a -\n", "data /a -\xe2\x80\xa8",
		"data /a " + strings.Repeat("0a", 25) + "\n",
	} {
		if list, ok := impl.LayerRead(text); ok || len(list) != 0 {
			t.Errorf("%q: %v %v", text, list, ok)
		}
		if list, ok := impl.LayerRead("mode / 1\n" + text + "mode / 1\n"); ok || len(list) != 0 {
			t.Errorf("%q, in the middle: %v %v", text, list, ok)
		}
	}
}

// A text that was changed anywhere is refused, or is just what is written of the entries that it tells.
func TestLayersTampered(t *testing.T) {
	taken := 0
	check := func(text string) {
		list, ok := impl.LayerRead(text)
		if ok {
			taken++
		}
		if ok && impl.LayerWrite(list) != text || !ok && len(list) != 0 {
			t.Errorf("%q: %v %v", text, list, ok)
		}
	}
	tamper(layerText+"mode / 7\nnew /ab0/c 5 -\n", check)
	if taken == 0 {
		t.Error("none was taken")
	}
}

// apply is the model to which that has become what entries that are ok say.
func (m model) apply(list []impl.Entry) (model, bool) {
	m = maps.Clone(m)
	for _, e := range list {
		p := text(e.Path)
		x, there := m[p]
		if p != "" && !m[above(p)].dir || there == (e.What == impl.EntryNew) || e.What == impl.EntryData && x.dir {
			return nil, false
		}
		switch e.What {
		case impl.EntryGone:
			maps.DeleteFunc(m, func(q string, _ thing) bool { return atOrBelow(q, p) })
		case impl.EntryNew:
			m[p] = thing{e.Dir, e.Mode, e.Data}
		case impl.EntryMode:
			m[p] = thing{x.dir, e.Mode, x.data}
		case impl.EntryData:
			m[p] = thing{x.dir, x.mode, e.Data}
		}
	}
	return m, m.ok()
}

func (r maker) entry(m model) impl.Entry {
	path := r.path(m)
	switch r.IntN(5) {
	case 0:
		return gone(text(path))
	case 1:
		return newDir(text(path), r.IntN(8))
	case 2:
		return newFile(text(path), r.IntN(8), r.data(24))
	case 3:
		return moded(text(path[:r.IntN(2)*len(path)]), r.IntN(8))
	}
	return dataed(text(path), r.data(24))
}

// shuffled is what differs with some of it out of its order, left out, told twice, or something else in between.
func (r maker) shuffled(m model, list []impl.Entry) []impl.Entry {
	list = slices.Clone(list)
	for range r.IntN(4) {
		at := r.IntN(len(list) + 1)
		switch r.IntN(3) {
		case 0:
			list = slices.Insert(list, at, r.entry(m))
		case 1:
			list = slices.Delete(list, at, min(at+1, len(list)))
		case 2:
			if to := r.IntN(len(list) + 1); at < len(list) && to < len(list) {
				list[at], list[to] = list[to], list[at]
			}
		}
	}
	return list
}

func TestMadeUpLayers(t *testing.T) {
	r := newMaker(5)
	seen := map[bool]int{}
	for i := range 3000 {
		m := r.model(i % 31)
		list := r.shuffled(m, m.diff(r.near(m)))
		want, fits := m.apply(list)
		x, ok := impl.LayerApply(m.tree(""), list)
		if ok != fits || ok && !same(x, want.tree("")) || !ok && !isNothing(x) {
			t.Fatalf("%v over %q: %v %q", list, m.show(), ok, impl.TreeShow(x))
		}
		again, ok := impl.LayerRead(impl.LayerWrite(list))
		if !ok || !sameEntries(list, again) {
			t.Fatalf("%v was read %v", list, again)
		}
		seen[fits]++
	}
	if seen[true] < 500 || seen[false] < 500 {
		t.Errorf("how many fit: %v", seen)
	}
}
