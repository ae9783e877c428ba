package tests

import (
	"cmp"
	"maps"
	"slices"
	"strings"
	"testing"

	"loop.example/changetrail/impl"
)

const trailText = "at /a\nat /a/b\nat /c\nsub /c/f\nsub /d\n"

func at(path string) impl.Mark {
	return impl.Mark{Path: names(path)}
}

func sub(path string) impl.Mark {
	return impl.Mark{Path: names(path), Sub: true}
}

// marks makes marks of words: "/a" is one without Sub, "/a*" one with it.
func marks(words string) []impl.Mark {
	var out []impl.Mark
	for _, word := range strings.Fields(words) {
		path, all := strings.CutSuffix(word, "*")
		out = append(out, impl.Mark{Path: names(path), Sub: all})
	}
	return out
}

func sameMarks(a, b []impl.Mark) bool {
	return slices.EqualFunc(a, b, func(x, y impl.Mark) bool {
		return slices.Equal(x.Path, y.Path) && x.Sub == y.Sub
	})
}

// The calls that made the other tree of the example.
func exampleCalls() []impl.Call {
	return []impl.Call{
		writing("/a/b", 2, "!"), call(remove, "/c", 0), call(mkdir, "/c", 7), renaming("/d", "/c/f"), call(chmod, "/a", 4),
	}
}

func TestExampleTrail(t *testing.T) {
	x := example()
	var list []impl.Mark
	for _, c := range exampleCalls() {
		for _, m := range impl.TrailOf(x, c) {
			list = impl.TrailAdd(list, m)
		}
		x = expect(t, "example", x, c, 0)
	}
	if !same(x, other()) {
		t.Fatal(impl.TreeShow(x))
	}
	want := []impl.Mark{at("/a"), at("/a/b"), at("/c"), sub("/c/f"), sub("/d")}
	if !impl.TrailOk(list) || !sameMarks(list, want) || impl.TrailShow(list) != trailText {
		t.Errorf("%v, written %q", list, impl.TrailShow(list))
	}
	read, ok := impl.TrailRead(trailText)
	if !ok || !sameMarks(read, want) {
		t.Errorf("read %v %v", read, ok)
	}
}

// Trails that are ok, the limits met just so, by their texts.
func okTrails() map[string][]impl.Mark {
	return map[string][]impl.Mark{
		"":                                     nil,
		"at /a\n":                              marks("/a"),
		"sub /a\n":                             marks("/a*"),
		"sub /\n":                              {{Sub: true}},
		"at /abcde/09az0/abcde/abcde\n":        marks("/abcde/09az0/abcde/abcde"),
		"sub /abcde/09az0/abcde/abcde\n":       marks("/abcde/09az0/abcde/abcde*"),
		"at /a\nat /a/b\nsub /a/b/c\n":         marks("/a /a/b /a/b/c*"),
		"at /a/z\nat /a0\nat /aa\nat /b\n":     marks("/a/z /a0 /aa /b"),
		"sub /a\nat /a0\nsub /ab/c\nat /b/a\n": marks("/a* /a0 /ab/c* /b/a"),
		"sub /a/b\nat /a/bc\nat /a/c\n":        marks("/a/b* /a/bc /a/c"),
		"at /a\nat /b\nat /c\nat /d\nat /e\nat /f\n":              marks("/a /b /c /d /e /f"),
		"sub /a\nsub /b\nsub /c\nsub /d\nsub /e\nsub /f\n":        marks("/a* /b* /c* /d* /e* /f*"),
		"at /a\nat /a/a\nat /a/a/a\nat /a/a/a/a\nat /b\nsub /c\n": marks("/a /a/a /a/a/a /a/a/a/a /b /c*"),
	}
}

func TestOkTrails(t *testing.T) {
	for text, list := range okTrails() {
		read, ok := impl.TrailRead(text)
		if !impl.TrailOk(list) || impl.TrailShow(list) != text || !ok || !sameMarks(read, list) {
			t.Errorf("%q: ok %v, written %q, read %v %v", text, impl.TrailOk(list), impl.TrailShow(list), read, ok)
		}
	}
	if !impl.TrailOk([]impl.Mark{}) || !impl.TrailOk([]impl.Mark{{Path: []string{}, Sub: true}}) {
		t.Error("an empty list is not as a nil one")
	}
}

// Marks that are none.
func badMarks() map[string]impl.Mark {
	out := map[string]impl.Mark{
		"the root":          {},
		"the root, not nil": {Path: []string{}},
	}
	for _, path := range [][]string{{""}, {"A"}, {"abcdef"}, {"a", ""}, {"", "a"}, {"a/b"}, {"a", "b c"}, {".."}, {"-"}, {"\xff"}, {"\xc3\xa4"}, {"a", "b", "c", "d", "e"}, make([]string, 100000), {strings.Repeat("a", 100000)}} {
		name := strings.Join(path[:1], "/") + strings.Repeat("+", len(path))
		out[name] = impl.Mark{Path: path}
		out[name+" sub"] = impl.Mark{Path: path, Sub: true}
	}
	return out
}

// Trails that are not ok.
func badTrails() map[string][]impl.Mark {
	out := map[string][]impl.Mark{
		"one too many":                    marks("/a /b /c /d /e /f /g"),
		"one too many, with all below":    marks("/a* /b* /c* /d* /e* /f* /g*"),
		"far too many":                    make([]impl.Mark, 100000),
		"out of order":                    marks("/b /a"),
		"out of order, at the end":        marks("/a /c /b"),
		"below, and then above":           marks("/a/b /a"),
		"below, and then all above":       marks("/a/b /a*"),
		"a longer name first":             marks("/ab /a"),
		"a longer name ahead of below":    marks("/a0 /a/z"),
		"twice":                           marks("/a /a"),
		"twice, with all below":           marks("/a* /a*"),
		"twice, first with all below":     marks("/a* /a"),
		"twice, then with all below":      marks("/a /a*"),
		"twice, with another one between": marks("/a /b /a"),
		"below one with all below":        marks("/a* /a/b"),
		"far below one with all below":    marks("/a* /a/b/c/d"),
		"below, a few behind":             marks("/a /a/b* /a/b/c* /b"),
		"below the root":                  {sub("/"), at("/a")},
		"below the root, all":             {sub("/"), sub("/a")},
		"the root twice":                  {sub("/"), sub("/")},
		"the root behind":                 {at("/a"), sub("/")},
	}
	for name, m := range badMarks() {
		out["mark "+name] = []impl.Mark{m}
		out["mark first "+name] = []impl.Mark{m, at("/zz")}
		out["mark last "+name] = []impl.Mark{at("/0"), m}
	}
	return out
}

func TestBadTrails(t *testing.T) {
	for name, list := range badTrails() {
		if impl.TrailOk(list) || impl.TrailShow(list) != "" {
			t.Errorf("%s: ok %v, written %q", name, impl.TrailOk(list), impl.TrailShow(list))
		}
		for _, m := range []impl.Mark{at("/a"), at("/zz"), sub("/a"), sub("/"), {}, {Path: []string{"A"}}} {
			if got := impl.TrailAdd(list, m); len(got) != 0 {
				t.Errorf("%s, and %v: %v", name, m, got)
			}
		}
	}
}

func TestBadMarks(t *testing.T) {
	for name, m := range badMarks() {
		for text, list := range okTrails() {
			if got := impl.TrailAdd(list, m); !sameMarks(got, list) {
				t.Errorf("%s into %q: %v", name, text, got)
			}
		}
	}
}

func TestAdd(t *testing.T) {
	for _, k := range []struct {
		what, list, mark, want string
	}{
		{"the first", "", "/a", "/a"},
		{"the first, with all below", "", "/a*", "/a*"},
		{"the first, the root", "", "/*", "/*"},
		{"the longest path", "", "/abcde/09az0/abcde/zzzzz", "/abcde/09az0/abcde/zzzzz"},
		{"ahead", "/b", "/a", "/a /b"},
		{"between", "/a /c", "/b", "/a /b /c"},
		{"behind", "/a /b", "/c*", "/a /b /c*"},
		{"below one without", "/a /b", "/a/c", "/a /a/c /b"},
		{"above one without", "/a/c /b", "/a", "/a /a/c /b"},
		{"above one with all below", "/a/c* /b", "/a", "/a /a/c* /b"},
		{"all below one without", "/a /b", "/a/c*", "/a /a/c* /b"},
		{"a longer name comes behind what is below", "/a /a/z", "/a0", "/a /a/z /a0"},
		{"what is below comes ahead of a longer name", "/a /a0", "/a/z", "/a /a/z /a0"},
		{"a longer name is not below", "/a* /b", "/ab", "/a* /ab /b"},
		{"a shorter name is not above", "/ab /b", "/a*", "/a* /ab /b"},
		{"the same below another one", "/a/c*", "/b/c", "/a/c* /b/c"},
		{"there", "/a /b", "/a", "/a /b"},
		{"there, with all below", "/a* /b", "/a*", "/a* /b"},
		{"at one with all below", "/a* /b", "/a", "/a* /b"},
		{"below one with all below", "/a* /b", "/a/b", "/a* /b"},
		{"far below one with all below", "/a* /b", "/a/b/c/d", "/a* /b"},
		{"all below one with all below", "/a* /b", "/a/b*", "/a* /b"},
		{"below the root", "/*", "/a", "/*"},
		{"all below the root", "/*", "/a/b*", "/*"},
		{"the root twice", "/*", "/*", "/*"},
		{"all at one without", "/a /b", "/a*", "/a* /b"},
		{"all at one that has some below", "/a /a/b /b", "/a*", "/a* /b"},
		{"all above some", "/a/b /a/c/d* /a/e /a0 /b", "/a*", "/a* /a0 /b"},
		{"all above some far below", "/a /a/b /a/b/c/d /a/b0", "/a/b*", "/a /a/b* /a/b0"},
		{"all at the root", "/a /b/c* /d", "/*", "/*"},
		{"the last that there is room for", "/a /b /c /d /e", "/f", "/a /b /c /d /e /f"},
		{"full, and there", "/a /b /c /d /e /f/g/h", "/e", "/a /b /c /d /e /f/g/h"},
		{"full, and below one with all below", "/a /b /c /d/e* /f/g /f/h", "/d/e/f", "/a /b /c /d/e* /f/g /f/h"},
		{"full, and all at one without", "/a /b /c /d /e /f/g/h", "/e*", "/a /b /c /d /e* /f/g/h"},
		{"full, and all above some", "/a /b /c /d /e/f /e/g/h", "/e*", "/a /b /c /d /e*"},
		{"full, and all above one", "/a /b /c /d /e /f/g/h", "/f*", "/a /b /c /d /e /f*"},
		{"full, and the root", "/a /b /c /d /e /f", "/*", "/*"},
	} {
		checkAdd(t, k.what, marks(k.list), marks(k.mark)[0], marks(k.want))
	}
}

func TestCoarsen(t *testing.T) {
	for _, k := range []struct {
		what, list, mark, want string
	}{
		{"one step, the parent is a mark", "/a /a/b /c /d /e /f", "/g", "/a* /c /d /e /f /g"},
		{"one step, a sibling goes, too", "/a /b/c /b/d /e /f /g", "/h", "/a /b* /e /f /g /h"},
		{"one step, a sibling's below goes, too", "/a /b/c /b/d/e /b/d/f* /g /h", "/i", "/a /b/c /b/d* /g /h /i"},
		{"one step, it is the new one", "/a /b /c /d /e /f", "/a/b", "/a* /b /c /d /e /f"},
		{"one step, it is the new one, with all below", "/a /b /c /d /e /f", "/f/a*", "/a /b /c /d /e /f*"},
		{"one step, all that is below goes", "/a /b/c /b/c/d /b/c/e /b/c/f /b/g", "/h", "/a /b/c* /b/g /h"},
		{"one step, of the deepest the last", "/a/b /a/c /d/e /d/f /g /h", "/i", "/a/b /a/c /d* /g /h /i"},
		{"one step, the deepest are ahead of the last", "/a/b/c /a/b/d /e/f /e/g /h /i", "/j", "/a/b* /e/f /e/g /h /i /j"},
		{"one step, of the deepest the last by names", "/a/b/x /a/b/z /a/b0/x /a/b0/y /c /d", "/e", "/a/b/x /a/b/z /a/b0* /c /d /e"},
		{"one step, it has all below", "/a /b /c/d /c/e* /f /g", "/h", "/a /b /c* /f /g /h"},
		{"one step, the deepest path", "/a /b /c /d/d/d /d/d/d/d /e", "/f", "/a /b /c /d/d/d* /e /f"},
		{"two steps", "/a/b /a/c/d /e /f /g /h", "/i", "/a* /e /f /g /h /i"},
		{"two steps, the first ends with as many", "/a /b/c/d /b/c/e/f /g/h /i /j", "/k", "/a /b/c* /g/h /i /j /k"},
		{"three steps, not of one path", "/a /a/b/c /d/e/f /d/g /h /i", "/j", "/a /a/b* /d* /h /i /j"},
		{"three steps, the last of another path", "/a /a/b /c/d/e /f /g /h", "/i", "/a* /c* /f /g /h /i"},
		{"three steps", "/a /b /c/d /c/e/f/g /h /i", "/j", "/a /b /c* /h /i /j"},
		{"three steps, of the new one", "/a /b /c /d /e /f", "/f/g/h/i", "/a /b /c /d /e /f*"},
		{"seven of the deepest", "/a/a/a/a /a/a/a/b /a/a/b/a /a/a/b/b /a/b/a/a /a/b/a/b", "/a/b/b/a", "/a/a/a/a /a/a/a/b /a/a/b/a /a/a/b/b /a/b/a* /a/b/b*"},
		{"to the root, of one name each", "/a /b /c /d /e /f", "/g", "/*"},
		{"to the root, with all below", "/a* /b* /c* /d* /e* /f*", "/g*", "/*"},
		{"to the root, by way of others", "/a/a /b/b /c/c /d/d /e/e /f/f", "/g/g", "/*"},
		{"to the root, by the deepest path", "/a /b /c /d /e /f", "/g/h/i/j", "/*"},
		{"to the root, the new one ahead", "/b /c /d /e /f /g", "/a/b/c/d*", "/*"},
	} {
		checkAdd(t, k.what, marks(k.list), marks(k.mark)[0], marks(k.want))
	}
}

// checkAdd asks for what a mark makes of a trail, and for all that is promised of it.
func checkAdd(t *testing.T, what string, list []impl.Mark, m impl.Mark, want []impl.Mark) {
	t.Helper()
	if !impl.TrailOk(list) {
		t.Fatalf("%s: %v is not ok", what, list)
	}
	got := impl.TrailAdd(list, m)
	if !sameMarks(got, want) {
		t.Errorf("%s: %v into %v: %v, not %v", what, m, list, got, want)
	}
	if !impl.TrailOk(got) || len(got) > impl.TrailMax {
		t.Errorf("%s: %v into %v: %v is not ok", what, m, list, got)
	}
	for _, old := range append(slices.Clone(list), m) {
		if !marked(got, old) {
			t.Errorf("%s: %v into %v: %v forgets %v", what, m, list, got, old)
		}
		if again := impl.TrailAdd(got, old); !sameMarks(again, got) {
			t.Errorf("%s: %v into %v: %v once more: %v", what, old, got, m, again)
		}
	}
	text := impl.TrailShow(got)
	if read, ok := impl.TrailRead(text); !ok || !sameMarks(read, got) || text == "" {
		t.Errorf("%s: %v was written %q and read %v %v", what, got, text, read, ok)
	}
}

// marked says whether all that a mark marks is marked by a trail.
func marked(list []impl.Mark, m impl.Mark) bool {
	p := text(m.Path)
	return slices.ContainsFunc(list, func(x impl.Mark) bool {
		q := text(x.Path)
		return x.Sub && atOrBelow(p, q) || p == q && x.Sub == m.Sub
	})
}

func TestTrailOf(t *testing.T) {
	full := deep(2, named{"e", dir(0, named{"f", dir(0)})})
	for _, k := range []struct {
		what string
		tree impl.Tree
		c    impl.Call
		want []impl.Mark
	}{
		{"mkdir", example(), call(mkdir, "/n", 7), marks("/n")},
		{"write a new file", example(), writing("/a/n", 0, "x"), marks("/a/n")},
		{"write", example(), writing("/a/b", 24, ""), marks("/a/b")},
		{"truncate", example(), call(truncate, "/c", 24), marks("/c")},
		{"remove a file", example(), call(remove, "/a/b", 0), marks("/a/b")},
		{"remove a directory", dir(0, named{"a", dir(0)}), call(remove, "/a", 0), marks("/a")},
		{"chmod a file", example(), call(chmod, "/c", 0), marks("/c")},
		{"chmod a directory", example(), call(chmod, "/a", 0), marks("/a")},
		{"rename a file", example(), renaming("/c", "/d/x"), marks("/c /d/x")},
		{"rename a directory", example(), renaming("/d", "/a/x"), marks("/d* /a/x*")},
		{"rename a directory, the deepest paths", full, renaming("/d/d/e/f", "/a/b/c/d"), marks("/d/d/e/f* /a/b/c/d*")},
		{"rename a directory that has nothing", dir(0, named{"a", dir(0)}), renaming("/a", "/b"), marks("/a* /b*")},
		{"rename what is not there", example(), renaming("/n", "/m"), marks("/n /m")},
		{"rename what is not there, onto a directory", example(), renaming("/n", "/a"), marks("/n /a")},
		{"rename what is below a file", example(), renaming("/c/n", "/m"), marks("/c/n /m")},
		{"rename what is far from there", example(), renaming("/n/n/n/n", "/m"), marks("/n/n/n/n /m")},
		{"rename a file onto a directory", example(), renaming("/c", "/a"), marks("/c /a")},
		{"rename a directory onto a file", example(), renaming("/a", "/c"), marks("/a* /c*")},
		{"rename a directory onto itself", example(), renaming("/a", "/a"), marks("/a* /a*")},
		{"rename a file within itself", example(), renaming("/c", "/c/c"), marks("/c /c/c")},
		{"a call with a code", example(), call(mkdir, "/c/y/z", 0), marks("/c/y/z")},
		{"what a kind does not need", example(), impl.Call{Kind: remove, Path: names("/d"), To: []string{"A"}, At: 99, Data: strings.Repeat("x", 99)}, marks("/d")},
		{"too much to write", example(), writing("/c", 24, "xx"), marks("/c")},
		{"the root alone", dir(0), writing("/abcde/b/c/d", 0, ""), marks("/abcde/b/c/d")},
	} {
		if got := impl.TrailOf(k.tree, k.c); !sameMarks(got, k.want) {
			t.Errorf("%s: %v, not %v", k.what, got, k.want)
		}
	}
}

// Calls that are none.
func noCalls() []impl.Call {
	return []impl.Call{
		{}, {Path: names("/a")}, call(7, "/a", 0), call(-1, "/a", 0), call(mkdir, "/", 0), call(remove, "", 0), call(chmod, "/a", 8), call(mkdir, "/n", -1),
		writing("/c", 25, ""), writing("/c", -1, ""), call(truncate, "/c", 25), call(remove, "/A", 0), call(remove, "/abcdef", 0), call(remove, "/a/b/c/d/e", 0), call(remove, "/a/", 0),
		renaming("/", "/n"), renaming("/a", "/"), renaming("/a", "/a/b/c/d/e"), renaming("/a/b/c/d/e", "/a"), renaming("/a", "/N"), renaming("/A", "/n"), {Kind: rename, Path: names("/a")},
	}
}

func TestTrailOfNoCall(t *testing.T) {
	for _, c := range noCalls() {
		if got := impl.TrailOf(example(), c); len(got) != 0 {
			t.Errorf("%+v: %v", c, got)
		}
	}
	for name, x := range badTrees() {
		for _, c := range []impl.Call{call(mkdir, "/n", 0), call(remove, "/a", 0), renaming("/a", "/n"), {}} {
			if got := impl.TrailOf(x, c); len(got) != 0 {
				t.Errorf("%s: %+v: %v", name, c, got)
			}
		}
	}
}

func TestTrailsRefused(t *testing.T) {
	for _, text := range []string{
		"\n", " ", " \n", "\n\n", "at", "at\n", "at \n", "at /b", "at /b\n\n", "\nat /b\n", "at /b\r\n", "at /b\n ", "at /b\n\nat /c\n", "at /b\nat /c", "at /bat /c\n", "at /b at /c\n",
		" at /b\n", "at  /b\n", "at /b \n", "at\t/b\n", "at b\n", "at /\n", "at //b\n", "at /b/\n", "at /b//c\n", "at /B\n", "at /abcdef\n", "at /b/c/d/e/f\n", "at /b/../c\n", "at /b 0\n", "at /b sub\n",
		"sub\n", "sub /b", "sub  /b\n", "sub /b \n", "sub b\n", "sub //\n", "sub /abcdef\n", "sub /b/c/d/e/f\n", "sub /b\n\n", "sub /\nsub /\n", "sub /\nat /b\n",
		"At /b\n", "AT /b\n", "Sub /b\n", "ats /b\n", "a /b\n", "su /b\n", "subs /b\n", "gone /b\n", "what /b\n", "/b\n", "at/b\n", "1 /b\n", "all /b\n",
		"at /c\nat /b\n", "at /b\nat /b\n", "sub /b\nsub /b\n", "sub /b\nat /b\n", "at /b\nsub /b\n", "sub /b\nat /b/c\n", "at /b/c\nat /b\n", "at /b0\nat /b/z\n", "sub /b/c\nat /b/c/d\n",
		"at /b\xff\n", "at /\xc3\xa4\n", "at\xc2\xa0/b\n", "at /b\xe2\x80\xa8", "at /\xef\xbf\xbd\n", "at /b\x00\n", "at /b\x85\n",
		"at /b\nat /c\nat /d\nat /e\nat /f\nat /g\nat /h\n", "sub /b\nsub /c\nsub /d\nsub /e\nsub /f\nsub /g\nsub /h\n", "at /b\nat /c\nat /d\nat /e\nat /f\nat /g\n\n", "at /b\nat /c\nat /d\nat /e\nat /f\nat /g\n ",
		strings.Repeat("at /b\n", 100000), strings.Repeat(" ", 1000000), strings.Repeat("\n", 1000000), "at /" + strings.Repeat("b/", 100000) + "\n",
	} {
		for _, given := range []string{text, "at /a\n" + text, text + "at /z\n"} {
			if list, ok := impl.TrailRead(given); ok || len(list) != 0 {
				t.Errorf("%.99q: %v %v", given, list, ok)
			}
		}
	}
}

// A text that was changed anywhere is refused, or is just what is written of the trail that it tells.
func TestTrailsTampered(t *testing.T) {
	taken, refused := 0, 0
	check := func(text string) {
		list, ok := impl.TrailRead(text)
		if ok {
			taken++
		} else {
			refused++
		}
		if ok && (!impl.TrailOk(list) || impl.TrailShow(list) != text) || !ok && len(list) != 0 {
			t.Errorf("%q: %v %v", text, list, ok)
		}
	}
	tamper(trailText+"sub /d0/e/f/zz999\n", check)
	tamper("sub /\n", check)
	if taken == 0 || refused == 0 {
		t.Errorf("%d taken, %d refused", taken, refused)
	}
}

// track is a trail told in another way than the program does: whether all below is marked, too, by paths as texts.
type track map[string]bool

func (k track) under(path string) bool {
	for p, all := range k {
		if all && atOrBelow(path, p) {
			return true
		}
	}
	return false
}

func (k track) marked(path string) bool {
	_, there := k[path]
	return there || k.under(path)
}

// add is false, if the trail stays as it is.
func (k track) add(path string, all bool) bool {
	if k.under(path) || !all && k.marked(path) {
		return false
	}
	if all {
		maps.DeleteFunc(k, func(p string, _ bool) bool { return atOrBelow(p, path) })
	}
	k[path] = all
	return true
}

// coarsen tells how many steps it takes.
func (k track) coarsen() int {
	steps := 0
	for ; len(k) > 6; steps++ {
		deepest := slices.MaxFunc(slices.Sorted(maps.Keys(k)), func(a, b string) int {
			return cmp.Or(cmp.Compare(strings.Count(a, "/"), strings.Count(b, "/")), cmp.Compare(a, b))
		})
		k.add(above(deepest), true)
	}
	return steps
}

func (k track) list() []impl.Mark {
	var out []impl.Mark
	for _, p := range slices.Sorted(maps.Keys(k)) {
		out = append(out, impl.Mark{Path: names(p), Sub: k[p]})
	}
	return out
}

// everyPath is all paths of some names, the root's among them.
func everyPath(some []string, depth int) []string {
	out := []string{""}
	if depth == 0 {
		return out
	}
	for _, path := range everyPath(some, depth-1) {
		for _, name := range some {
			out = append(out, "/"+name+path)
		}
	}
	return out
}

// mark is one of few names or of many, so that some trails stay within a part of the tree.
func (r maker) mark(few bool) impl.Mark {
	path := make([]string, 1+r.IntN(4))
	for i := range path {
		path[i] = r.name()
		if few {
			path[i] = []string{"a", "b"}[r.IntN(2)]
		}
	}
	if r.IntN(60) == 0 {
		return impl.Mark{Sub: true}
	}
	return impl.Mark{Path: path, Sub: r.IntN(4) == 0}
}

// checkKept asks, path by path, that nothing that was marked is forgotten, nor what is marked now.
func checkKept(t *testing.T, paths []string, before track, m impl.Mark, after track) {
	t.Helper()
	for _, path := range paths {
		wanted := before.marked(path) || path == text(m.Path) || m.Sub && atOrBelow(path, text(m.Path))
		if wanted && !after.marked(path) {
			t.Fatalf("%v into %v: %v forgets %s", m, before, after, path)
		}
		if before.under(path) && !after.under(path) {
			t.Fatalf("%v into %v: %s is not under %v", m, before, path, after)
		}
	}
}

func TestMadeUpTrails(t *testing.T) {
	r := newMaker(6)
	all := everyPath([]string{"a", "a0", "b", "c", "zz999"}, 4)
	steps, stayed, roots := map[int]int{}, 0, 0
	for i := range 400 {
		want, got := track{}, []impl.Mark(nil)
		for range 14 {
			m, before := r.mark(i%2 == 0), maps.Clone(want)
			if !want.add(text(m.Path), m.Sub) {
				stayed++
			}
			steps[want.coarsen()]++
			checkAdd(t, "made up", got, m, want.list())
			got = impl.TrailAdd(got, m)
			checkKept(t, all, before, m, trackOf(got))
			if t.Failed() {
				return
			}
		}
		if want[""] {
			roots++
		}
	}
	for _, n := range []int{0, 1, 2, 3} {
		if steps[n] < 20 {
			t.Errorf("how many steps it took: %v", steps)
		}
	}
	if stayed < 20 || roots < 20 || roots > 380 {
		t.Errorf("%d stayed, %d ended at the root", stayed, roots)
	}
}

// Whatever a call's codes, TrailOf marks its paths, and with all below just if a directory goes.
func TestMadeUpTrailOf(t *testing.T) {
	r := newMaker(7)
	for i := range 3000 {
		m := r.model(i % 31)
		c := r.call(m)
		want := []impl.Mark{{Path: c.Path}}
		if c.Kind == rename {
			all := m[text(c.Path)].dir
			want = []impl.Mark{{Path: c.Path, Sub: all}, {Path: c.To, Sub: all}}
		}
		if got := impl.TrailOf(m.tree(""), c); !sameMarks(got, want) {
			t.Fatalf("%+v of %q: %v", c, m.show(), got)
		}
	}
}

// All lists of up to three marks of a few paths: what is ok is asked of each pair, and what is added is told by the model.
func TestEveryShortTrail(t *testing.T) {
	var every []impl.Mark
	for _, path := range []string{"/", "/a", "/a/a", "/a/b", "/a0", "/b"} {
		every = append(every, at(path), sub(path))
	}
	lists := [][]impl.Mark{nil}
	for range 3 {
		for _, list := range lists {
			for _, m := range every {
				lists = append(lists, append(slices.Clone(list), m))
			}
		}
	}
	good := 0
	for _, list := range lists {
		ok := plainlyOk(list)
		read, taken := impl.TrailRead(plainText(list))
		if impl.TrailOk(list) != ok || taken != ok || ok && !sameMarks(read, list) || !ok && len(read) != 0 {
			t.Fatalf("%v: ok %v, read %v %v", list, impl.TrailOk(list), read, taken)
		}
		if !ok {
			continue
		}
		good++
		for _, m := range every {
			if m.Sub || len(m.Path) > 0 {
				want := trackOf(list)
				want.add(text(m.Path), m.Sub)
				checkAdd(t, "every", list, m, want.list())
			}
		}
	}
	if good < 100 {
		t.Errorf("%d are ok", good)
	}
}

func trackOf(list []impl.Mark) track {
	k := track{}
	for _, m := range list {
		k[text(m.Path)] = m.Sub
	}
	return k
}

// plainlyOk is of marks whose names are names.
func plainlyOk(list []impl.Mark) bool {
	for i, m := range list {
		if !m.Sub && len(m.Path) == 0 {
			return false
		}
		for _, x := range list[:i] {
			if text(m.Path) <= text(x.Path) || x.Sub && atOrBelow(text(m.Path), text(x.Path)) {
				return false
			}
		}
	}
	return len(list) <= 6
}

// plainText writes marks also if they are no trail.
func plainText(list []impl.Mark) string {
	out := ""
	for _, m := range list {
		word, path := "at ", text(m.Path)
		if m.Sub {
			word = "sub "
		}
		if path == "" {
			path = "/"
		}
		out += word + path + "\n"
	}
	return out
}
