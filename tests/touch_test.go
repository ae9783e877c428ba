package tests

import (
	"strconv"
	"testing"

	"loop.example/changetrail/impl"
)

// touch does a call on a trail, and asks that the trail stands in no call's way.
func touch(t *testing.T, what string, x impl.Tree, list []impl.Mark, c impl.Call, code int) (impl.Tree, []impl.Mark) {
	t.Helper()
	y, got, n := impl.TrailDo(x, list, c)
	want, done := impl.TreeDo(x, c)
	if n != code || done != code || !same(y, want) {
		t.Errorf("%s: %+v: code %d, not %d, and %q, not %q", what, c, n, code, impl.TreeShow(y), impl.TreeShow(want))
	}
	if !impl.TrailOk(got) || len(got) > impl.TrailMax || code != 0 && !sameMarks(got, list) {
		t.Errorf("%s: %+v: from %v to %v, code %d", what, c, list, got, code)
	}
	return y, got
}

func TestExampleTouched(t *testing.T) {
	x, list := example(), []impl.Mark(nil)
	for _, c := range exampleCalls() {
		x, list = touch(t, "example", x, list, c, 0)
		leads{modelOf(example()), modelOf(x), trackOf(list)}.check(t, "example")
		if !impl.TrailCovers(example(), x, list) {
			t.Errorf("behind %+v: %v does not cover", c, list)
		}
	}
	if !same(x, other()) || impl.TrailShow(list) != trailText {
		t.Errorf("%q, and %q", impl.TreeShow(x), impl.TrailShow(list))
	}
}

func TestTouch(t *testing.T) {
	x := dir(0,
		named{"a", dir(5, named{"b", file(0, "hi")}, named{"e", dir(0)})},
		named{"c", file(1, "")},
		named{"d", dir(0, named{"e", file(0, "\x00\xff")})},
		named{"h", dir(0, named{"i", dir(0, named{"j", file(0, "")})})})
	for _, k := range []struct {
		what, list string
		c          impl.Call
		want       string
	}{
		{"mkdir", "", call(mkdir, "/n", 7), "/n"},
		{"write", "", writing("/a/b", 0, "x"), "/a/b"},
		{"write what is there", "", writing("/a/b", 0, "hi"), "/a/b"},
		{"write a new file", "", writing("/a/n", 0, "x"), "/a/n"},
		{"truncate", "", call(truncate, "/c", 3), "/c"},
		{"remove a file", "", call(remove, "/a/b", 0), "/a/b"},
		{"remove a directory", "", call(remove, "/a/e", 0), "/a/e"},
		{"chmod a file", "", call(chmod, "/c", 7), "/c"},
		{"chmod a directory", "", call(chmod, "/a", 7), "/a"},
		{"chmod to what it has", "", call(chmod, "/a", 5), "/a"},
		{"rename a file", "", renaming("/c", "/d/c"), "/c /d/c"},
		{"rename a file, to ahead of it", "", renaming("/d/e", "/a/a"), "/a/a /d/e"},
		{"rename a directory", "", renaming("/a", "/z"), "/a* /z*"},
		{"rename a directory that has nothing", "", renaming("/a/e", "/d/a"), "/a/e* /d/a*"},
		{"rename a directory, some below it are marked", "/a /a/b /c", renaming("/a", "/d/x"), "/a* /c /d/x*"},
		{"rename a directory to where marks are", "/a /n /n/x /n/y*", renaming("/d", "/n"), "/a /d* /n*"},
		{"rename a file to where a mark is", "/n/x*", renaming("/c", "/n"), "/c /n /n/x*"},
		{"marked", "/a /c", call(chmod, "/a", 7), "/a /c"},
		{"under", "/a* /c", writing("/a/b", 0, "x"), "/a* /c"},
		{"under the root", "/*", renaming("/a", "/z"), "/*"},
		{"one end under", "/d*", renaming("/c", "/d/x"), "/c /d*"},
		{"the last that there is room for", "/a /b /c /d /e", call(mkdir, "/f", 0), "/a /b /c /d /e /f"},
		{"both are the last", "/b /e /f /g", renaming("/c", "/d/c"), "/b /c /d/c /e /f /g"},
		{"full, and marked", "/a /b /c /d /e /f", call(truncate, "/c", 3), "/a /b /c /d /e /f"},
		{"one too many", "/a /b /c /d /e /f", call(mkdir, "/g", 0), "/*"},
		{"one too many, below one", "/a /b /c /d /e /f", writing("/a/b", 0, ""), "/a* /b /c /d /e /f"},
		{"one too many by the other end", "/b /e /f /g /n", renaming("/c", "/d/c"), "/*"},
		{"the first end makes it coarser, then the other one is under it", "/a /b /c /d/e /d/f /g", renaming("/h/i/j", "/d/k"), "/a /b /c /d* /g /h*"},
		{"the first end makes it coarser, then there is room", "/a /b /c /d/f /d/g /g", renaming("/d/e", "/h/i/k"), "/a /b /c /d* /g /h/i/k"},
	} {
		if _, got := touch(t, k.what, x, marks(k.list), k.c, 0); !sameMarks(got, marks(k.want)) {
			t.Errorf("%s: %+v: from %s to %v, not %s", k.what, k.c, k.list, got, k.want)
		}
	}
}

func TestTouchRefused(t *testing.T) {
	for _, k := range refusedCalls() {
		for _, list := range okTrails() {
			touch(t, k.what, example(), list, k.c, k.code)
		}
	}
	for _, c := range noCalls() {
		for _, list := range okTrails() {
			touch(t, "no call", example(), list, c, 2)
		}
	}
}

// One more than a limit allows is refused by the tree, and then the trail stays.
func TestTouchAtTheLimits(t *testing.T) {
	full := deep(2, named{"e", dir(0, named{"f", dir(0)})})
	full.Names, full.Kids = append(full.Names, "m"), append(full.Kids, dir(0, named{"n", dir(0)}))
	for _, k := range []struct {
		what string
		x    impl.Tree
		c    impl.Call
		code int
		want string
	}{
		{"the last that there is room for", wide(29), call(mkdir, "/a", 0), 0, "/a /x"},
		{"one too many", wide(30), call(mkdir, "/a", 0), 6, "/x"},
		{"one file too many", wide(30), writing("/a", 0, ""), 6, "/x"},
		{"as many as there were", wide(30), renaming("/f00", "/a"), 0, "/a /f00 /x"},
		{"most bytes", wide(30), writing("/f00", 23, "x"), 0, "/f00 /x"},
		{"one byte too many", wide(30), writing("/f00", 24, "x"), 6, "/x"},
		{"as deep as can be", full, renaming("/m/n", "/d/d/e/g"), 0, "/d/d/e/g* /m/n* /x"},
		{"too deep", full, renaming("/m", "/d/d/e/g"), 6, "/x"},
		{"greatest mode", full, call(chmod, "/m", 7), 0, "/m /x"},
		{"mode too great", full, call(chmod, "/m", 8), 2, "/x"},
		{"name too long", full, call(mkdir, "/abcdef", 0), 2, "/x"},
		{"longest name", full, call(mkdir, "/abcde", 0), 0, "/abcde /x"},
	} {
		if _, got := touch(t, k.what, k.x, marks("/x"), k.c, k.code); !sameMarks(got, marks(k.want)) {
			t.Errorf("%s: %v, not %s", k.what, got, k.want)
		}
	}
}

func TestTouchNotOk(t *testing.T) {
	refuse := func(what string, x impl.Tree, list []impl.Mark) {
		for _, c := range append(noCalls(), call(mkdir, "/n", 0), call(remove, "/c", 0), call(remove, "/n", 0), renaming("/a", "/z"), renaming("/a", "/a")) {
			y, got, code := impl.TrailDo(x, list, c)
			if code != 1 || !isNothing(y) || len(got) != 0 {
				t.Errorf("%s: %+v: %v %v %d", what, c, y, got, code)
			}
		}
	}
	for name, list := range badTrails() {
		refuse(name, example(), list)
	}
	for name, x := range badTrees() {
		refuse(name, x, nil)
		refuse(name, x, marks("/a /b*"))
		refuse(name, x, marks("/b /a"))
	}
}

// What was changed and changed back leaves marks, and no entries.
func TestChangedBack(t *testing.T) {
	for what, calls := range map[string][]impl.Call{
		"bytes":              {writing("/a/b", 1, "x"), writing("/a/b", 1, "i")},
		"a size":             {call(truncate, "/a/b", 24), call(truncate, "/a/b", 2)},
		"a mode":             {call(chmod, "/a", 0), call(chmod, "/a", 5)},
		"a new file":         {writing("/a/n", 0, "x"), call(remove, "/a/n", 0)},
		"a new directory":    {call(mkdir, "/n", 1), call(remove, "/n", 0)},
		"some below it, too": {call(mkdir, "/n", 1), writing("/n/m", 0, ""), call(remove, "/n/m", 0), call(remove, "/n", 0)},
		"a file that went":   {renaming("/a/b", "/d/b"), renaming("/d/b", "/a/b")},
		"a directory":        {renaming("/a", "/d/a"), writing("/d/a/b", 0, "H"), writing("/d/a/b", 0, "h"), renaming("/d/a", "/a")},
		"by way of another":  {renaming("/a", "/x"), renaming("/x", "/d/y"), renaming("/d/y", "/a")},
		"a file made anew":   {call(remove, "/a/b", 0), call(mkdir, "/a/b", 3), call(remove, "/a/b", 0), writing("/a/b", 0, "hi")},
		"two swapped twice":  {renaming("/a", "/x"), renaming("/d", "/a"), renaming("/x", "/d"), renaming("/d", "/x"), renaming("/a", "/d"), renaming("/x", "/a")},
		"far too many": {
			call(chmod, "/a", 0), call(chmod, "/a/b", 7), call(chmod, "/c", 7), call(chmod, "/d", 7), call(chmod, "/d/e", 7), call(mkdir, "/n", 0), call(mkdir, "/m", 0),
			call(chmod, "/a", 5), call(chmod, "/a/b", 0), call(chmod, "/c", 1), call(chmod, "/d", 0), call(chmod, "/d/e", 0), call(remove, "/n", 0), call(remove, "/m", 0),
		},
	} {
		x, list := example(), []impl.Mark(nil)
		for i, c := range calls {
			x, list = touch(t, what, x, list, c, 0)
			if got, _ := impl.TrailDiff(example(), x, list); i == 0 && len(got) == 0 {
				t.Errorf("%s: nothing was changed", what)
			}
			leads{modelOf(example()), modelOf(x), trackOf(list)}.check(t, what)
		}
		got, looks := impl.TrailDiff(example(), x, list)
		if !same(x, example()) || len(got) != 0 || looks == 0 || len(list) == 0 {
			t.Errorf("%s: %q, %v, %v, %d looks", what, impl.TreeShow(x), list, got, looks)
		}
	}
}

// mark marks a call that was done, as the model has it; how many steps coarser the trail became.
func (k track) mark(m model, c impl.Call) int {
	all := c.Kind == rename && m[text(c.Path)].dir
	k.add(text(c.Path), all)
	steps := k.coarsen()
	if c.Kind == rename {
		k.add(text(c.To), all)
		steps += k.coarsen()
	}
	return steps
}

// touching is a call as any, but often a rename, or, of many, one at the root: few names alone never make a trail all coarse.
func (r maker) touching(m model, many bool) impl.Call {
	c := r.call(m)
	switch r.IntN(4) {
	case 0:
		c = impl.Call{Kind: rename, Path: c.Path, To: c.To}
	case 1:
		if many {
			c = impl.Call{Kind: mkdir, Path: []string{"n" + strconv.Itoa(r.IntN(9))}}
		}
	}
	return c
}

// From any tree on, behind any calls, beginning with no marks.
func TestMadeUpTouches(t *testing.T) {
	r := newMaker(10)
	codes, coarser, roots := map[int]int{}, 0, 0
	for i := range 250 {
		first := r.model(i % 31)
		base := first.tree("")
		m, x := first, base
		k, list := track{}, []impl.Mark(nil)
		for range 24 {
			c := r.touching(m, i%2 == 0)
			next, code := m.do(c)
			if code == 0 && k.mark(m, c) > 0 {
				coarser++
			}
			x, list = touch(t, "made up", x, list, c, code)
			if !same(x, next.tree("")) || !sameMarks(list, k.list()) {
				t.Errorf("%+v of %q: %q, not %q, and %v, not %v", c, m.show(), impl.TreeShow(x), next.show(), list, k.list())
			}
			if !impl.TrailCovers(base, x, list) {
				t.Errorf("%+v of %q: from %q: %v does not cover", c, m.show(), first.show(), list)
			}
			m = next
			leads{first, m, k}.check(t, "made up")
			if read, ok := impl.TrailRead(impl.TrailShow(list)); !ok || !sameMarks(read, list) {
				t.Errorf("%v was read %v %v", list, read, ok)
			}
			if t.Failed() {
				return
			}
			codes[code]++
		}
		if k[""] {
			roots++
		}
	}
	if len(codes) != 6 || coarser < 100 || roots < 20 || roots > 230 {
		t.Errorf("codes %v, %d made coarser, %d ended at the root", codes, coarser, roots)
	}
}

// Any trail that is ok stands in no call's way, whether it covers or not.
func TestTouchesOnAnyTrail(t *testing.T) {
	r := newMaker(11)
	for i := range 1500 {
		m := r.model(i % 31)
		k := r.trail(leads{old: m, now: r.near(m)}, i%2 == 0)
		before, c := k.list(), r.call(m)
		next, code := m.do(c)
		if code == 0 {
			k.mark(m, c)
		}
		y, list := touch(t, "any trail", m.tree(""), before, c, code)
		if !same(y, next.tree("")) || !sameMarks(list, k.list()) {
			t.Fatalf("%+v of %q: %q, and from %v to %v, not %v", c, m.show(), impl.TreeShow(y), before, list, k.list())
		}
	}
}

// Behind half as many calls as there may be marks, only what a rename of a directory named has Sub.
func TestNotCoarserThanItMustBe(t *testing.T) {
	r := newMaker(12)
	most, subs, plain := 0, 0, 0
	for i := range 1200 {
		m := r.model(i % 31)
		x, list := m.tree(""), []impl.Mark(nil)
		ends := track{}
		for done := 0; done < impl.TrailMax/2; {
			c := r.touching(m, false)
			// Some that are no renames are left in, as of few parts there may be none to rename.
			if i%2 == 0 && r.IntN(9) > 0 {
				c.Kind = rename
			}
			next, code := m.do(c)
			if code == 0 {
				done++
			}
			if code == 0 && c.Kind == rename && m[text(c.Path)].dir {
				ends[text(c.Path)], ends[text(c.To)] = true, true
			}
			x, list = touch(t, "few calls", x, list, c, code)
			m = next
			for _, mark := range list {
				if mark.Sub && !ends[text(mark.Path)] {
					t.Fatalf("%+v: %v, and only %v were ends of a directory", c, list, ends)
				}
				if mark.Sub {
					subs++
				} else {
					plain++
				}
			}
			most = max(most, len(list))
		}
	}
	if most != impl.TrailMax || subs < 100 || plain < 100 {
		t.Errorf("at most %d marks, %d with Sub, %d without", most, subs, plain)
	}
}

// Three renames that share no path fill a trail, and one call more makes it coarser.
func TestThreeRenames(t *testing.T) {
	f := file(0, "")
	x := dir(0, named{"a", dir(0, named{"a", f}, named{"b", f}, named{"c", dir(0, named{"d", f})})}, named{"b", dir(0)})
	list := []impl.Mark(nil)
	for _, c := range []impl.Call{renaming("/a/a", "/b/a"), renaming("/a/b", "/b/b"), renaming("/a/c", "/b/c")} {
		x, list = touch(t, "three", x, list, c, 0)
	}
	if want := marks("/a/a /a/b /a/c* /b/a /b/b /b/c*"); !sameMarks(list, want) {
		t.Errorf("%v, not %v", list, want)
	}
	if _, list = touch(t, "four", x, list, call(chmod, "/a", 7), 0); !sameMarks(list, marks("/a /a/a /a/b /a/c* /b*")) {
		t.Errorf("one more: %v", list)
	}
}
