package tests

import (
	"testing"

	"loop.example/changetrail/impl"
)

// touched is the paths that a call names.
func touched(c impl.Call) []string {
	if c.Kind == rename {
		return []string{text(c.Path), text(c.To)}
	}
	return []string{text(c.Path)}
}

// apart says whether two calls touch nothing of each other.
func apart(one, two impl.Call) bool {
	for _, p := range touched(one) {
		for _, q := range touched(two) {
			if atOrBelow(p, q) || atOrBelow(q, p) {
				return false
			}
		}
	}
	return true
}

// inTurn does two calls, one by one, and tells the tree, and both codes.
type inTurn func(one, two impl.Call) (impl.Tree, int, int)

// waysToDo is the ways in which calls are done from a tree on: in it, with a trail, through an upper, and in a state.
func waysToDo(t *testing.T, base, x impl.Tree) map[string]inTurn {
	t.Helper()
	rows := impl.TableMake(base)
	u, ok := impl.UpperOf(rows, x)
	s := impl.State{First: base, Rows: rows, Upper: u, Trail: []impl.Mark{sub("/")}, Nodes: impl.NodesStart(x)}
	if !ok || !impl.StateOk(s) {
		t.Fatalf("%v %+v", ok, s)
	}
	return map[string]inTurn{
		"in a tree": func(one, two impl.Call) (impl.Tree, int, int) {
			y, first := impl.TreeDo(x, one)
			z, second := impl.TreeDo(y, two)
			return z, first, second
		},
		"with a trail": func(one, two impl.Call) (impl.Tree, int, int) {
			y, list, first := impl.TrailDo(x, nil, one)
			z, _, second := impl.TrailDo(y, list, two)
			return z, first, second
		},
		"through an upper": func(one, two impl.Call) (impl.Tree, int, int) {
			v, first := impl.UpperDo(rows, u, one)
			w, second := impl.UpperDo(rows, v, two)
			z, _ := impl.UpperTree(rows, w)
			return z, first, second
		},
		"in a state": func(one, two impl.Call) (impl.Tree, int, int) {
			a, first := impl.StateDo(s, one)
			b, second := impl.StateDo(a, two)
			z, _ := impl.UpperTree(b.Rows, b.Upper)
			return z, first, second
		},
	}
}

// checkSwap does two calls in either order, and tells their codes; one that is 6 may be another one then.
func checkSwap(t *testing.T, what string, base, x impl.Tree, one, two impl.Call) (int, int) {
	t.Helper()
	first, second := 0, 0
	for way, do := range waysToDo(t, base, x) {
		y, a, b := do(one, two)
		z, d, c := do(two, one)
		first, second = a, b
		if a == 6 || b == 6 || c == 6 || d == 6 {
			continue
		}
		if a != c || b != d || !same(y, z) {
			t.Errorf("%s, %s: %+v and %+v in %q: codes %d and %d and %q, and in the other order %d and %d and %q", what, way, one, two, impl.TreeShow(x), a, b, impl.TreeShow(y), c, d, impl.TreeShow(z))
		}
	}
	return first, second
}

func TestSwap(t *testing.T) {
	for _, k := range []struct {
		what          string
		one, two      impl.Call
		first, second int
	}{
		{"two files of one directory", writing("/a/b", 0, "x"), writing("/a/c", 0, "y"), 0, 0},
		{"a name that goes on", writing("/c", 0, "x"), writing("/c0", 0, "y"), 0, 0},
		{"a file and a directory", call(remove, "/c", 0), call(chmod, "/d", 7), 0, 0},
		{"a rename and what is beside both ends", renaming("/a", "/d/a"), call(truncate, "/d/e", 9), 0, 0},
		{"two renames", renaming("/a", "/x"), renaming("/d/e", "/y"), 0, 0},
		{"two renames into one directory", renaming("/a/b", "/d/x"), renaming("/c", "/d/y"), 0, 0},
		{"one that is refused", call(mkdir, "/a/b/x", 0), call(remove, "/c", 0), 4, 0},
		{"one that is not there", call(remove, "/n", 0), writing("/m", 0, ""), 3, 0},
		{"both refused", call(remove, "/n", 0), call(truncate, "/m", 0), 3, 3},
		{"no parent, and beside it", call(mkdir, "/x/y", 0), call(mkdir, "/y", 0), 3, 0},
		{"one within itself", renaming("/d", "/d/x"), writing("/a/b", 0, ""), 7, 0},
	} {
		if !apart(k.one, k.two) {
			t.Fatalf("%s: not apart", k.what)
		}
		for _, base := range []impl.Tree{example(), other(), dir(0)} {
			if first, second := checkSwap(t, k.what, base, example(), k.one, k.two); first != k.first || second != k.second {
				t.Errorf("%s: codes %d and %d", k.what, first, second)
			}
		}
	}
	// Where one begins with the other one's path, the order counts.
	for _, k := range [][2]impl.Call{{call(remove, "/a/b", 0), call(remove, "/a", 0)}, {call(mkdir, "/n", 0), call(mkdir, "/n/n", 0)}, {renaming("/a", "/n"), writing("/n/m", 0, "")}} {
		_, first, second := waysToDo(t, example(), example())["in a tree"](k[0], k[1])
		_, third, _ := waysToDo(t, example(), example())["in a tree"](k[1], k[0])
		if apart(k[0], k[1]) || first != 0 || second != 0 || third == 0 {
			t.Errorf("%+v: codes %d, %d, %d", k, first, second, third)
		}
	}
	// The code 6 is apart: there is room for one of both.
	first, second := checkSwap(t, "one too many", wide(29), wide(29), call(mkdir, "/m", 0), call(mkdir, "/n", 0))
	if first != 0 || second != 6 {
		t.Errorf("one too many: %d and %d", first, second)
	}
}

func TestMadeUpSwaps(t *testing.T) {
	r := newMaker(33)
	done, refused := 0, 0
	for i := range 900 {
		m := r.model(i % 31)
		one, two := r.call(m), r.call(m)
		if !apart(one, two) {
			continue
		}
		first, second := checkSwap(t, "made up", r.near(m).tree(""), m.tree(""), one, two)
		if t.Failed() {
			return
		}
		if first == 0 && second == 0 {
			done++
		} else {
			refused++
		}
	}
	if done < 100 || refused < 100 {
		t.Errorf("%d done, %d refused", done, refused)
	}
}

// checkMore marks one path more, and asks that a trail that covers leads to the same.
func checkMore(t *testing.T, what string, base, cur impl.Tree, list []impl.Mark, m impl.Mark) {
	t.Helper()
	more := impl.TrailAdd(list, m)
	before, _ := impl.TrailDiff(base, cur, list)
	after, _ := impl.TrailDiff(base, cur, more)
	if !impl.TrailCovers(base, cur, list) || !impl.TrailCovers(base, cur, more) || !sameEntries(before, after) || !sameEntries(before, impl.DiffWalk(base, cur)) {
		t.Errorf("%s: %v into %v from %q to %q: %v leads to %v, not to %v", what, m, list, impl.TreeShow(base), impl.TreeShow(cur), more, after, before)
	}
}

func TestOneMarkMore(t *testing.T) {
	exact := marks("/a /a/b /c /c/f* /d*")
	for _, words := range []string{"/a", "/a*", "/a/b*", "/c*", "/c/f/e", "/d/e", "/", "/*", "/n", "/n*", "/0/0/0/0", "/zz/z", "/A"} {
		m := impl.Mark{Path: names(words)}
		if words != "/" {
			m = marks(words)[0]
		}
		for _, list := range [][]impl.Mark{exact, marks("/a /a/b /c /c/f* /d* /zzz"), marks("/a* /c* /d /d/e"), marks("/*")} {
			checkMore(t, words, example(), other(), list, m)
		}
		for _, list := range okTrails() {
			checkMore(t, words+", nothing differs", example(), example(), list, m)
		}
	}
	for what, m := range badMarks() {
		checkMore(t, what, example(), other(), exact, m)
		checkMore(t, what, example(), example(), nil, m)
	}
}

func TestMadeUpMarksMore(t *testing.T) {
	r := newMaker(34)
	grown, coarser := 0, 0
	for i := range 900 {
		l := leads{old: r.model(i % 31)}
		l.now = r.near(l.old)
		l.trail = r.trail(l, false)
		if !l.covers() {
			l.trail = track{"": true}
		}
		list, m := l.trail.list(), r.mark(i%2 == 0)
		checkMore(t, "made up", l.old.tree(""), l.now.tree(""), list, m)
		if t.Failed() {
			return
		}
		if more := impl.TrailAdd(list, m); len(more) > len(list) {
			grown++
		} else if len(more) < len(list) || len(more) == impl.TrailMax && !sameMarks(more, list) {
			coarser++
		}
		s := impl.State{First: l.old.tree(""), Rows: l.old.rows(), Upper: l.old.upper(l.now), Trail: list, Nodes: rollOf(l.now).nodes()}
		one, layer, code := impl.StateCommit(s)
		s.Trail = impl.TrailAdd(list, m)
		two, again, other := impl.StateCommit(s)
		if code != 0 || other != 0 || layer != again || !sameState(one, two) {
			t.Errorf("%v into %v: committed %q, and %q", m, list, layer, again)
		}
	}
	if grown < 100 || coarser < 50 {
		t.Errorf("%d grown, %d coarser", grown, coarser)
	}
}
