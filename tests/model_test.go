package tests

import (
	"fmt"
	"maps"
	"math/rand/v2"
	"slices"
	"strings"
	"testing"

	"loop.example/changetrail/impl"
)

// model is a tree told in another way than the program does: all that is there by its path as text, the root being "".
type model map[string]thing

type thing struct {
	dir  bool
	mode int
	data string
}

func text(path []string) string {
	out := ""
	for _, name := range path {
		out += "/" + name
	}
	return out
}

func above(path string) string {
	return path[:strings.LastIndex(path, "/")]
}

// atOrBelow asks for the slash, as one name may be the beginning of another one.
func atOrBelow(path, start string) bool {
	return path == start || strings.HasPrefix(path, start+"/")
}

func modelOf(t impl.Tree) model {
	m := model{}
	m.take("", t)
	return m
}

func (m model) take(path string, t impl.Tree) {
	m[path] = thing{t.Dir, t.Mode, t.Data}
	for i, name := range t.Names {
		m.take(path+"/"+name, t.Kids[i])
	}
}

// below is the names right below a path, ascending.
func (m model) below(path string) []string {
	var out []string
	for p := range m {
		if p != "" && above(p) == path {
			out = append(out, p[len(path)+1:])
		}
	}
	slices.Sort(out)
	return out
}

func (m model) tree(path string) impl.Tree {
	x := m[path]
	t := impl.Tree{Dir: x.dir, Mode: x.mode, Data: x.data}
	for _, name := range m.below(path) {
		t.Names = append(t.Names, name)
		t.Kids = append(t.Kids, m.tree(path+"/"+name))
	}
	return t
}

// show takes it that a slash is ahead of all that a name has, so that texts of paths are in the order of paths.
func (m model) show() string {
	out := ""
	for _, p := range slices.Sorted(maps.Keys(m)) {
		shown, x := p, m[p]
		if p == "" {
			shown = "/"
		}
		if x.dir {
			out += fmt.Sprintf("dir %s %d\n", shown, x.mode)
		} else if x.data == "" {
			out += fmt.Sprintf("file %s %d -\n", shown, x.mode)
		} else {
			out += fmt.Sprintf("file %s %d %x\n", shown, x.mode, x.data)
		}
	}
	return out
}

func (m model) ok() bool {
	for p := range m {
		if strings.Count(p, "/") > 4 {
			return false
		}
	}
	return len(m) <= 31
}

// parent is the code that the parent of a path has.
func (m model) parent(path string) int {
	x, there := m[above(path)]
	if !there {
		return 3
	}
	if !x.dir {
		return 4
	}
	return 0
}

// do is the model behind a call that is one, and the code.
func (m model) do(c impl.Call) (model, int) {
	path, to := text(c.Path), text(c.To)
	if code := m.parent(path); code != 0 {
		return m, code
	}
	next := maps.Clone(m)
	if code := next.change(c, path, to); code != 0 {
		return m, code
	}
	if !next.ok() {
		return m, 6
	}
	return next, 0
}

func (m model) change(c impl.Call, path, to string) int {
	x, there := m[path]
	switch {
	case c.Kind == mkdir && there:
		return 5
	case c.Kind == mkdir:
		m[path] = thing{dir: true, mode: c.At}
		return 0
	case c.Kind == write:
		return m.write(path, c.At, c.Data)
	case !there:
		return 3
	case c.Kind == truncate && x.dir:
		return 4
	case c.Kind == truncate:
		x.data = (x.data + strings.Repeat("\x00", 24))[:c.At]
		m[path] = x
	case c.Kind == remove && len(m.below(path)) > 0:
		return 5
	case c.Kind == remove:
		delete(m, path)
	case c.Kind == chmod:
		x.mode = c.At
		m[path] = x
	case c.Kind == rename:
		return m.move(path, to)
	}
	return 0
}

func (m model) write(path string, at int, data string) int {
	x := m[path]
	if x.dir {
		return 4
	}
	if at+len(data) > 24 {
		return 6
	}
	bytes := []byte(x.data)
	for len(bytes) < at {
		bytes = append(bytes, 0)
	}
	for i := range len(data) {
		if at+i < len(bytes) {
			bytes[at+i] = data[i]
		} else {
			bytes = append(bytes, data[i])
		}
	}
	x.data = string(bytes)
	m[path] = x
	return 0
}

func (m model) move(path, to string) int {
	if atOrBelow(to, path) {
		return 7
	}
	if code := m.parent(to); code != 0 {
		return code
	}
	if _, there := m[to]; there {
		return 5
	}
	for _, p := range slices.Collect(maps.Keys(m)) {
		if atOrBelow(p, path) {
			m[to+p[len(path):]] = m[p]
			delete(m, p)
		}
	}
	return 0
}

// maker makes up trees and calls, the same each time.
type maker struct {
	*rand.Rand
}

func newMaker(seed uint64) maker {
	return maker{rand.New(rand.NewPCG(seed, 1))}
}

func (r maker) name() string {
	some := []string{"a", "a0", "b", "c", "zz999"}
	return some[r.IntN(len(some))]
}

func (r maker) data(most int) string {
	out := make([]byte, r.IntN(most+1))
	for i := range out {
		out[i] = byte(r.IntN(256))
	}
	return string(out)
}

// path is one that is there, or one name behind such a one, or any.
func (r maker) path(m model) []string {
	there := slices.Sorted(maps.Keys(m))
	path := there[r.IntN(len(there))]
	if path == "" || r.IntN(3) == 0 {
		path += "/" + r.name()
	}
	if r.IntN(8) == 0 {
		path += "/" + r.name()
	}
	list := names(path)
	return list[:min(len(list), 4)]
}

func (r maker) model(most int) model {
	m := model{"": {dir: true, mode: r.IntN(8)}}
	for range 20 * most {
		p := text(r.path(m))
		if _, there := m[p]; there || len(m) > most || m.parent(p) != 0 {
			continue
		}
		if r.IntN(2) == 0 {
			m[p] = thing{dir: true, mode: r.IntN(8)}
		} else {
			m[p] = thing{mode: r.IntN(8), data: r.data(24)}
		}
	}
	return m
}

func (r maker) call(m model) impl.Call {
	c := impl.Call{Kind: 1 + r.IntN(6), Path: r.path(m), To: r.path(m), At: r.IntN(8), Data: r.data(9)}
	if c.Kind == write || c.Kind == truncate {
		c.At = r.IntN(25)
	}
	return c
}

// checkAsked holds all that can be asked of a tree against its model.
func checkAsked(t *testing.T, r maker, x impl.Tree, m model) {
	t.Helper()
	paths := [][]string{nil, {"n"}, r.path(m), r.path(m)}
	for p := range m {
		if p != "" {
			paths = append(paths, names(p))
		}
	}
	for _, path := range paths {
		p := text(path)
		want, there := m[p]
		y, ok := impl.TreeAt(x, path)
		if ok != there || there && !same(y, m.tree(p)) || !there && !isNothing(y) {
			t.Errorf("at %v: %v %v", path, y, ok)
		}
		readCode, listCode := 0, 4
		if !there {
			readCode, listCode = 3, 3
		} else if want.dir {
			readCode, listCode = 4, 0
		}
		at, n := r.IntN(26), r.IntN(26)
		data, code := impl.TreeRead(x, path, at, n)
		if end := min(at+n, len(want.data)); code != readCode || data != want.data[min(at, end):end] {
			t.Errorf("read %v %d %d: %q %d", path, at, n, data, code)
		}
		list, code := impl.TreeList(x, path)
		if code != listCode || !slices.Equal(list, m.below(p)) {
			t.Errorf("list %v: %v %d", path, list, code)
		}
	}
}

func TestMadeUpTrees(t *testing.T) {
	r := newMaker(1)
	full := 0
	for i := range 400 {
		m := r.model(i % 31)
		x := m.tree("")
		shown := impl.TreeShow(x)
		y, ok := impl.TreeParse(shown)
		if !impl.TreeOk(x) || impl.TreeCount(x) != len(m)-1 || shown != m.show() || !ok || !same(x, y) {
			t.Fatalf("%d: %q, not %q", i, shown, m.show())
		}
		if len(m) == 31 {
			full++
		}
		checkAsked(t, r, y, m)
	}
	if full == 0 {
		t.Error("no tree was full")
	}
}

// checkElsewhere asks that a call changed nothing at paths that it does not name.
func checkElsewhere(t *testing.T, before, after model, c impl.Call) {
	t.Helper()
	named := func(p string) bool {
		return atOrBelow(p, text(c.Path)) || c.Kind == rename && atOrBelow(p, text(c.To))
	}
	for p, x := range before {
		if y, there := after[p]; !named(p) && (!there || x != y) {
			t.Errorf("%+v changed %s", c, p)
		}
	}
	for p := range after {
		if _, there := before[p]; !named(p) && !there {
			t.Errorf("%+v made %s", c, p)
		}
	}
}

// checkWent asks for what a call that was done says of what it names.
func checkWent(t *testing.T, before, after impl.Tree, c impl.Call) {
	t.Helper()
	old, was := impl.TreeAt(before, c.Path)
	now, is := impl.TreeAt(after, c.Path)
	list, _ := impl.TreeList(after, c.Path[:len(c.Path)-1])
	listed := slices.Contains(list, c.Path[len(c.Path)-1])
	ok := listed == is
	switch c.Kind {
	case mkdir:
		ok = ok && is && same(now, dir(c.At))
	case write:
		data, code := impl.TreeRead(after, c.Path, c.At, len(c.Data))
		ok = ok && is && now.Mode == old.Mode && code == 0 && data == c.Data && len(now.Data) == max(len(old.Data), c.At+len(c.Data))
	case truncate:
		ok = ok && is && now.Mode == old.Mode && len(now.Data) == c.At && strings.HasPrefix(now.Data, old.Data[:min(c.At, len(old.Data))])
	case remove:
		ok = ok && was && !is
	case chmod:
		old.Mode = c.At
		ok = ok && same(now, old)
	case rename:
		there, moved := impl.TreeAt(after, c.To)
		ok = ok && !is && moved && same(there, old)
	}
	if !ok {
		t.Errorf("%+v: from %v to %v", c, old, now)
	}
}

func TestMadeUpCalls(t *testing.T) {
	r := newMaker(2)
	seen := map[[2]int]int{}
	for i := range 300 {
		m := r.model(i % 31)
		x := m.tree("")
		for range 60 {
			c := r.call(m)
			want, code := m.do(c)
			y, got := impl.TreeDo(x, c)
			if got != code || !impl.TreeOk(y) || !same(y, want.tree("")) {
				t.Fatalf("%+v of %q: code %d, not %d, and %q, not %q", c, m.show(), got, code, impl.TreeShow(y), want.show())
			}
			seen[[2]int{c.Kind, code}]++
			checkElsewhere(t, m, modelOf(y), c)
			if code == 0 {
				checkWent(t, x, y, c)
			}
			m, x = want, y
		}
		checkAsked(t, r, x, m)
	}
	for kind, codes := range map[int][]int{mkdir: {0, 3, 4, 5, 6}, write: {0, 3, 4, 6}, truncate: {0, 3, 4}, remove: {0, 3, 4, 5}, rename: {0, 3, 4, 5, 6, 7}, chmod: {0, 3, 4}} {
		for _, code := range codes {
			if seen[[2]int{kind, code}] == 0 {
				t.Errorf("kind %d never had the code %d", kind, code)
			}
		}
	}
}
