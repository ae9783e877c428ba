package tests

import (
	"fmt"
	"maps"
	"math"
	"slices"
	"strings"
	"testing"

	"loop.example/changetrail/impl"
)

// roll is nodes told in another way than the program does: the id of each path by its text.
type roll struct {
	next int
	ids  map[string]int
}

// rollOf is the ids that a model has at the beginning.
func rollOf(m model) roll {
	k := roll{1, map[string]int{}}
	for _, p := range slices.Sorted(maps.Keys(m)) {
		if p != "" {
			k.ids[p] = k.next
			k.next++
		}
	}
	return k
}

// nodes is a roll as the program has it. A slash is ahead of all that a name has, so that texts of paths are in the order of paths.
func (k roll) nodes() impl.Nodes {
	n := impl.Nodes{Next: k.next}
	for _, p := range slices.Sorted(maps.Keys(k.ids)) {
		n.List = append(n.List, impl.NodeOf{Id: k.ids[p], Path: names(p)})
	}
	return n
}

func (k roll) write() string {
	out := fmt.Sprintf("next %d\n", k.next)
	for _, p := range slices.Sorted(maps.Keys(k.ids)) {
		out += fmt.Sprintf("%d %s\n", k.ids[p], p)
	}
	return out
}

// do is a roll behind a call, and the code; m is the model ahead of it.
func (k roll) do(m model, c impl.Call) (roll, int) {
	if !isPlainCall(c) {
		return k, 2
	}
	_, code := m.do(c)
	if code != 0 {
		return k, code
	}
	next := roll{k.next, map[string]int{}}
	path := text(c.Path)
	for p, id := range k.ids {
		if c.Kind == rename && atOrBelow(p, path) {
			p = text(c.To) + p[len(path):]
		}
		next.ids[p] = id
	}
	_, there := k.ids[path]
	switch {
	case c.Kind == remove:
		delete(next.ids, path)
	case c.Kind != rename && !there && k.next > 9999:
		return k, 6
	case c.Kind != rename && !there:
		next.ids[path] = k.next
		next.next++
	}
	return next, 0
}

// isPlainCall asks for what a call needs, by its kind.
func isPlainCall(c impl.Call) bool {
	most := map[int]int{mkdir: 7, chmod: 7, write: 24, truncate: 24}
	last, needs := most[c.Kind]
	return c.Kind >= mkdir && c.Kind <= chmod && isPlainPath(c.Path) && (c.Kind != rename || isPlainPath(c.To)) && (!needs || c.At >= 0 && c.At <= last)
}

func sameNodes(a, b impl.Nodes) bool {
	return a.Next == b.Next && slices.EqualFunc(a.List, b.List, func(x, y impl.NodeOf) bool {
		return x.Id == y.Id && slices.Equal(x.Path, y.Path)
	})
}

func noNodes(n impl.Nodes) bool {
	return sameNodes(n, impl.Nodes{})
}

// nodesOf makes nodes of a text that is written in one line: "5: 1 /a, 2 /a/b".
func nodesOf(words string) impl.Nodes {
	var n impl.Nodes
	head, rest, _ := strings.Cut(words, ":")
	fmt.Sscan(head, &n.Next)
	for part := range strings.SplitSeq(rest, ",") {
		var id int
		var path string
		if count, _ := fmt.Sscan(part, &id, &path); count == 2 {
			n.List = append(n.List, impl.NodeOf{Id: id, Path: names(path)})
		}
	}
	return n
}

// treeWith is a tree that has just these paths, directories all.
func treeWith(n impl.Nodes) impl.Tree {
	m := model{"": {dir: true}}
	for _, x := range n.List {
		m[text(x.Path)] = thing{dir: true}
	}
	return m.tree("")
}

// checkNodes asks for nodes that are just those of a roll, and for all that can be asked of them.
func checkNodes(t *testing.T, what string, n impl.Nodes, k roll) {
	t.Helper()
	if !sameNodes(n, k.nodes()) {
		t.Errorf("%s: %v, not %v", what, n, k.nodes())
	}
	ids := map[int]string{}
	for p, id := range k.ids {
		ids[id] = p
		if got := impl.NodesId(n, names(p)); got != id {
			t.Errorf("%s: the id of %s is %d, not %d", what, p, got, id)
		}
	}
	for _, id := range []int{-1, 0, 1, 2, 3, k.next - 1, k.next, k.next + 1, math.MaxInt, math.MinInt} {
		ids[id] += ""
	}
	for id, p := range ids {
		path, ok := impl.NodesPath(n, id)
		if ok != (p != "") || text(path) != p {
			t.Errorf("%s: %d is at %v %v, not %s", what, id, ok, path, p)
		}
	}
	for _, path := range noPaths() {
		want := 0
		if isPlainPath(path) {
			want = k.ids[text(path)]
		}
		if id := impl.NodesId(n, path); id != want {
			t.Errorf("%s: the id of %q is %d, not %d", what, path, id, want)
		}
	}
	written := impl.NodesWrite(n)
	read, ok := impl.NodesRead(written)
	if written != k.write() || !ok || !sameNodes(read, n) {
		t.Errorf("%s: written %q, not %q, and read %v %v", what, written, k.write(), ok, read)
	}
}

// noPaths is paths that are none, most of which read like some that are there.
func noPaths() [][]string {
	return [][]string{nil, {}, {""}, {"a", ""}, {"", "a"}, {"a/b"}, {"/a"}, {"a", "b", ""}, {"a", "", "b"}, {"d/d/d/d"}, {"d/d", "d/d"}, {"d", "d", "d", "d", "d"}, {"A"}, {"n"}, {"abcdef"}, {"\x00"}, make([]string, 1000)}
}

func isPlainPath(path []string) bool {
	for _, name := range path {
		if plainName.FindString(name) == "" {
			return false
		}
	}
	return len(path) >= 1 && len(path) <= 4
}

func TestExampleNodes(t *testing.T) {
	x := example()
	n := impl.NodesStart(x)
	checkNodes(t, "the example", n, rollOf(modelOf(x)))
	if !sameNodes(n, nodesOf("6: 1 /a, 2 /a/b, 3 /c, 4 /d, 5 /d/e")) || !impl.NodesOk(n, x) {
		t.Errorf("%v", n)
	}
	if impl.NodesMaxId != 9999 {
		t.Error("the limit is not the document's")
	}
}

func TestNodesOfOkTrees(t *testing.T) {
	for what, x := range okTrees() {
		n := impl.NodesStart(x)
		checkNodes(t, what, n, rollOf(modelOf(x)))
		if !impl.NodesOk(n, x) || n.Next != impl.TreeCount(x)+1 {
			t.Errorf("%s: %v", what, n)
		}
	}
}

func TestNodesOfBadTrees(t *testing.T) {
	for what, x := range badTrees() {
		if n := impl.NodesStart(x); !noNodes(n) {
			t.Errorf("%s: %v", what, n)
		}
		for _, n := range []impl.Nodes{{}, {Next: 1}, nodesOf("3: 1 /a, 2 /d"), nodesOf("3: 1 /d, 2 /d/x"), impl.NodesStart(wide(30))} {
			if impl.NodesOk(n, x) {
				t.Errorf("%s: %v are its nodes", what, n)
			}
			for _, c := range []impl.Call{{}, call(mkdir, "/n", 0), call(remove, "/a", 0), renaming("/a", "/n")} {
				if m, code := impl.NodesDo(n, x, c); code != 1 || !noNodes(m) {
					t.Errorf("%s: code %d, %v", what, code, m)
				}
			}
		}
	}
}

// wellNodes is nodes that meet a limit just so, or that are well in a way that is easily missed.
func wellNodes() map[string]impl.Nodes {
	most := impl.NodesStart(wide(30))
	return map[string]impl.Nodes{
		"none":                   nodesOf("1:"),
		"none, ids gone":         nodesOf("5:"),
		"none, not nil":          {Next: 1, List: []impl.NodeOf{}},
		"none, greatest next":    nodesOf("10000:"),
		"greatest id":            nodesOf("10000: 9999 /a"),
		"greatest and least id":  nodesOf("10000: 9999 /a, 1 /b"),
		"ids not in order":       nodesOf("7: 6 /a, 2 /a/b, 4 /c"),
		"longest path":           nodesOf("5: 1 /d, 2 /d/d, 3 /d/d/d, 4 /d/d/d/d"),
		"longest names":          nodesOf("3: 1 /aaaaa, 2 /zzzzz"),
		"beginning first":        nodesOf("6: 1 /a, 2 /a/z, 3 /a/z/a, 4 /a0, 5 /aa"),
		"most":                   most,
		"most, with others gone": {Next: 10000, List: most.List},
	}
}

func TestWellNodes(t *testing.T) {
	for what, n := range wellNodes() {
		k := roll{n.Next, map[string]int{}}
		for _, x := range n.List {
			k.ids[text(x.Path)] = x.Id
		}
		checkNodes(t, what, n, k)
		if !impl.NodesOk(n, treeWith(n)) {
			t.Errorf("%s: not the nodes of their tree", what)
		}
	}
	// Well, though no tree has them: what is not there is asked of a tree alone.
	for _, words := range []string{"3: 1 /a/b, 2 /c", "5: 4 /a/b/c/d"} {
		n := nodesOf(words)
		read, ok := impl.NodesRead(impl.NodesWrite(n))
		if !ok || !sameNodes(read, n) || impl.NodesId(n, n.List[0].Path) != n.List[0].Id || impl.NodesOk(n, example()) {
			t.Errorf("%s: %v %v", words, ok, read)
		}
	}
}

// illNodes is nodes that are not well, for each reason, and but for that of the tree beside them.
func illNodes() map[string]impl.Nodes {
	out := map[string]impl.Nodes{
		"nothing":                    {},
		"next 0":                     nodesOf("0:"),
		"next below 0":               nodesOf("-1:"),
		"least next":                 {Next: math.MinInt},
		"next too great":             nodesOf("10001:"),
		"next far too great":         {Next: math.MaxInt},
		"next too great, ids":        nodesOf("10001: 1 /a, 2 /a/b, 3 /c, 4 /d, 5 /d/e"),
		"id too great":               nodesOf("10001: 10000 /a"),
		"id next":                    nodesOf("5: 1 /a, 2 /a/b, 3 /c, 4 /d, 5 /d/e"),
		"id behind next":             nodesOf("6: 1 /a, 2 /a/b, 3 /c, 4 /d, 7 /d/e"),
		"id 0":                       nodesOf("6: 0 /a, 2 /a/b, 3 /c, 4 /d, 5 /d/e"),
		"id below 0":                 nodesOf("6: -1 /a, 2 /a/b, 3 /c, 4 /d, 5 /d/e"),
		"id twice":                   nodesOf("6: 1 /a, 2 /a/b, 3 /c, 4 /d, 1 /d/e"),
		"id twice, side by side":     nodesOf("6: 1 /a, 1 /a/b, 3 /c, 4 /d, 5 /d/e"),
		"not in order":               nodesOf("6: 1 /a, 2 /a/b, 4 /d, 3 /c, 5 /d/e"),
		"below ahead":                nodesOf("6: 2 /a/b, 1 /a, 3 /c, 4 /d, 5 /d/e"),
		"path twice":                 nodesOf("6: 1 /a, 2 /a/b, 3 /c, 4 /c, 5 /d"),
		"path twice, far":            nodesOf("6: 1 /a, 2 /a/b, 3 /c, 4 /d, 5 /a"),
		"the root's path":            {Next: 2, List: []impl.NodeOf{{Id: 1}}},
		"the root's path ahead":      {Next: 3, List: []impl.NodeOf{{Id: 1}, {Id: 2, Path: names("/a")}}},
		"path too long":              nodesOf("6: 1 /d, 2 /d/d, 3 /d/d/d, 4 /d/d/d/d, 5 /d/d/d/d/d"),
		"path far too long":          {Next: 2, List: []impl.NodeOf{{Id: 1, Path: slices.Repeat([]string{"a"}, 100000)}}},
		"name too long":              nodesOf("2: 1 /abcdef"),
		"name of another kind":       nodesOf("2: 1 /A"),
		"name empty":                 {Next: 2, List: []impl.NodeOf{{Id: 1, Path: []string{""}}}},
		"last name empty":            {Next: 3, List: []impl.NodeOf{{Id: 1, Path: names("/a")}, {Id: 2, Path: []string{"a", ""}}}},
		"name with a slash":          {Next: 3, List: []impl.NodeOf{{Id: 1, Path: names("/a")}, {Id: 2, Path: []string{"a/b"}}}},
		"name with a space":          {Next: 2, List: []impl.NodeOf{{Id: 1, Path: []string{"a b"}}}},
		"names where there are none": {Next: 2, List: []impl.NodeOf{{Id: 1, Path: make([]string, 4)}}},
	}
	n := impl.NodesStart(wide(30))
	n.List = append(n.List, impl.NodeOf{Id: 31, Path: names("/z")})
	n.Next = 32
	out["one too many"] = n
	out["far too many"] = impl.Nodes{Next: 100, List: slices.Repeat(n.List, 10000)}
	return out
}

func TestIllNodes(t *testing.T) {
	for what, n := range illNodes() {
		if text := impl.NodesWrite(n); text != "" {
			t.Errorf("%s: written %q", what, text)
		}
		for _, x := range []impl.Tree{example(), dir(0), wide(30), treeWith(nodesOf("3: 1 /a, 2 /a/b")), treeWith(nodesOf("6: 1 /a"))} {
			if impl.NodesOk(n, x) {
				t.Errorf("%s: nodes of %q", what, impl.TreeShow(x))
			}
			for _, c := range append(noCalls(), call(mkdir, "/n", 0), call(chmod, "/a", 0), renaming("/a", "/n")) {
				if m, code := impl.NodesDo(n, x, c); code != 1 || !noNodes(m) {
					t.Errorf("%s: %+v: code %d, %v", what, c, code, m)
				}
			}
		}
		for id := range 34 {
			if path, ok := impl.NodesPath(n, id-1); ok || len(path) != 0 {
				t.Errorf("%s: %d is at %v", what, id-1, path)
			}
		}
		for _, x := range n.List[:min(len(n.List), 40)] {
			if id := impl.NodesId(n, x.Path); id != 0 {
				t.Errorf("%s: %v has the id %d", what, x.Path, id)
			}
		}
	}
}

// Nodes that are well, but of another tree.
func TestNodesOfOtherTrees(t *testing.T) {
	x := example()
	for _, words := range []string{
		"1:", "6:", "6: 1 /a, 2 /a/b, 3 /c, 4 /d", "6: 2 /a/b, 3 /c, 4 /d, 5 /d/e", "7: 1 /a, 2 /a/b, 3 /c, 4 /d, 5 /d/e, 6 /e", "7: 1 /a, 6 /a/a, 2 /a/b, 3 /c, 4 /d, 5 /d/e",
		"6: 1 /a, 2 /a/c, 3 /c, 4 /d, 5 /d/e", "6: 1 /a, 2 /b, 3 /c, 4 /d, 5 /d/e", "6: 1 /a, 2 /a/b, 3 /c, 4 /c/e, 5 /d",
	} {
		n := nodesOf(words)
		if impl.NodesWrite(n) == "" || impl.NodesOk(n, x) {
			t.Errorf("%s are its nodes", words)
		}
		for _, c := range append(noCalls(), call(mkdir, "/n", 0), call(chmod, "/c", 1)) {
			if m, code := impl.NodesDo(n, x, c); code != 1 || !noNodes(m) {
				t.Errorf("%s: %+v: code %d, %v", words, c, code, m)
			}
		}
	}
	if !impl.NodesOk(nodesOf("9999: 9 /a, 8 /a/b, 7 /c, 1 /d, 9998 /d/e"), x) {
		t.Error("other ids are not its nodes")
	}
	if n := impl.NodesStart(dir(0)); impl.NodesOk(n, x) || !impl.NodesOk(n, dir(7)) || !impl.NodesOk(nodesOf("9:"), dir(0)) {
		t.Error("nodes of a root alone")
	}
}

func TestNodesBehindCalls(t *testing.T) {
	start := "9: 8 /a, 2 /a/b, 3 /c, 7 /d, 5 /d/e"
	for _, k := range []struct {
		c    impl.Call
		want string
	}{
		{call(mkdir, "/n", 0), "10: 8 /a, 2 /a/b, 3 /c, 7 /d, 5 /d/e, 9 /n"},
		{call(mkdir, "/a/a", 0), "10: 8 /a, 9 /a/a, 2 /a/b, 3 /c, 7 /d, 5 /d/e"},
		{writing("/b", 0, "x"), "10: 8 /a, 2 /a/b, 9 /b, 3 /c, 7 /d, 5 /d/e"},
		{writing("/a0", 0, ""), "10: 8 /a, 2 /a/b, 9 /a0, 3 /c, 7 /d, 5 /d/e"},
		{writing("/c", 0, "x"), start},
		{writing("/a/b", 9, ""), start},
		{call(truncate, "/c", 0), start},
		{call(chmod, "/a", 0), start},
		{call(chmod, "/d/e", 7), start},
		{call(remove, "/c", 0), "9: 8 /a, 2 /a/b, 7 /d, 5 /d/e"},
		{call(remove, "/a/b", 0), "9: 8 /a, 3 /c, 7 /d, 5 /d/e"},
		{renaming("/c", "/a/a"), "9: 8 /a, 3 /a/a, 2 /a/b, 7 /d, 5 /d/e"},
		{renaming("/c", "/z"), "9: 8 /a, 2 /a/b, 7 /d, 5 /d/e, 3 /z"},
		{renaming("/a", "/z"), "9: 3 /c, 7 /d, 5 /d/e, 8 /z, 2 /z/b"},
		{renaming("/a", "/d/a"), "9: 3 /c, 7 /d, 8 /d/a, 2 /d/a/b, 5 /d/e"},
		{renaming("/d", "/a/0"), "9: 8 /a, 7 /a/0, 5 /a/0/e, 2 /a/b, 3 /c"},
		{renaming("/d/e", "/e"), "9: 8 /a, 2 /a/b, 3 /c, 7 /d, 5 /e"},
		{impl.Call{Kind: remove, Path: names("/c"), To: names("/a"), At: 99}, "9: 8 /a, 2 /a/b, 7 /d, 5 /d/e"},
		{impl.Call{Kind: chmod, Path: names("/c"), To: names("/n")}, start},
	} {
		n, code := impl.NodesDo(nodesOf(start), example(), k.c)
		if code != 0 || !sameNodes(n, nodesOf(k.want)) {
			t.Errorf("%+v: code %d, %v, not %s", k.c, code, n, k.want)
		}
	}
}

func TestNodesOfRefusedCalls(t *testing.T) {
	for _, words := range []string{"9: 8 /a, 2 /a/b, 3 /c, 7 /d, 5 /d/e", "10000: 8 /a, 2 /a/b, 3 /c, 7 /d, 5 /d/e"} {
		for _, k := range refusedCalls() {
			n, code := impl.NodesDo(nodesOf(words), example(), k.c)
			if code != k.code || !sameNodes(n, nodesOf(words)) {
				t.Errorf("%s: code %d, not %d: %v", k.what, code, k.code, n)
			}
		}
		for _, c := range noCalls() {
			n, code := impl.NodesDo(nodesOf(words), example(), c)
			if code != 2 || !sameNodes(n, nodesOf(words)) {
				t.Errorf("%+v: code %d: %v", c, code, n)
			}
		}
	}
	full := impl.NodesStart(wide(30))
	if n, code := impl.NodesDo(full, wide(30), call(mkdir, "/n", 0)); code != 6 || !sameNodes(n, impl.NodesStart(wide(30))) {
		t.Errorf("one too many: code %d, %v", code, n)
	}
}

// follow does a call in a tree and with its nodes, and asks for both.
func follow(t *testing.T, what string, n impl.Nodes, x impl.Tree, c impl.Call, want int) (impl.Nodes, impl.Tree) {
	t.Helper()
	k, code := rollFrom(n).do(modelOf(x), c)
	if code != want {
		t.Fatalf("%s: the model has the code %d, not %d", what, code, want)
	}
	m, code := impl.NodesDo(n, x, c)
	if code != want {
		t.Errorf("%s: %+v: code %d, not %d", what, c, code, want)
	}
	checkNodes(t, what, m, k)
	y, done := impl.TreeDo(x, c)
	if want != 0 {
		y = x
	} else if done != 0 {
		t.Errorf("%s: TreeDo has the code %d", what, done)
	}
	if !impl.NodesOk(m, y) {
		t.Errorf("%s: %+v: %v are not the nodes behind it", what, c, m)
	}
	return m, y
}

func rollFrom(n impl.Nodes) roll {
	k := roll{n.Next, map[string]int{}}
	for _, x := range n.List {
		k.ids[text(x.Path)] = x.Id
	}
	return k
}

// The last id can be given; then nothing new is, but all else goes on.
func TestLastId(t *testing.T) {
	n, x := impl.NodesStart(example()), example()
	n.Next = 9999
	n, x = follow(t, "the last id", n, x, writing("/n", 0, "x"), 0)
	if impl.NodesId(n, names("/n")) != 9999 || n.Next != 10000 {
		t.Errorf("%v", n)
	}
	follow(t, "one more", n, x, writing("/m", 0, ""), 6)
	follow(t, "one more", n, x, call(mkdir, "/m", 0), 6)
	follow(t, "one more, no call", n, x, call(mkdir, "/m", 8), 2)
	follow(t, "one more, no parent", n, x, call(mkdir, "/x/m", 0), 3)
	follow(t, "one more, there already", n, x, call(mkdir, "/n", 0), 5)
	follow(t, "one more, too long", n, x, writing("/m", 20, "12345"), 6)
	n, x = follow(t, "an old file", n, x, writing("/n", 1, "y"), 0)
	n, x = follow(t, "moved", n, x, renaming("/n", "/a/n"), 0)
	n, x = follow(t, "another mode", n, x, call(chmod, "/a/n", 1), 0)
	n, x = follow(t, "gone", n, x, call(remove, "/a/n", 0), 0)
	n, x = follow(t, "never again", n, x, writing("/a/n", 0, ""), 6)
	if n.Next != 10000 {
		t.Errorf("%v %v", n, x)
	}
}

// What is made anew at a path has a greater id, and what was there keeps its own, wherever it went.
func TestIdsAreGivenOnce(t *testing.T) {
	n, x := impl.NodesStart(example()), example()
	n, x = follow(t, "away", n, x, renaming("/a", "/z"), 0)
	n, x = follow(t, "anew", n, x, call(mkdir, "/a", 0), 0)
	n, x = follow(t, "anew below", n, x, writing("/a/b", 0, "x"), 0)
	n, x = follow(t, "gone", n, x, call(remove, "/z/b", 0), 0)
	n, x = follow(t, "anew where it went", n, x, call(mkdir, "/z/b", 0), 0)
	n, x = follow(t, "the last one gone", n, x, call(remove, "/z/b", 0), 0)
	n, x = follow(t, "and made once more", n, x, writing("/z/b", 0, ""), 0)
	n, x = follow(t, "gone", n, x, call(remove, "/a/b", 0), 0)
	n, x = follow(t, "and the other one in its place", n, x, renaming("/z/b", "/a/b"), 0)
	if !sameNodes(n, nodesOf("10: 6 /a, 9 /a/b, 3 /c, 4 /d, 5 /d/e, 1 /z")) {
		t.Errorf("%v of %q", n, impl.TreeShow(x))
	}
	if path, ok := impl.NodesPath(n, 2); ok || len(path) != 0 {
		t.Errorf("what is gone is at %v", path)
	}
}

func TestAtTheEdges(t *testing.T) {
	n, x := follow(t, "a root alone", impl.NodesStart(dir(0)), dir(0), writing("/a", 0, ""), 0)
	n, x = follow(t, "a root alone again", n, x, call(remove, "/a", 0), 0)
	follow(t, "nothing there", n, x, call(remove, "/a", 0), 3)
	n, x = follow(t, "the 30th", impl.NodesStart(wide(29)), wide(29), call(mkdir, "/a", 0), 0)
	n, x = follow(t, "the 31st", n, x, call(mkdir, "/b", 0), 6)
	n, x = follow(t, "into the 30th", n, x, renaming("/f00", "/a/x"), 0)
	n, x = follow(t, "all that is below", n, x, renaming("/a", "/zz"), 0)
	long := deep(2, named{"f", dir(0)})
	n, x = follow(t, "the longest path", impl.NodesStart(long), long, writing("/d/d/f/x", 0, ""), 0)
	follow(t, "too long", n, x, call(mkdir, "/d/d/f/x/y", 0), 2)
	n, x = follow(t, "up", n, x, renaming("/d/d", "/e"), 0)
	n, x = follow(t, "too deep", n, x, call(mkdir, "/d/d", 0), 0)
	n, x = follow(t, "deep", n, x, call(mkdir, "/d/d/d", 0), 0)
	follow(t, "too deep", n, x, renaming("/e", "/d/d/d/d"), 6)
	follow(t, "down again", n, x, renaming("/e", "/d/e"), 0)
}

// checkNodesRead asks that a text is nodes that are written so, or refused.
func checkNodesRead(t *testing.T, text string, want bool) {
	t.Helper()
	n, ok := impl.NodesRead(text)
	if ok != want || !ok && !noNodes(n) || ok && impl.NodesWrite(n) != text {
		t.Errorf("%.100q: %v, not %v: %.200v", text, ok, want, n)
	}
}

func TestNodeTextsRefused(t *testing.T) {
	most := impl.NodesWrite(impl.NodesStart(wide(30)))
	for _, text := range []string{"next 1\n", "next 10000\n", "next 2\n1 /a\n", "next 10000\n9999 /a\n", "next 3\n2 /a\n1 /a/b\n", "next 9\n1 /a/b/c/d\n", most, "next 5\n4 /zzzzz\n"} {
		checkNodesRead(t, text, true)
	}
	for _, text := range []string{
		"", "\n", "next", "next\n", "next \n", "next 1", "next 1\n\n", "\nnext 1\n", " next 1\n", "next  1\n", "next 1 \n", "next 1\r\n", "Next 1\n", "next1\n", "1\n", "1 /a\n", "end\n", "next 1 1\n", "next /a\n",
		"next 0\n", "next -1\n", "next -0\n", "next 01\n", "next 00001\n", "next +1\n", "next 10001\n", "next 99999999999999999999\n", "next 1.0\n", "next 0x1\n", "next 1_0\n", "next x\n",
		"next 2\n1 /a", "next 2\n1 /a\n\n", "next 2\n\n1 /a\n", "next 2\n1  /a\n", "next 2\n1 /a \n", "next 2\n 1 /a\n", "next 2\n1 /a 1\n", "next 2\n1\t/a\n", "next 2\n1\n/a\n", "next 2\n1 \n", "next 2\n1\n", "next 2\n/a\n", "next 2\n/a 1\n", "next 2\n1 /a\nx",
		"next 2\n01 /a\n", "next 2\n+1 /a\n", "next 2\n0 /a\n", "next 2\n-1 /a\n", "next 2\n2 /a\n", "next 2\n3 /a\n", "next 2\nx /a\n", "next 10001\n10000 /a\n", "next 2\n99999999999999999999 /a\n",
		"next 2\n1 /\n", "next 2\n1 a\n", "next 2\n1 //a\n", "next 2\n1 /a/\n", "next 2\n1 /A\n", "next 2\n1 /abcdef\n", "next 2\n1 /a/b/c/d/e\n", "next 2\n1 /a//b\n", "next 2\n1 /\xff\n", "next 2\n1 /" + strings.Repeat("a/", 100000) + "\n",
		"next 3\n1 /b\n2 /a\n", "next 3\n1 /a\n2 /a\n", "next 3\n1 /a\n1 /b\n", "next 3\n1 /a/b\n2 /a\n", "next 3\n1 /a0\n2 /a\n", "next 3\n1 /aa\n2 /a/z\n", "next 2\nnext 2\n", "next 2\n1 /a\nend\n", "next 2\n1 /a\nnext 2\n",
		strings.Replace(most, "next 31", "next 32", 1) + "31 /z\n", "next 9999\n" + strings.Repeat("1 /a\n", 100000), strings.Repeat("next 1\n", 100000), "next " + strings.Repeat("1", 100000) + "\n", "next 2\n" + strings.Repeat(" ", 100000) + "\n",
	} {
		checkNodesRead(t, text, false)
	}
}

// A text that was changed anywhere is refused, or is just what is written of the nodes that it tells.
func TestNodeTextsTampered(t *testing.T) {
	taken := 0
	check := func(text string) {
		n, ok := impl.NodesRead(text)
		if ok {
			taken++
		}
		if ok && (impl.NodesWrite(n) != text || rollFrom(n).write() != text) || !ok && !noNodes(n) {
			t.Errorf("%q: %v %v", text, ok, n)
		}
	}
	whole := "next 12\n11 /a\n3 /a/b\n10 /a0\n2 /b/c/d/e\n"
	tamper(whole, check)
	lines := strings.SplitAfter(whole, "\n")
	for i := range lines {
		for j := range lines {
			swapped := slices.Clone(lines)
			swapped[i], swapped[j] = swapped[j], swapped[i]
			check(strings.Join(swapped, ""))
		}
	}
	if taken < 100 {
		t.Errorf("%d taken", taken)
	}
}

func TestMadeUpNodes(t *testing.T) {
	r := newMaker(24)
	codes, last := map[int]int{}, 0
	for i := range 200 {
		m := r.model(i % 31)
		x := m.tree("")
		n := impl.NodesStart(x)
		checkNodes(t, "made up, at first", n, rollOf(m))
		if i%4 == 0 {
			n.Next = 9990 + r.IntN(11)
		}
		for range 30 {
			c := r.touching(m, i%2 == 0)
			k, code := rollFrom(n).do(m, c)
			if n.Next == 10000 && code == 6 {
				last++
			}
			before, next := n, k.next
			n, x = follow(t, "made up", n, x, c, code)
			if code == 0 {
				m, _ = m.do(c)
			}
			checkNewIds(t, before, n, next)
			if !same(x, m.tree("")) {
				t.Errorf("%+v: %q, not %q", c, impl.TreeShow(x), m.show())
			}
			if t.Failed() {
				return
			}
			codes[code]++
		}
	}
	if len(codes) != 6 || last < 50 {
		t.Errorf("codes %v, %d ahead of the last id", codes, last)
	}
}

// checkNewIds asks that an id that was not there is not below what Next was, and that Next never falls.
func checkNewIds(t *testing.T, before, after impl.Nodes, next int) {
	t.Helper()
	had := map[int]bool{}
	for _, x := range before.List {
		had[x.Id] = true
	}
	for _, x := range after.List {
		if !had[x.Id] && x.Id < before.Next {
			t.Errorf("the id %d came back", x.Id)
		}
	}
	if after.Next < before.Next || after.Next != next {
		t.Errorf("next is %d, and was %d", after.Next, before.Next)
	}
}
