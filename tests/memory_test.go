package tests

import (
	"fmt"
	"slices"
	"testing"

	"loop.example/changetrail/impl"
)

// roomy is a tree whose lists have spare room, in which something stands.
func roomy(t impl.Tree) impl.Tree {
	names := append(append([]string(nil), t.Names...), "spare")
	kids := []impl.Tree{}
	for _, kid := range t.Kids {
		kids = append(kids, roomy(kid))
	}
	kids = append(kids, impl.Tree{Data: "spare"})
	t.Names, t.Kids = names[:len(names)-1], kids[:len(kids)-1]
	return t
}

func spareStands(t impl.Tree) bool {
	n := len(t.Names)
	if t.Names[:n+1][n] != "spare" || t.Kids[:n+1][n].Data != "spare" {
		return false
	}
	for _, kid := range t.Kids {
		if !spareStands(kid) {
			return false
		}
	}
	return true
}

// listsOf is all lists of a tree, each with its spare room.
func listsOf(t impl.Tree) ([][]string, [][]impl.Tree) {
	names, kids := [][]string{t.Names[:cap(t.Names)]}, [][]impl.Tree{t.Kids[:cap(t.Kids)]}
	for _, kid := range t.Kids {
		n, k := listsOf(kid)
		names, kids = append(names, n...), append(kids, k...)
	}
	return names, kids
}

// scribble writes over all that an answer holds; false, if two of its lists are one memory.
func scribble(names [][]string, kids [][]impl.Tree) bool {
	for i := range names {
		for j := range names[i] {
			names[i][j] = fmt.Sprint("list ", i)
		}
	}
	for i := range kids {
		for j := range kids[i] {
			kids[i][j] = impl.Tree{Mode: 100 + i}
		}
	}
	for i := range names {
		for j := range names[i] {
			if names[i][j] != fmt.Sprint("list ", i) {
				return false
			}
		}
	}
	for i := range kids {
		for j := range kids[i] {
			if kids[i][j].Mode != 100+i {
				return false
			}
		}
	}
	return true
}

func TestAnswersAreNewMemory(t *testing.T) {
	calls := []impl.Call{
		call(mkdir, "/b", 1), call(mkdir, "/z", 1), writing("/a/b", 1, "x"), writing("/a/a", 1, "x"), call(truncate, "/c", 3),
		call(remove, "/c", 0), renaming("/a", "/d/a"), renaming("/c", "/z"), call(chmod, "/a", 2), call(chmod, "/n", 2), call(remove, "/a", 0), call(9, "/a", 0),
	}
	for _, c := range calls {
		x := roomy(example())
		y, code := impl.TreeDo(x, c)
		if !scribble(listsOf(y)) || !same(x, example()) || !spareStands(x) {
			t.Errorf("%+v, code %d: memory is shared", c, code)
		}
	}
	for _, path := range []string{"/", "/a", "/a/b", "/c"} {
		x := roomy(example())
		y, _ := impl.TreeAt(x, names(path))
		list, _ := impl.TreeList(x, names(path))
		if !scribble(listsOf(y)) || !scribble([][]string{list[:cap(list)]}, nil) || !same(x, example()) || !spareStands(x) {
			t.Errorf("%s: memory is shared", path)
		}
	}
	y, _ := impl.TreeParse(exampleText)
	if !scribble(listsOf(y)) {
		t.Error("memory is shared by what was read")
	}
}

func TestPathsStay(t *testing.T) {
	path := []string{"a", "b", "spare"}
	to := []string{"d", "x", "spare"}
	x := example()
	for kind := 0; kind <= 7; kind++ {
		impl.TreeDo(x, impl.Call{Kind: kind, Path: path[:2], To: to[:2], At: 1, Data: "x"})
		impl.TreeDo(x, impl.Call{Kind: kind, Path: path[:1], To: to[:2], At: 1, Data: "x"})
	}
	impl.TreeAt(x, path[:2])
	impl.TreeRead(x, path[:2], 0, 9)
	impl.TreeList(x, path[:1])
	if fmt.Sprint(path, to) != "[a b spare] [d x spare]" {
		t.Error(path, to)
	}
}

// pathsOf is all paths of entries, each with its spare room.
func pathsOf(list []impl.Entry) [][]string {
	var out [][]string
	for _, e := range list {
		out = append(out, e.Path[:cap(e.Path)])
	}
	return out
}

func TestLayersAreNewMemory(t *testing.T) {
	base, cur := roomy(example()), roomy(other())
	list := impl.DiffWalk(base, cur)
	if len(list) == 0 || !scribble(pathsOf(list), nil) || !same(base, example()) || !same(cur, other()) || !spareStands(base) || !spareStands(cur) {
		t.Error("memory is shared by what differs")
	}
	read, ok := impl.LayerRead(layerText)
	if !ok || !scribble(pathsOf(read), nil) {
		t.Error("memory is shared by what was read")
	}
	list, _ = impl.LayerRead(layerText)
	for i := range list {
		list[i].Path = append(list[i].Path, "spare")[:len(list[i].Path)]
	}
	list = append(list, gone("/spare"))[:len(list)]
	x, ok := impl.LayerApply(base, list)
	if !ok || !scribble(listsOf(x)) || !same(base, example()) || !spareStands(base) || impl.LayerWrite(list) != layerText || text(list[:len(list)+1][len(list)].Path) != "/spare" {
		t.Error("memory is shared by what was applied")
	}
	for _, path := range pathsOf(list) {
		if !slices.Contains(path, "spare") {
			t.Error("a path's spare room was written into")
		}
	}
	x, ok = impl.LayerApply(base, nil)
	if !ok || !scribble(listsOf(x)) || !same(base, example()) || !spareStands(base) {
		t.Error("memory is shared with nothing applied")
	}
}

// trailPaths is all paths of marks, each with its spare room.
func trailPaths(list []impl.Mark) [][]string {
	var out [][]string
	for _, m := range list {
		out = append(out, m.Path[:cap(m.Path)])
	}
	return out
}

// roomyMarks is marks that have spare room behind them and behind each path, in which something stands.
func roomyMarks(list []impl.Mark) []impl.Mark {
	var out []impl.Mark
	for _, m := range append(slices.Clone(list), impl.Mark{Path: names("/spare")}) {
		path := append(slices.Clone(m.Path), "spare")
		out = append(out, impl.Mark{Path: path[:len(m.Path)], Sub: m.Sub})
	}
	return out[:len(list)]
}

func marksStand(list, want []impl.Mark) bool {
	if !sameMarks(list, want) || text(list[:len(list)+1][len(list)].Path) != "/spare" {
		return false
	}
	for _, m := range list {
		if m.Path[:len(m.Path)+1][len(m.Path)] != "spare" {
			return false
		}
	}
	return true
}

func TestTrailsAreNewMemory(t *testing.T) {
	for _, words := range []string{"", "/a", "/a*", "/a /a/b /c/d/e* /d /e /f", "/a/a/a/a /a/a/a/b /b /c /d /e*"} {
		for _, word := range []string{"/a", "/a*", "/a/b/c", "/a/a/a*", "/z", "/*", "/A"} {
			list, m := roomyMarks(marks(words)), roomyMarks(marks(word))
			got := impl.TrailAdd(list, m[0])
			whole := scribble(trailPaths(got), nil)
			clear(got[:cap(got)])
			if !whole || !marksStand(list, marks(words)) || !marksStand(m, marks(word)) {
				t.Errorf("%s into %s: memory is shared", word, words)
			}
			impl.TrailOk(list)
			impl.TrailShow(list)
			if !marksStand(list, marks(words)) {
				t.Errorf("%s was written into", words)
			}
		}
		list, ok := impl.TrailRead(impl.TrailShow(marks(words)))
		if !ok || !scribble(trailPaths(list), nil) {
			t.Errorf("%s: memory is shared by what was read", words)
		}
	}
}

func TestCallMarksAreNewMemory(t *testing.T) {
	path, to := []string{"a", "b", "spare"}, []string{"d", "x", "spare"}
	x := roomy(example())
	for kind := 1; kind <= 6; kind++ {
		for _, end := range []int{1, 2} {
			c := impl.Call{Kind: kind, Path: path[:end], To: to[:2], At: 1}
			// One path twice, as the two marks of a rename must not share it.
			again := impl.Call{Kind: kind, Path: path[:end], To: path[:end], At: 1}
			if !scribble(trailPaths(impl.TrailOf(x, c)), nil) || !scribble(trailPaths(impl.TrailOf(x, again)), nil) {
				t.Errorf("%+v: memory is shared within the answer", c)
			}
		}
	}
	if fmt.Sprint(path, to) != "[a b spare] [d x spare]" || !same(x, example()) || !spareStands(x) {
		t.Error("memory is shared with the call or the tree", path, to)
	}
}

func TestLeadsAreNewMemory(t *testing.T) {
	for _, words := range []string{"", "/a", "/a /a/b /c /c/f* /d*", "/*", "/c* /d", "/a* /c /d/e", "/a/b /c/f/e /d/e*"} {
		base, cur, list := roomy(example()), roomy(other()), roomyMarks(marks(words))
		got, _ := impl.TrailDiff(base, cur, list)
		whole := scribble(pathsOf(got), nil)
		clear(got[:cap(got)])
		impl.TrailCovers(base, cur, list)
		impl.TrailBelow(base, cur, list)
		if !whole || !same(base, example()) || !same(cur, other()) || !spareStands(base) || !spareStands(cur) || !marksStand(list, marks(words)) {
			t.Errorf("%s: memory is shared", words)
		}
	}
}

func TestTouchesAreNewMemory(t *testing.T) {
	path, to := []string{"a", "b", "spare"}, []string{"d", "x", "spare"}
	for _, words := range []string{"", "/a", "/b", "/a* /d*", "/*", "/a /b /c /d /e /f", "/a/a /a/b/c /b /c /e /f"} {
		for kind := 0; kind <= 7; kind++ {
			for _, end := range []int{1, 2} {
				x, list := roomy(example()), roomyMarks(marks(words))
				y, got, _ := impl.TrailDo(x, list, impl.Call{Kind: kind, Path: path[:end], To: to[:2], At: 1, Data: "x"})
				names, kids := listsOf(y)
				whole := scribble(append(names, trailPaths(got)...), kids)
				clear(got[:cap(got)])
				if !whole || !same(x, example()) || !spareStands(x) || !marksStand(list, marks(words)) {
					t.Errorf("%s, kind %d: memory is shared", words, kind)
				}
			}
		}
	}
	if fmt.Sprint(path, to) != "[a b spare] [d x spare]" {
		t.Error("memory is shared with the call", path, to)
	}
}

func TestDisksAreNewMemory(t *testing.T) {
	writes := []impl.Raw{{At: 0, Data: "a"}, {At: -1, Data: "b"}, {At: 193, Data: "c"}, {At: 0, Data: ""}, {At: 5, Data: "spare"}}
	for _, count := range []int{0, 1, 4} {
		for _, cut := range []int{-1, 0, 1, 3, 4, 99} {
			room := append(used().Blocks, "spare")
			d, list := impl.Disk{Blocks: room[:impl.DiskBlocks]}, slices.Clone(writes)
			got := impl.DiskWrite(d, list[:count], cut)
			whole := impl.DiskOk(got) && impl.DiskOk(d)
			clear(got.Blocks[:cap(got.Blocks)])
			if !whole || !sameDisk(d, used()) || room[impl.DiskBlocks] != "spare" || !slices.Equal(list, writes) {
				t.Errorf("%d writes, cut %d: memory is shared", count, cut)
			}
		}
	}
}

func TestBadDisksStay(t *testing.T) {
	writes := []impl.Raw{{At: 0, Data: "a"}, {At: 7, Data: "b"}}
	for what, d := range badDisks() {
		was, list := slices.Clone(d.Blocks), slices.Clone(writes)
		got := impl.DiskWrite(d, list, 2)
		if cap(got.Blocks) != 0 || !slices.Equal(d.Blocks, was) || !slices.Equal(list, writes) {
			t.Errorf("%s: memory is shared", what)
		}
	}
}

// roomyStore is a store whose groups have spare room, in which something stands.
func roomyStore(s impl.Store) impl.Store {
	s.Groups = append(slices.Clone(s.Groups), "spare", "spare")[:len(s.Groups)]
	return s
}

func storeStands(s, want impl.Store) bool {
	n := len(s.Groups)
	return sameStore(s, want) && slices.Equal(s.Groups[n:n+2], []string{"spare", "spare"})
}

func TestStoresAreNewMemory(t *testing.T) {
	stores := append(someStores(), storeOf(5, "t", bytesOf(600), ""))
	for _, bad := range badStores() {
		stores = append(stores, bad)
	}
	for i, want := range stores {
		for _, size := range []int{0, 1, 100, 600, 601, 5761} {
			for _, save := range []bool{false, true} {
				s := roomyStore(want)
				list, next, _ := step(s, save, bytesOf(size))
				again, once, _ := step(s, save, bytesOf(size))
				kept := append([]impl.Raw(nil), again...)
				clear(list[:cap(list)])
				clear(next.Groups[:cap(next.Groups)])
				if !storeStands(s, want) || !slices.Equal(again, kept) || slices.Contains(once.Groups, "spare") {
					t.Errorf("store %d, save %v, %d bytes: memory is shared", i, save, size)
				}
			}
		}
	}
}

func TestOpenedStoresAreNewMemory(t *testing.T) {
	for i, want := range someStores() {
		room := append(diskOf(want).Blocks, "spare")
		d := impl.Disk{Blocks: room[:impl.DiskBlocks]}
		s, _ := impl.StoreOpen(d)
		clear(s.Groups[:cap(s.Groups)])
		again, ok := impl.StoreOpen(d)
		if !ok || !sameStore(again, want) || !sameDisk(d, diskOf(want)) || room[impl.DiskBlocks] != "spare" {
			t.Errorf("store %d: memory is shared", i)
		}
		list, _ := impl.StoreNew(want.Text)
		clear(list[:cap(list)])
		if again, ok := impl.StoreNew(want.Text); !ok || !slices.Equal(again, plainSave(1, want.Text)) {
			t.Errorf("text %d: memory is shared", i)
		}
	}
}

func TestPlaysAreNewMemory(t *testing.T) {
	plays := [][]impl.Step{
		nil, {adding("", -1)}, {adding("", 0)}, {adding("x", 1)}, {adding("x", 2)}, {adding(bytesOf(601), -1)}, {adding(bytesOf(601), 3)},
		{saving("text", -1)}, {saving("text", 0)}, {saving("text", 1)}, {saving("text", 2)}, {saving(bytesOf(5761), 2)}, {adding("x", -1), saving("text", 1), adding("", 0), adding("y", -1)},
	}
	stores := append(someStores(), impl.Store{Gen: 100000})
	for i, store := range stores {
		for j, steps := range plays {
			blocks := append(diskOf(store).Blocks, "spare")
			d := impl.Disk{Blocks: blocks[:impl.DiskBlocks]}
			list := append(slices.Clone(steps), impl.Step{Text: "spare"})
			got, s, _ := impl.StorePlay(d, list[:len(steps)])
			clear(got.Blocks[:cap(got.Blocks)])
			clear(s.Groups[:cap(s.Groups)])
			if !sameDisk(d, diskOf(store)) || blocks[impl.DiskBlocks] != "spare" || !slices.Equal(list[:len(steps)], steps) || list[len(steps)].Text != "spare" {
				t.Errorf("store %d, steps %d: memory is shared", i, j)
			}
		}
	}
}

// roomyRows is rows that have spare room behind them and behind each path, in which something stands.
func roomyRows(rows []impl.Row) []impl.Row {
	var out []impl.Row
	for _, r := range append(slices.Clone(rows), impl.Row{Path: names("/spare")}) {
		r.Path = append(slices.Clone(r.Path), "spare")[:len(r.Path)]
		out = append(out, r)
	}
	return out[:len(rows)]
}

func rowsStand(rows, want []impl.Row) bool {
	if !sameRows(rows, want) || text(rows[:len(rows)+1][len(rows)].Path) != "/spare" {
		return false
	}
	for _, r := range rows {
		if r.Path[:len(r.Path)+1][len(r.Path)] != "spare" {
			return false
		}
	}
	return true
}

func rowPaths(rows []impl.Row) [][]string {
	var out [][]string
	for _, r := range rows {
		out = append(out, r.Path[:cap(r.Path)])
	}
	return out
}

func TestTablesAreNewMemory(t *testing.T) {
	for what, want := range okTrees() {
		x := roomy(want)
		rows := impl.TableMake(x)
		impl.TableId(x)
		whole := scribble(rowPaths(rows), nil)
		clear(rows[:cap(rows)])
		if !whole || !same(x, want) || !spareStands(x) || !sameRows(impl.TableMake(x), modelOf(want).rows()) {
			t.Errorf("%s: memory is shared by the rows", what)
		}
	}
	tables := tampered()
	for what, x := range okTrees() {
		tables[what] = modelOf(x).rows()
	}
	for what, want := range tables {
		rows := roomyRows(want)
		path := []string{"a", "b", "spare"}
		x, _ := impl.TableTree(rows)
		whole := scribble(listsOf(x))
		for end := range 3 {
			list := impl.TableNames(rows, path[:end])
			whole = whole && scribble([][]string{list[:cap(list)]}, nil)
			impl.TableFind(rows, path[:end])
			impl.TableUnder(rows, path[:end])
		}
		if !whole || !rowsStand(rows, want) || fmt.Sprint(path) != "[a b spare]" {
			t.Errorf("%s: memory is shared", what)
		}
	}
}

// roomyPages is pages that have spare room behind them and behind their names, in which something stands.
func roomyPages(p impl.Pages) impl.Pages {
	p.Pages = append(slices.Clone(p.Pages), impl.Page{Data: "spare"}, impl.Page{Data: "spare"})[:len(p.Pages)]
	p.Names = append(slices.Clone(p.Names), impl.PageName{Name: "spare"}, impl.PageName{Name: "spare"})[:len(p.Names)]
	return p
}

func pagesStand(p, want impl.Pages) bool {
	pages, names := p.Pages[len(p.Pages):len(p.Pages)+2], p.Names[len(p.Names):len(p.Names)+2]
	return samePages(p, want) && pages[0].Data == "spare" && pages[1].Data == "spare" && names[0].Name == "spare" && names[1].Name == "spare"
}

func clearPages(p impl.Pages) {
	clear(p.Pages[:cap(p.Pages)])
	clear(p.Names[:cap(p.Names)])
}

func TestPagesAreNewMemory(t *testing.T) {
	all := badPages()
	all["some"], _ = somePages()
	all["none"] = newDesk().pages()
	all["full"], _ = full(t)
	for what, want := range all {
		p := roomyPages(want)
		for _, name := range []string{"a", "b", "c", "d", "0", "n07", "A"} {
			for _, size := range []int{0, 1, 41, 3000, 3001} {
				q, _ := impl.PagesPut(p, name, bytesOf(size))
				r, _ := impl.PagesPut(p, name, bytesOf(size))
				clearPages(q)
				clearPages(r)
			}
			q, _ := impl.PagesDrop(p, name)
			clearPages(q)
			impl.PagesGet(p, name)
		}
		impl.PagesOk(p)
		impl.PagesFree(p)
		impl.PagesWrite(p)
		if !pagesStand(p, want) {
			t.Errorf("%s: memory is shared", what)
		}
	}
	for _, text := range []string{"end\n", "a 0\n\nend\n", "a 4\nend\n\nend\n"} {
		clearPages(impl.PagesNew())
		p, _ := impl.PagesRead(text)
		clearPages(p)
		if !checkRead(t, text) || !samePages(impl.PagesNew(), newDesk().pages()) {
			t.Errorf("%q: memory is shared", text)
		}
	}
}

// roomyNodes is nodes that have spare room behind them and behind each path, in which something stands.
func roomyNodes(n impl.Nodes) impl.Nodes {
	var list []impl.NodeOf
	for _, x := range append(slices.Clone(n.List), impl.NodeOf{Path: names("/spare")}) {
		list = append(list, impl.NodeOf{Id: x.Id, Path: append(slices.Clone(x.Path), "spare")[:len(x.Path)]})
	}
	return impl.Nodes{Next: n.Next, List: list[:len(n.List)]}
}

func nodesStand(n, want impl.Nodes) bool {
	if !sameNodes(n, want) || text(n.List[:len(n.List)+1][len(n.List)].Path) != "/spare" {
		return false
	}
	for _, x := range n.List {
		if x.Path[:len(x.Path)+1][len(x.Path)] != "spare" {
			return false
		}
	}
	return true
}

// scribbleNodes is false, if two paths are one memory.
func scribbleNodes(n impl.Nodes) bool {
	var paths [][]string
	for _, x := range n.List {
		paths = append(paths, x.Path[:cap(x.Path)])
	}
	whole := scribble(paths, nil)
	clear(n.List[:cap(n.List)])
	return whole
}

func TestNodesAreNewMemory(t *testing.T) {
	x := roomy(example())
	for what, want := range map[string]impl.Nodes{
		"well": nodesOf("9: 8 /a, 2 /a/b, 3 /c, 7 /d, 5 /d/e"), "no ids left": nodesOf("10000: 8 /a, 2 /a/b, 3 /c, 7 /d, 5 /d/e"),
		"of another tree": nodesOf("9: 8 /a, 3 /c"), "not well": nodesOf("5: 8 /a, 3 /c"), "none": nodesOf("1:"),
	} {
		n := roomyNodes(want)
		path, to := []string{"a", "b", "spare"}, []string{"d", "x", "spare"}
		whole := scribbleNodes(impl.NodesStart(x))
		for kind := 0; kind <= 7; kind++ {
			for end := range 3 {
				m, _ := impl.NodesDo(n, x, impl.Call{Kind: kind, Path: path[:end], To: to[:2], At: 1, Data: "x"})
				whole = whole && scribbleNodes(m)
				impl.NodesId(n, path[:end])
			}
		}
		m, _ := impl.NodesDo(n, x, call(mkdir, "/n", 0))
		whole = whole && scribbleNodes(m)
		got, _ := impl.NodesPath(n, 2)
		whole = whole && scribble([][]string{got[:cap(got)]}, nil)
		impl.NodesOk(n, x)
		impl.NodesWrite(n)
		if !whole || !nodesStand(n, want) || fmt.Sprint(path, to) != "[a b spare] [d x spare]" || !same(x, example()) || !spareStands(x) {
			t.Errorf("%s: memory is shared", what)
		}
	}
	m, ok := impl.NodesRead("next 9\n8 /a\n2 /a/b\n5 /d/e\n")
	if !ok || !scribbleNodes(m) {
		t.Error("memory is shared by what was read")
	}
}

// roomyUpper is an upper whose lists, and each path, have spare room, in which something stands.
func roomyUpper(u impl.Upper) impl.Upper {
	var out impl.Upper
	for _, path := range append(slices.Clone(u.Gone), names("/spare")) {
		out.Gone = append(out.Gone, append(slices.Clone(path), "spare")[:len(path)])
	}
	for _, e := range append(slices.Clone(u.Puts), newFile("/spare", 0, "")) {
		e.Path = append(slices.Clone(e.Path), "spare")[:len(e.Path)]
		out.Puts = append(out.Puts, e)
	}
	return impl.Upper{Gone: out.Gone[:len(u.Gone)], Puts: out.Puts[:len(u.Puts)]}
}

func upperStands(u, want impl.Upper) bool {
	gone, puts := u.Gone[:len(u.Gone)+1], u.Puts[:len(u.Puts)+1]
	if !sameUpper(u, want) || text(gone[len(u.Gone)]) != "/spare" || text(puts[len(u.Puts)].Path) != "/spare" {
		return false
	}
	paths := slices.Clone(gone)
	for _, e := range puts {
		paths = append(paths, e.Path)
	}
	return !slices.ContainsFunc(paths, func(path []string) bool { return path[:len(path)+1][len(path)] != "spare" })
}

// upperPaths is all paths of an upper, each with its spare room.
func upperPaths(u impl.Upper) [][]string {
	out := pathsOf(u.Puts)
	for _, path := range u.Gone {
		out = append(out, path[:cap(path)])
	}
	return out
}

// scribbleUpper is false, if two paths are one memory.
func scribbleUpper(u impl.Upper) bool {
	whole := scribble(upperPaths(u), nil)
	clear(u.Gone[:cap(u.Gone)])
	clear(u.Puts[:cap(u.Puts)])
	return whole
}

func TestUppersAreNewMemory(t *testing.T) {
	tables := tampered()
	tables["the example"] = impl.TableMake(example())
	uppers := wrongUppers()
	uppers["nothing"] = impl.Upper{}
	uppers["other"] = modelOf(example()).upper(modelOf(other()))
	uppers["the root"] = over("", newDir("/", 3))
	for which, table := range tables {
		for what, want := range uppers {
			// Of rows that are none two uppers are enough.
			if len(want.Gone) > 100 || len(want.Puts) > 100 || which != "the example" && what != "other" && what != "nothing" {
				continue
			}
			rows, u := roomyRows(table), roomyUpper(want)
			path, to := []string{"a", "b", "spare"}, []string{"d", "x", "spare"}
			x, _ := impl.UpperTree(rows, u)
			whole := scribble(listsOf(x))
			for end := range 3 {
				y, _ := impl.UpperLook(rows, u, path[:end])
				list := impl.UpperNames(rows, u, path[:end])
				whole = whole && scribble(listsOf(y)) && scribble([][]string{list[:cap(list)]}, nil)
				for kind := 0; kind <= 7; kind++ {
					v, _ := impl.UpperDo(rows, u, impl.Call{Kind: kind, Path: path[:end], To: to[:2], At: 1, Data: "x"})
					whole = whole && scribbleUpper(v)
				}
			}
			impl.UpperOk(rows, u)
			impl.UpperWrite(u)
			if !whole || !rowsStand(rows, table) || !upperStands(u, want) || fmt.Sprint(path, to) != "[a b spare] [d x spare]" {
				t.Errorf("%s, %s: memory is shared", which, what)
			}
		}
		rows, x := roomyRows(table), roomy(other())
		u, _ := impl.UpperOf(rows, x)
		if !scribbleUpper(u) || !rowsStand(rows, table) || !same(x, other()) || !spareStands(x) {
			t.Errorf("%s: memory is shared by the upper", which)
		}
	}
	u, ok := impl.UpperRead("hide /a\nhide /c/d\ndir / 3\nfile /a 0 21\ndir /d/e/f 7\n")
	if !ok || !scribbleUpper(u) {
		t.Error("memory is shared by what was read")
	}
}

// roomyState is a state of which all lists have spare room, in which something stands.
func roomyState(s impl.State) impl.State {
	layers := append(slices.Clone(s.Layers), "spare")[:len(s.Layers)]
	return impl.State{First: roomy(s.First), Rows: roomyRows(s.Rows), Upper: roomyUpper(s.Upper), Trail: roomyMarks(s.Trail), Nodes: roomyNodes(s.Nodes), Layers: layers}
}

func stateStands(s, want impl.State) bool {
	layers := s.Layers[:len(s.Layers)+1]
	return same(s.First, want.First) && spareStands(s.First) && rowsStand(s.Rows, want.Rows) && upperStands(s.Upper, want.Upper) && marksStand(s.Trail, want.Trail) && nodesStand(s.Nodes, want.Nodes) && slices.Equal(s.Layers, want.Layers) && layers[len(s.Layers)] == "spare"
}

// scribbleState is false, if two lists are one memory.
func scribbleState(s impl.State) bool {
	lists, kids := listsOf(s.First)
	lists = slices.Concat(lists, rowPaths(s.Rows), upperPaths(s.Upper), trailPaths(s.Trail), [][]string{s.Layers[:cap(s.Layers)]})
	for _, n := range s.Nodes.List {
		lists = append(lists, n.Path[:cap(n.Path)])
	}
	whole := scribble(lists, kids)
	clear(s.Rows[:cap(s.Rows)])
	clear(s.Upper.Gone[:cap(s.Upper.Gone)])
	clear(s.Upper.Puts[:cap(s.Upper.Puts)])
	clear(s.Trail[:cap(s.Trail)])
	clear(s.Nodes.List[:cap(s.Nodes.List)])
	return whole
}

func TestStatesAreNewMemory(t *testing.T) {
	all := badStates(t)
	_, p := someState(t)
	all["some"] = p.state()
	all["new"] = storyOf(modelOf(example())).state()
	p.ids.next = 10000
	all["no ids left"] = p.state()
	p.layers = append(slices.Clone(p.layers), "", "", "", "")
	all["six layers"] = p.state()
	all["nothing over it"] = storyOf(p.seen).state()
	for what, want := range all {
		// A tree may be within itself, and could not be copied then.
		if !impl.TreeOk(want.First) || len(want.Layers) > 100 {
			continue
		}
		s := roomyState(want)
		path, to := []string{"a", "b", "spare"}, []string{"d", "x", "spare"}
		whole := true
		for kind := 0; kind <= 7; kind++ {
			for end := range 3 {
				next, _ := impl.StateDo(s, impl.Call{Kind: kind, Path: path[:end], To: to[:1], At: 1, Data: "x"})
				whole = whole && scribbleState(next)
			}
		}
		for _, c := range []impl.Call{call(mkdir, "/m", 0), renaming("/a", "/n/a"), renaming("/f", "/a/f"), call(chmod, "/c", 3)} {
			next, _ := impl.StateDo(s, c)
			whole = whole && scribbleState(next)
		}
		next, _, _ := impl.StateCommit(s)
		pages, _ := impl.StateSave(s)
		clearPages(pages)
		impl.StateOk(s)
		if !whole || !scribbleState(next) || !stateStands(s, want) || fmt.Sprint(path, to) != "[a b spare] [d x spare]" {
			t.Errorf("%s: memory is shared", what)
		}
	}
}

func TestNewAndLoadedStatesAreNewMemory(t *testing.T) {
	for what, want := range okTrees() {
		x := roomy(want)
		s, ok := impl.StateNew(x)
		if !ok || !scribbleState(s) || !same(x, want) || !spareStands(x) {
			t.Errorf("%s: memory is shared", what)
		}
	}
	_, p := someState(t)
	d, _ := p.desk()
	pages := roomyPages(d.pages())
	s, ok := impl.StateLoad(pages)
	if !ok || !scribbleState(s) || !pagesStand(pages, d.pages()) {
		t.Error("memory is shared by what was loaded")
	}
	for what, want := range badPages() {
		pages := roomyPages(want)
		impl.StateLoad(pages)
		if !pagesStand(pages, want) {
			t.Errorf("%s: memory is shared", what)
		}
	}
	c, ok := impl.CallParse("rename /a/b /c/d")
	if !ok || !scribble([][]string{c.Path[:cap(c.Path)], c.To[:cap(c.To)]}, nil) {
		t.Error("memory is shared by a call that was read")
	}
	path, to := []string{"a", "b", "spare"}, []string{"d", "x", "spare"}
	impl.CallText(impl.Call{Kind: rename, Path: path[:2], To: to[:2]})
	if fmt.Sprint(path, to) != "[a b spare] [d x spare]" {
		t.Error("memory is shared with a call that was written", path, to)
	}
}

// roomySys is a system of which all lists have spare room, in which something stands.
func roomySys(s impl.Sys) impl.Sys {
	blocks := append(slices.Clone(s.Disk.Blocks), "spare")[:len(s.Disk.Blocks)]
	return impl.Sys{Disk: impl.Disk{Blocks: blocks}, Store: roomyStore(s.Store), State: roomyState(s.State), Up: s.Up}
}

func sysStands(s, want impl.Sys) bool {
	blocks := s.Disk.Blocks[:len(s.Disk.Blocks)+1]
	return s.Up == want.Up && sameDisk(s.Disk, want.Disk) && blocks[len(s.Disk.Blocks)] == "spare" && storeStands(s.Store, want.Store) && stateStands(s.State, want.State)
}

// scribbleSys is false, if two lists are one memory.
func scribbleSys(s impl.Sys) bool {
	whole := scribble([][]string{s.Disk.Blocks[:cap(s.Disk.Blocks)], s.Store.Groups[:cap(s.Store.Groups)], s.State.Layers[:cap(s.State.Layers)]}, nil)
	return scribbleState(s.State) && whole
}

// someSyses is systems of any kind, most of which are ok.
func someSyses(t *testing.T) map[string]impl.Sys {
	s, p := someSys(t)
	down, _ := p.do(cutAt(1, committing()))
	full := p
	for full.store.Next < 12 {
		full, _ = full.do(committing())
	}
	less, more := p.sys(), p.sys()
	less.Store.Groups = less.Store.Groups[:2]
	more.State.Trail = append(more.State.Trail, at("/zz"))
	return map[string]impl.Sys{
		"some": s, "down": down.sys(), "a full log": full.sys(), "new": plantAt(1, storyOf(modelOf(example()))).sys(), "no room": plantAt(1, leaving(t, 0)).sys(), "the last": plantAt(99999, storyOf(modelOf(wide(30)))).sys(),
		"nothing": {}, "another store": less, "another state": more, "down, and knows all": {Disk: s.Disk, Store: s.Store, State: p.story.state()},
	}
}

func TestSystemsAreNewMemory(t *testing.T) {
	for what, want := range someSyses(t) {
		s := roomySys(want)
		path, to := []string{"a", "b", "spare"}, []string{"d", "x", "spare"}
		whole := true
		var list []impl.SysEvent
		for kind := 0; kind <= 4; kind++ {
			for call := 0; call <= 7; call++ {
				c := impl.Call{Kind: call, Path: path[:1+call%2], To: to[:1], At: 1, Data: "x"}
				list = append(list, impl.SysEvent{Kind: kind, Call: c, Cut: call%4 - 1})
			}
		}
		list = append(list, impl.SysEvent{Kind: 99, Cut: 99})
		for _, e := range list {
			next, _ := impl.SysDo(s, e)
			whole = whole && scribbleSys(next)
		}
		for _, count := range []int{0, 1, 9, len(list) - 1} {
			next, codes := impl.SysPlay(s, list[:count])
			whole = whole && scribbleSys(next)
			clear(codes[:cap(codes)])
		}
		open, _ := impl.SysOpen(s.Disk)
		impl.SysOk(s)
		impl.SysRoom(s.State)
		if last := list[len(list)-1]; last.Kind != 99 || last.Cut != 99 || list[9].Call.Kind != 1 || list[9].Cut != 0 {
			t.Errorf("%s: memory is shared with what happens: %v", what, list)
		}
		if !whole || !scribbleSys(open) || !sysStands(s, want) || fmt.Sprint(path, to) != "[a b spare] [d x spare]" {
			t.Errorf("%s: memory is shared", what)
		}
	}
	for what, want := range okTrees() {
		x := roomy(want)
		s, ok := impl.SysNew(x)
		if !ok || !scribbleSys(s) || !same(x, want) || !spareStands(x) {
			t.Errorf("%s: memory is shared by a new system", what)
		}
	}
}

func TestSightsAreNewMemory(t *testing.T) {
	for what, want := range someSyses(t) {
		s := roomySys(want)
		whole := true
		for range 2 {
			for _, ask := range []func(impl.Sys) (impl.Tree, bool){impl.SysSee, impl.SysSealed, impl.SysFold} {
				x, ok := ask(s)
				whole = whole && scribble(listsOf(x)) && ok == (want.Up && impl.SysOk(want))
			}
			path := []string{"a", "b", "spare"}
			for end := range 3 {
				list, _ := impl.SysList(s, path[:end])
				whole = whole && scribble([][]string{list[:cap(list)]}, nil)
				impl.SysRead(s, path[:end], 0, 9)
				impl.SysHandle(s, path[:end])
			}
			impl.SysReadBy(s, 2, 0, 9)
			impl.SysLayer(s)
			impl.SysWalk(s)
			impl.SysSafe(s)
			impl.SysBoard(s)
			for _, line := range append(slices.Clone(sessionLines), "sealed", "list /", "x", "handle /") {
				next, _ := impl.FrontDo(s, line)
				whole = whole && scribbleSys(next)
			}
			if fmt.Sprint(path) != "[a b spare]" {
				t.Errorf("%s: a path was written into: %v", what, path)
			}
		}
		if !whole || !sysStands(s, want) {
			t.Errorf("%s: memory is shared", what)
		}
	}
	for _, line := range append(slices.Clone(sessionLines), "read /a/b 0 9", "cut 1 rename /a/b /c/d", "readby 1 2 3", "") {
		f, _ := impl.FrontParse(line)
		again, _ := impl.FrontParse(line)
		c := f.Event.Call
		if !scribble([][]string{f.Path[:cap(f.Path)], c.Path[:cap(c.Path)], c.To[:cap(c.To)]}, nil) {
			t.Errorf("%q: memory is shared", line)
		}
		clear(f.Nums[:cap(f.Nums)])
		if want, _ := plainFront(line); !sameFront(again, want) {
			t.Errorf("%q: memory is shared by two answers", line)
		}
	}
	lines := append(slices.Clone(sessionLines), "spare")
	impl.FrontSession(lines[:len(sessionLines)])
	if !slices.Equal(lines[:len(sessionLines)], sessionLines) || lines[len(sessionLines)] != "spare" {
		t.Errorf("lines were written into: %q", lines)
	}
}
