package tests

import (
	"fmt"
	"maps"
	"math"
	"slices"
	"strings"
	"testing"

	"loop.example/changetrail/impl"
)

// rows is the rows of a model, also of one that is no tree that is ok.
func (m model) rows() []impl.Row {
	var out []impl.Row
	for _, p := range slices.Sorted(maps.Keys(m)) {
		x := m[p]
		out = append(out, impl.Row{Path: names(p), Dir: x.dir, Mode: x.mode, Data: x.data, Id: plainId(m.at(p).show())})
	}
	return out
}

// at is what is at a path and below it, as if that were the root.
func (m model) at(path string) model {
	out := model{}
	for p, x := range m {
		if atOrBelow(p, path) {
			out[p[len(path):]] = x
		}
	}
	return out
}

// plainId is the id of a part that is written so.
func plainId(shown string) int {
	h := int64(7)
	for _, b := range []byte(shown) {
		h = (131*h + int64(b)) % 1000000007
	}
	return int(h)
}

func rowSame(a, b impl.Row) bool {
	return text(a.Path) == text(b.Path) && len(a.Path) == len(b.Path) && a.Dir == b.Dir && a.Mode == b.Mode && a.Data == b.Data && a.Id == b.Id
}

func sameRows(a, b []impl.Row) bool {
	return slices.EqualFunc(a, b, rowSame)
}

// copyRows is rows that can be written into.
func copyRows(rows []impl.Row) []impl.Row {
	out := slices.Clone(rows)
	for i := range out {
		out[i].Path = slices.Clone(out[i].Path)
	}
	return out
}

// checkTable seals a tree, and asks for the rows of its model, and for all that can be asked of them.
func checkTable(t *testing.T, what string, x impl.Tree) []impl.Row {
	t.Helper()
	m := modelOf(x)
	rows := impl.TableMake(x)
	if !sameRows(rows, m.rows()) {
		t.Errorf("%s: %v, not %v", what, rows, m.rows())
	}
	back, ok := impl.TableTree(rows)
	if !ok || !same(back, x) {
		t.Errorf("%s: unsealed %v %v", what, ok, back)
	}
	if id := impl.TableId(x); len(rows) == 0 || id != rows[0].Id || id != plainId(m.show()) {
		t.Errorf("%s: id %d", what, id)
	}
	for p := range m {
		m.checkFind(t, what, rows, names(p))
	}
	return rows
}

// checkFind asks rows for a path, which may be there or not.
func (m model) checkFind(t *testing.T, what string, rows []impl.Row, path []string) {
	t.Helper()
	from, count := -1, 0
	var list []string
	for i, r := range m.rows() {
		if !startsWith(r.Path, path) {
			continue
		}
		if len(r.Path) == len(path) {
			from = i
		}
		if len(r.Path) == len(path)+1 {
			list = append(list, r.Path[len(path)])
		}
		count++
	}
	at := impl.TableFind(rows, path)
	if at != from {
		t.Errorf("%s: %q is at %d, not %d", what, path, at, from)
	}
	one, behind := impl.TableUnder(rows, path)
	if from < 0 && (one != 0 || behind != 0) || from >= 0 && (one != from || behind != from+count) {
		t.Errorf("%s: under %q are %d to %d, not %d of them from %d on", what, path, one, behind, count, from)
	}
	if got := impl.TableNames(rows, path); !slices.Equal(got, list) {
		t.Errorf("%s: names of %q are %q, not %q", what, path, got, list)
	}
	y, there := impl.TreeAt(m.tree(""), path)
	if there != (at >= 0) || there && (y.Dir != rows[at].Dir || y.Mode != rows[at].Mode || y.Data != rows[at].Data || !slices.Equal(y.Names, list)) {
		t.Errorf("%s: at %q the tree has %v %v", what, path, there, y)
	}
}

// startsWith goes name by name, as the text of a path that is none may begin like that of one that is.
func startsWith(path, start []string) bool {
	return len(path) >= len(start) && slices.Equal(path[:len(start)], start)
}

// checkNoTable asks for the answers that there are of rows that are no sealed tree.
func checkNoTable(t *testing.T, what string, rows []impl.Row) {
	t.Helper()
	x, ok := impl.TableTree(rows)
	if ok || !isNothing(x) {
		t.Errorf("%s: taken as %v", what, x)
	}
	paths := [][]string{nil, {}, {"a"}, {"a", "b"}, {"d"}, {"n"}, {""}}
	for _, r := range rows[:min(len(rows), 32)] {
		paths = append(paths, r.Path)
	}
	for _, path := range paths {
		from, to := impl.TableUnder(rows, path)
		if at := impl.TableFind(rows, path); at != -1 || from != 0 || to != 0 || len(impl.TableNames(rows, path)) != 0 {
			t.Errorf("%s: %q is at %d, %d to %d", what, path, at, from, to)
		}
	}
}

// The ids were worked out by another program.
func TestExampleTable(t *testing.T) {
	want := []impl.Row{
		{Dir: true, Id: 261098573},
		{Path: names("/a"), Dir: true, Mode: 5, Id: 828730721},
		{Path: names("/a/b"), Data: "hi", Id: 945294199},
		{Path: names("/c"), Mode: 1, Id: 368041200},
		{Path: names("/d"), Dir: true, Id: 583654985},
		{Path: names("/d/e"), Data: "\x00\xff", Id: 161139575},
	}
	if rows := checkTable(t, "the example", example()); !sameRows(rows, want) {
		t.Errorf("%v", rows)
	}
	for mode, id := range map[int]int{0: 228338455, 7: 228339372} {
		rows := checkTable(t, "a root alone", dir(mode))
		if !sameRows(rows, []impl.Row{{Dir: true, Mode: mode, Id: id}}) {
			t.Errorf("%v", rows)
		}
	}
}

func TestTablesOfOkTrees(t *testing.T) {
	for what, x := range okTrees() {
		checkTable(t, what, x)
	}
}

func TestTablesOfBadTrees(t *testing.T) {
	for what, x := range badTrees() {
		if rows := impl.TableMake(x); len(rows) != 0 {
			t.Errorf("%s: %v", what, rows)
		}
		if id := impl.TableId(x); id != -1 {
			t.Errorf("%s: id %d", what, id)
		}
	}
}

// Paths of which no row is, whatever their text reads like.
func TestFindNothing(t *testing.T) {
	none := [][]string{
		{"b"}, {"aa"}, {"0"}, {"zzzzz"}, {"a", "c"}, {"a", "a"}, {"c", "a"}, {"a", "b", "a"}, {"a", "b", "c", "d"}, {"a", "b", "c", "d", "e"}, {""}, {"", "a"}, {"a", ""}, {"a/b"}, {"/a"}, {"a", "b", ""},
		{"A"}, {"\x00"}, {"\xff"}, {"a\x00"}, {"d/e"}, {strings.Repeat("x", 1000)}, make([]string, 1000),
	}
	for _, path := range none {
		modelOf(example()).checkFind(t, "the example", impl.TableMake(example()), path)
		modelOf(dir(3)).checkFind(t, "a root alone", impl.TableMake(dir(3)), path)
	}
}

// One name is the beginning of another one, and one directory's parts come ahead of the next name.
func TestUnder(t *testing.T) {
	x := dir(0,
		named{"a", dir(0, named{"z", dir(0, named{"z", file(0, "")})})},
		named{"a0", dir(0)},
		named{"aa", dir(0, named{"a", file(0, "")}, named{"b", dir(0, named{"c", dir(0)})})},
		named{"b", file(0, "")})
	rows := checkTable(t, "names that begin alike", x)
	for _, k := range []struct {
		path     string
		from, to int
		list     string
	}{
		{"/", 0, 10, "[a a0 aa b]"}, {"/a", 1, 4, "[z]"}, {"/a/z", 2, 4, "[z]"}, {"/a/z/z", 3, 4, "[]"}, {"/a0", 4, 5, "[]"}, {"/aa", 5, 9, "[a b]"}, {"/aa/a", 6, 7, "[]"}, {"/aa/b", 7, 9, "[c]"},
		{"/aa/b/c", 8, 9, "[]"}, {"/b", 9, 10, "[]"}, {"/a/a", 0, 0, "[]"}, {"/a00", 0, 0, "[]"}, {"/c", 0, 0, "[]"},
	} {
		from, to := impl.TableUnder(rows, names(k.path))
		if list := fmt.Sprint(impl.TableNames(rows, names(k.path))); from != k.from || to != k.to || list != k.list {
			t.Errorf("%s: %d to %d, %s", k.path, from, to, list)
		}
	}
	longest := impl.TableMake(deep(3, named{"f", file(0, "x")}))
	if at := impl.TableFind(longest, names("/d/d/d/f")); at != 4 {
		t.Errorf("the longest path is at %d", at)
	}
	if at := impl.TableFind(longest, names("/d/d/d/f/f")); at != -1 {
		t.Errorf("a path that is too long is at %d", at)
	}
}

func idAt(t *testing.T, rows []impl.Row, path string) int {
	t.Helper()
	at := impl.TableFind(rows, names(path))
	if at < 0 {
		t.Fatalf("%s is not in %v", path, rows)
	}
	return rows[at].Id
}

// Parts that are the same have one id at each place and in each tree, as a root, too; others have another one.
func TestSameParts(t *testing.T) {
	part := dir(5, named{"b", file(0, "hi")}, named{"e", dir(1)})
	rows := checkTable(t, "parts twice", dir(0, named{"a", part}, named{"b", file(0, "hi")}, named{"d", dir(2, named{"x", part})}, named{"e", dir(1)}))
	id := impl.TableId(part)
	if idAt(t, rows, "/a") != id || idAt(t, rows, "/d/x") != id {
		t.Error("the same directory has more than one id")
	}
	for _, paths := range [][]string{{"/a/b", "/b", "/d/x/b"}, {"/a/e", "/d/x/e", "/e"}, {"/a", "/d/x"}} {
		for _, path := range paths {
			if idAt(t, rows, path) != idAt(t, rows, paths[0]) {
				t.Errorf("%s and %s have two ids", paths[0], path)
			}
		}
	}
	ids := map[int]string{}
	for _, path := range []string{"/", "/a", "/b", "/d", "/e"} {
		if other, there := ids[idAt(t, rows, path)]; there {
			t.Errorf("%s and %s have one id", path, other)
		}
		ids[idAt(t, rows, path)] = path
	}
}

// What a part has within it, and nothing else, makes its id.
func TestOtherParts(t *testing.T) {
	ids := map[int]string{}
	for what, x := range map[string]impl.Tree{
		"nothing in it":       dir(5),
		"a file":              dir(5, named{"b", file(0, "hi")}),
		"another mode":        dir(4, named{"b", file(0, "hi")}),
		"another mode within": dir(5, named{"b", file(1, "hi")}),
		"another name":        dir(5, named{"c", file(0, "hi")}),
		"other bytes":         dir(5, named{"b", file(0, "ih")}),
		"no bytes":            dir(5, named{"b", file(0, "")}),
		"a minus":             dir(5, named{"b", file(0, "-")}),
		"a directory":         dir(5, named{"b", dir(0)}),
		"a file, deeper":      dir(5, named{"b", dir(0, named{"b", file(0, "hi")})}),
	} {
		rows := checkTable(t, what, dir(0, named{"n", x}))
		if other, there := ids[rows[1].Id]; there {
			t.Errorf("%s and %s have one id", what, other)
		}
		ids[rows[1].Id] = what
	}
}

// The bytes of a file are never taken for lines.
func TestFilesThatReadLikeLines(t *testing.T) {
	for _, data := range []string{"dir / 0\n", "file / 0 -\n", "-\nfile /b 0 -\n", "\n", "file /a 0 ", "dir /a 1", "end\n", "00", "-", "\nfile /b 1 ff\n"} {
		x := dir(0, named{"a", file(0, data)})
		rows := checkTable(t, "a file that reads like a line", x)
		if id := plainId("file / 0 " + fmt.Sprintf("%x", data) + "\n"); rows[1].Id != id {
			t.Errorf("%q: id %d, not %d", data, rows[1].Id, id)
		}
	}
	both := impl.TableMake(dir(0, named{"a", file(0, "")}, named{"b", file(0, "")}))
	one := impl.TableMake(dir(0, named{"a", file(0, "-\nfile /b 0 -")}))
	if both[0].Id == one[0].Id {
		t.Error("a file and two files have one id")
	}
}

// tampered is rows that were tampered with, each made of the rows of the example.
func tampered() map[string][]impl.Row {
	out := map[string][]impl.Row{}
	rows := modelOf(example()).rows()
	change := func(what string, at int, do func(r *impl.Row)) {
		list := copyRows(rows)
		do(&list[at])
		out[fmt.Sprint(what, " of row ", at)] = list
	}
	for at := range rows {
		change("id one more", at, func(r *impl.Row) { r.Id++ })
		change("id one less", at, func(r *impl.Row) { r.Id-- })
		change("id of another round", at, func(r *impl.Row) { r.Id += 1000000007 })
		change("id 0", at, func(r *impl.Row) { r.Id = 0 })
		change("id below 0", at, func(r *impl.Row) { r.Id = -1 })
		change("least id", at, func(r *impl.Row) { r.Id = math.MinInt })
		change("mode one more", at, func(r *impl.Row) { r.Mode++ })
		change("mode below 0", at, func(r *impl.Row) { r.Mode = -1 })
		change("greatest mode", at, func(r *impl.Row) { r.Mode = math.MaxInt })
		change("kind", at, func(r *impl.Row) { r.Dir = !r.Dir })
		change("data", at, func(r *impl.Row) { r.Data += "x" })
		change("path longer", at, func(r *impl.Row) { r.Path = append(r.Path, "a") })
		change("path far longer", at, func(r *impl.Row) { r.Path = append(r.Path, make([]string, 1000)...) })
		change("path with no name behind", at, func(r *impl.Row) { r.Path = append(r.Path, "") })
		change("path with no name ahead", at, func(r *impl.Row) { r.Path = append([]string{""}, r.Path...) })
		out[fmt.Sprint("without row ", at)] = slices.Delete(copyRows(rows), at, at+1)
		out[fmt.Sprint("row ", at, " twice")] = slices.Insert(copyRows(rows), at, rows[at])
		out[fmt.Sprint("row ", at, " again behind")] = append(copyRows(rows), rows[at])
		out[fmt.Sprint("up to row ", at)] = copyRows(rows)[:at]
		if len(rows[at].Path) > 1 {
			change("path as one name", at, func(r *impl.Row) { r.Path = []string{strings.Join(r.Path, "/")} })
		}
		if at > 0 {
			change("path without a name", at, func(r *impl.Row) { r.Path = r.Path[:len(r.Path)-1] })
			change("last name", at, func(r *impl.Row) { r.Path[len(r.Path)-1] += "0" })
			change("first name", at, func(r *impl.Row) { r.Path[0] = "A" })
			list := copyRows(rows)
			list[at-1], list[at] = list[at], list[at-1]
			out[fmt.Sprint("rows ", at-1, " and ", at)] = list
		}
	}
	out["a row too many"] = append(copyRows(rows), impl.Row{Path: names("/z"), Id: plainId("file / 0 -\n")})
	out["a row of nothing"] = append(copyRows(rows), impl.Row{})
	reversed := copyRows(rows)
	slices.Reverse(reversed)
	out["reversed"] = reversed
	return out
}

func TestTampered(t *testing.T) {
	checkTable(t, "not tampered with", example())
	for what, rows := range tampered() {
		checkNoTable(t, what, rows)
	}
}

// All ids are those of what the rows say, but no tree that is ok says so.
func TestRowsOfNoTree(t *testing.T) {
	long := model{"": {dir: true}}
	for _, p := range []string{"/a", "/a/a", "/a/a/a", "/a/a/a/a"} {
		long[p] = thing{dir: true}
	}
	checkTable(t, "longest path", long.tree(""))
	full := modelOf(wide(30))
	checkTable(t, "most entries", full.tree(""))
	with := func(m model, p string, x thing) []impl.Row {
		next := maps.Clone(m)
		next[p] = x
		return next.rows()
	}
	m := modelOf(example())
	for what, rows := range map[string][]impl.Row{
		"no rows":                nil,
		"no rows, not nil":       {},
		"no root":                model{"/a": {dir: true}}.rows(),
		"root a file":            model{"": {}}.rows(),
		"root a file with bytes": model{"": {data: "hi"}}.rows(),
		"root with data":         with(m, "", thing{dir: true, data: "x"}),
		"root mode above":        with(m, "", thing{dir: true, mode: 8}),
		"root mode below 0":      with(m, "", thing{dir: true, mode: -1}),
		"dir mode above":         with(m, "/a", thing{dir: true, mode: 8}),
		"file mode above":        with(m, "/c", thing{mode: 8}),
		"file mode below 0":      with(m, "/c", thing{mode: -1}),
		"dir with data":          with(m, "/d", thing{dir: true, data: "x"}),
		"file, too much data":    with(m, "/c", thing{data: strings.Repeat("x", 25)}),
		"parent a file":          with(m, "/c/x", thing{}),
		"parent not there":       with(m, "/n/x", thing{}),
		"name too long":          with(m, "/abcdef", thing{}),
		"name upper case":        with(m, "/A", thing{}),
		"name empty":             with(m, "/", thing{}),
		"path too long":          with(long, "/a/a/a/a/a", thing{}),
		"too many":               with(full, "/n", thing{}),
		"far too many":           slices.Repeat(m.rows(), 100000),
	} {
		checkNoTable(t, what, rows)
	}
	// A text that reads like these rows' own, as names are not asked for slashes.
	slashed := modelOf(dir(0, named{"a", dir(0, named{"b", file(0, "")})})).rows()
	slashed[2].Path = []string{"a/b"}
	checkNoTable(t, "a name with a slash", slashed)
	data := copyRows(m.rows())
	data[4].Data = "\x00"
	checkNoTable(t, "Data of a directory, its id as it was", data)
}

// checkIds asks that what a call renamed has the ids that it had, and so what the call does not name, and is not above what it names.
func checkIds(t *testing.T, m model, c impl.Call, rows, after []impl.Row) int {
	t.Helper()
	from, to, moved := text(c.Path), text(c.To), 0
	for _, row := range rows {
		p := text(row.Path)
		if c.Kind == rename && atOrBelow(p, from) {
			p = to + p[len(from):]
			moved++
		} else if atOrBelow(from, p) || c.Kind == rename && atOrBelow(to, p) {
			continue
		}
		if got := idAt(t, after, p); got != row.Id {
			t.Errorf("%+v of %q: %s had the id %d, and has %d", c, m.show(), p, row.Id, got)
		}
	}
	return moved
}

func TestMadeUpTables(t *testing.T) {
	r := newMaker(20)
	moved := 0
	for i := range 200 {
		m := r.model(i % 31)
		rows := checkTable(t, "made up", m.tree(""))
		for range 8 {
			m.checkFind(t, "made up", rows, r.path(m))
		}
		for range 10 {
			c := r.call(m)
			c.Kind = []int{c.Kind, rename}[r.IntN(2)]
			next, code := m.do(c)
			if code == 0 {
				moved += checkIds(t, m, c, rows, impl.TableMake(next.tree("")))
			}
		}
		if t.Failed() {
			return
		}
	}
	if moved < 50 {
		t.Errorf("%d moved", moved)
	}
}

// spoil changes one thing of rows, or takes it from other rows.
func (r maker) spoil(rows, others []impl.Row) []impl.Row {
	out := copyRows(rows)
	at, other := r.IntN(len(out)), others[r.IntN(len(others))]
	switch r.IntN(9) {
	case 0:
		out[at].Id = other.Id
	case 1:
		out[at].Path = slices.Clone(other.Path)
	case 2:
		out[at].Mode = r.IntN(8)
	case 3:
		out[at].Data = other.Data
	case 4:
		out[at].Dir = !out[at].Dir
	case 5:
		out = slices.Delete(out, at, at+1)
	case 6:
		out = slices.Insert(out, at, other)
	case 7:
		out[at] = other
	case 8:
		to := r.IntN(len(out))
		out[at], out[to] = out[to], out[at]
	}
	return out
}

// Rows are a tree just if they are those that its model has.
func TestSpoiltTables(t *testing.T) {
	r := newMaker(21)
	taken, refused := 0, 0
	for i := range 3000 {
		m := r.model(1 + i%12)
		rows := r.spoil(impl.TableMake(m.tree("")), impl.TableMake(r.near(m).tree("")))
		x, ok := impl.TableTree(rows)
		if !ok {
			refused++
			checkNoTable(t, "spoilt", rows)
			if sameRows(rows, m.rows()) {
				t.Fatalf("refused: %v", rows)
			}
			continue
		}
		taken++
		if !sameRows(rows, modelOf(x).rows()) || !sameRows(rows, impl.TableMake(x)) {
			t.Fatalf("taken as %q: %v", impl.TreeShow(x), rows)
		}
	}
	if taken < 100 || refused < 1000 {
		t.Errorf("%d taken, %d refused", taken, refused)
	}
}
