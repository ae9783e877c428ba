// Package impl: trees of files, calls, layers and trails; disks and stores; what is kept; and the system over all of them.
package impl

import (
	"iter"
	"slices"
	"strconv"
	"strings"
)

// Limits of trees.
const (
	TreeMaxDepth   = 4
	TreeMaxName    = 5
	TreeMaxEntries = 30
	TreeMaxData    = 24
	TreeMaxMode    = 7
)

// figures are what the bytes of a file are written with, two for each.
const figures = "0123456789abcdef"

// Tree is a file, or a directory with names, ascending, and what they are.
type Tree struct {
	Dir   bool
	Mode  int
	Data  string
	Names []string
	Kids  []Tree
}

// TreeOk says whether a tree is ok, its root being a directory.
func TreeOk(t Tree) bool {
	_, ok := rootOf(t)
	return ok
}

// TreeCount is how many files and directories a tree has, without its root.
func TreeCount(t Tree) int {
	root, ok := rootOf(t)
	if !ok {
		return 0
	}
	count := 0
	for path := range partsOf(root) {
		if len(path) > 0 {
			count++
		}
	}
	return count
}

// TreeAt is what is at a path.
func TreeAt(t Tree, path []string) (Tree, bool) {
	root, ok := rootOf(t)
	if !ok {
		return Tree{}, false
	}
	p, ok := partAt(root, path)
	if !ok {
		return Tree{}, false
	}
	return treeOf(p), true
}

// TreeShow writes a tree, a line for each file and directory.
func TreeShow(t Tree) string {
	root, ok := rootOf(t)
	if !ok {
		return ""
	}
	var text strings.Builder
	for line := range linesOf(root) {
		text.WriteString(line)
		text.WriteByte('\n')
	}
	return text.String()
}

// TreeParse reads a tree.
func TreeParse(text string) (Tree, bool) {
	root, ok := readRoot(text)
	if !ok {
		return Tree{}, false
	}
	t := treeOf(root)
	// The reader takes lines in any order and a last one without its newline; the writer tells whether they stood as they must.
	if TreeShow(t) != text {
		return Tree{}, false
	}
	return t, true
}

// part is a file or a directory of a tree that is ok: unlike a Tree it cannot be something of both.
type part interface {
	line(path []string) string
	setMode(mode int)
}

type filePart struct {
	mode int
	data string
}

type dirPart struct {
	mode  int
	names []string
	kids  []part
}

func (f *filePart) line(path []string) string {
	return "file " + pathText(path) + " " + strconv.Itoa(f.mode) + " " + dataText(f.data)
}

func (d *dirPart) line(path []string) string {
	return "dir " + pathText(path) + " " + strconv.Itoa(d.mode)
}

func (f *filePart) setMode(mode int) {
	f.mode = mode
}

func (d *dirPart) setMode(mode int) {
	d.mode = mode
}

// put places a part under a name that the directory does not have.
func (d *dirPart) put(name string, p part) {
	at, _ := slices.BinarySearch(d.names, name)
	d.names = slices.Insert(d.names, at, name)
	d.kids = slices.Insert(d.kids, at, p)
}

// intake makes parts of trees, as long as there is room for them.
type intake struct {
	room int
}

// rootOf is a tree as parts, in memory of their own; false, if the tree is not ok.
func rootOf(t Tree) (*dirPart, bool) {
	if !t.Dir {
		return nil, false
	}
	in := intake{room: TreeMaxEntries}
	return in.dir(t, 0)
}

// part takes depth, as a tree may be within itself: only the limit of depth ends that.
func (in *intake) part(t Tree, depth int) (part, bool) {
	if depth > TreeMaxDepth {
		return nil, false
	}
	if t.Dir {
		return in.dir(t, depth)
	}
	ok := isMode(t.Mode) && len(t.Data) <= TreeMaxData && len(t.Names) == 0 && len(t.Kids) == 0
	return &filePart{mode: t.Mode, data: t.Data}, ok
}

func (in *intake) dir(t Tree, depth int) (*dirPart, bool) {
	if !isMode(t.Mode) || t.Data != "" || len(t.Names) != len(t.Kids) || len(t.Kids) > in.room {
		return nil, false
	}
	in.room -= len(t.Kids)
	d := &dirPart{mode: t.Mode}
	for i, name := range t.Names {
		if !isName(name) || i > 0 && name <= t.Names[i-1] {
			return nil, false
		}
		kid, ok := in.part(t.Kids[i], depth+1)
		if !ok {
			return nil, false
		}
		d.names = append(d.names, name)
		d.kids = append(d.kids, kid)
	}
	return d, true
}

// treeOf is a part as a tree, in memory of its own.
func treeOf(p part) Tree {
	switch x := p.(type) {
	case *filePart:
		return Tree{Mode: x.mode, Data: x.data}
	case *dirPart:
		t := Tree{Dir: true, Mode: x.mode, Names: copyNames(x.names)}
		for _, kid := range x.kids {
			t.Kids = append(t.Kids, treeOf(kid))
		}
		return t
	}
	return Tree{}
}

// copyNames does not take slices.Clone, which of an empty list keeps a hold on the memory it had.
func copyNames(names []string) []string {
	return append([]string(nil), names...)
}

// partAt is what is at a path below a part.
func partAt(p part, path []string) (part, bool) {
	for _, name := range path {
		kid, ok := kidOf(p, name)
		if !ok {
			return nil, false
		}
		p = kid
	}
	return p, true
}

// kidOf is what a name is right below a part; a file has no names.
func kidOf(p part, name string) (part, bool) {
	switch x := p.(type) {
	case *dirPart:
		at, ok := slices.BinarySearch(x.names, name)
		if ok {
			return x.kids[at], true
		}
	}
	return nil, false
}

func isDir(p part) bool {
	switch p.(type) {
	case *dirPart:
		return true
	}
	return false
}

// namesOf is the names right below a part, in the memory that the part has; a file has none.
func namesOf(p part) []string {
	switch x := p.(type) {
	case *dirPart:
		return x.names
	}
	return nil
}

// partsOf tells a part and all below it with their paths, each ahead of what is within it.
func partsOf(p part) iter.Seq2[[]string, part] {
	return func(yield func([]string, part) bool) {
		walkParts(p, nil, yield)
	}
}

func walkParts(p part, path []string, yield func([]string, part) bool) bool {
	if !yield(path, p) {
		return false
	}
	switch x := p.(type) {
	case *dirPart:
		for i, name := range x.names {
			if !walkParts(x.kids[i], append(copyNames(path), name), yield) {
				return false
			}
		}
	}
	return true
}

// linesOf tells the lines of a part and all below it, without their newlines.
func linesOf(p part) iter.Seq[string] {
	return func(yield func(string) bool) {
		for path, x := range partsOf(p) {
			if !yield(x.line(path)) {
				return
			}
		}
	}
}

// readRoot reads lines into parts; it does not ask whether they stand in their order.
func readRoot(text string) (*dirPart, bool) {
	first, rest, _ := strings.Cut(text, "\n")
	path, p, ok := readLine(first)
	root, rooted := p.(*dirPart)
	if !ok || !rooted || len(path) > 0 {
		return nil, false
	}
	count := 0
	for line := range strings.Lines(rest) {
		count++
		path, p, ok := readLine(strings.TrimSuffix(line, "\n"))
		// Counted here, so that a long text is not read to its end.
		if !ok || count > TreeMaxEntries || !place(root, path, p) {
			return nil, false
		}
	}
	return root, true
}

func readLine(line string) ([]string, part, bool) {
	// One word more than any line has is enough to tell that it is none.
	words := strings.SplitN(line, " ", 5)
	switch {
	case len(words) == 3 && words[0] == "dir":
		path, named := readPath(words[1])
		mode, ok := readMode(words[2])
		return path, &dirPart{mode: mode}, named && ok
	case len(words) == 4 && words[0] == "file":
		path, named := readPath(words[1])
		mode, ok := readMode(words[2])
		data, whole := readData(words[3])
		return path, &filePart{mode: mode, data: data}, named && ok && whole
	}
	return nil, nil, false
}

// place puts a part at a path; false, if there is no directory for it, or the path is there already.
func place(root *dirPart, path []string, p part) bool {
	if len(path) == 0 {
		return false
	}
	above, name := splitPath(path)
	at, _ := partAt(root, above)
	switch parent := at.(type) {
	case *dirPart:
		_, there := kidOf(parent, name)
		if !there {
			parent.put(name, p)
		}
		return !there
	}
	return false
}

// splitPath is the path of the parent, and the last name; the root's path has neither.
func splitPath(path []string) ([]string, string) {
	last := len(path) - 1
	return path[:last], path[last]
}

func isMode(mode int) bool {
	return mode >= 0 && mode <= TreeMaxMode
}

func isName(name string) bool {
	if len(name) < 1 || len(name) > TreeMaxName {
		return false
	}
	for i := range len(name) {
		letter := name[i] >= 'a' && name[i] <= 'z'
		figure := name[i] >= '0' && name[i] <= '9'
		if !letter && !figure {
			return false
		}
	}
	return true
}

// isPath says whether a path can be in a tree; the root's is one.
func isPath(path []string) bool {
	if len(path) > TreeMaxDepth {
		return false
	}
	for _, name := range path {
		if !isName(name) {
			return false
		}
	}
	return true
}

func pathText(path []string) string {
	if len(path) == 0 {
		return "/"
	}
	return "/" + strings.Join(path, "/")
}

func readPath(text string) ([]string, bool) {
	if text == "/" {
		return nil, true
	}
	rest, ok := strings.CutPrefix(text, "/")
	path := strings.SplitN(rest, "/", TreeMaxDepth+1)
	if !ok || !isPath(path) {
		return nil, false
	}
	return path, true
}

func dataText(data string) string {
	if data == "" {
		return "-"
	}
	var text strings.Builder
	for i := range len(data) {
		text.WriteByte(figures[data[i]>>4])
		text.WriteByte(figures[data[i]&15])
	}
	return text.String()
}

func readData(text string) (string, bool) {
	if text == "-" {
		return "", true
	}
	if text == "" || len(text)%2 != 0 || len(text) > 2*TreeMaxData {
		return "", false
	}
	var data strings.Builder
	for i := 0; i < len(text); i += 2 {
		high := strings.IndexByte(figures, text[i])
		low := strings.IndexByte(figures, text[i+1])
		if high < 0 || low < 0 {
			return "", false
		}
		data.WriteByte(byte(high<<4 | low))
	}
	return data.String(), true
}

func readMode(text string) (int, bool) {
	mode, ok := readNumber(text)
	return mode, ok && isMode(mode)
}

// readNumber reads a number just as strconv.Itoa writes it: Atoi alone takes noughts and a plus ahead.
func readNumber(text string) (int, bool) {
	number, err := strconv.Atoi(text)
	if err != nil || strconv.Itoa(number) != text {
		return 0, false
	}
	return number, true
}
