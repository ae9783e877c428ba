package impl

import (
	"errors"
	"slices"
	"strconv"
	"strings"
)

// Kinds of calls.
const (
	CallMkdir    = 1
	CallWrite    = 2
	CallTruncate = 3
	CallRemove   = 4
	CallRename   = 5
	CallChmod    = 6
)

// Codes of what is refused.
const (
	codeNotOk   = 1
	codeNone    = 2
	codeMissing = 3
	codeKind    = 4
	codeThere   = 5
	codeTooMuch = 6
	codeWithin  = 7
)

// Call is something that changes a tree.
type Call struct {
	Kind int
	Path []string
	To   []string
	At   int
	Data string
}

// TreeDo does a call: 0, or 1 the tree is not ok, 2 the call is none, 3 there is no such, 4 it is a directory, or none, 5 it is there, or has something, 6 too much, 7 it would be within itself.
func TreeDo(t Tree, c Call) (Tree, int) {
	root, ok := rootOf(t)
	if !ok {
		return Tree{}, codeNotOk
	}
	next, err := behindCall(root, c)
	return treeOf(next), codeOf(err)
}

// TreeRead reads bytes of a file.
func TreeRead(t Tree, path []string, at int, n int) (string, int) {
	data, err := readFile(t, path, at, n)
	return data, codeOf(err)
}

// TreeList lists a directory.
func TreeList(t Tree, path []string) ([]string, int) {
	names, err := listDir(t, path)
	return names, codeOf(err)
}

// refusal is why something is not done.
type refusal struct {
	code int
}

func (r refusal) Error() string {
	return "refused, code " + strconv.Itoa(r.code)
}

// codeOf is the code of what was refused, 0 of no error.
func codeOf(err error) int {
	var r refusal
	if errors.As(err, &r) {
		return r.code
	}
	return 0
}

func isCall(c Call) bool {
	if !isPath(c.Path) || len(c.Path) == 0 {
		return false
	}
	switch c.Kind {
	case CallMkdir, CallChmod:
		return isMode(c.At)
	case CallWrite, CallTruncate:
		return c.At >= 0 && c.At <= TreeMaxData
	case CallRemove:
		return true
	case CallRename:
		return isPath(c.To) && len(c.To) > 0
	}
	return false
}

// deed is a call that is being done: the tree that it works on, and the directory that Path's last name is to be in.
type deed struct {
	call   Call
	root   *dirPart
	parent *dirPart
	name   string
}

// behindCall is the tree behind a call; it is the one that was, if the call is refused.
func behindCall(root *dirPart, c Call) (next *dirPart, err error) {
	next = root.clone()
	defer func() {
		if err != nil {
			next = root
		}
	}()
	if !isCall(c) {
		return next, refusal{codeNone}
	}
	parent, name, err := parentOf(next, c.Path)
	if err != nil {
		return next, err
	}
	kinds := [...]func(deed) error{
		CallMkdir:    deed.mkdir,
		CallWrite:    deed.write,
		CallTruncate: deed.truncate,
		CallRemove:   deed.remove,
		CallRename:   deed.rename,
		CallChmod:    deed.chmod,
	}
	err = kinds[c.Kind](deed{call: c, root: next, parent: parent, name: name})
	if err == nil && !TreeOk(treeOf(next)) {
		err = refusal{codeTooMuch}
	}
	return next, err
}

// parentOf is the directory that a path's last name is to be in, and that name.
func parentOf(root *dirPart, path []string) (*dirPart, string, error) {
	above, name := splitPath(path)
	p, ok := partAt(root, above)
	if !ok {
		return nil, "", refusal{codeMissing}
	}
	switch parent := p.(type) {
	case *dirPart:
		return parent, name, nil
	}
	return nil, "", refusal{codeKind}
}

func (d deed) mkdir() error {
	_, there := kidOf(d.parent, d.name)
	if there {
		return refusal{codeThere}
	}
	d.parent.put(d.name, &dirPart{mode: d.call.At})
	return nil
}

func (d deed) write() error {
	p, there := kidOf(d.parent, d.name)
	file := &filePart{}
	switch x := p.(type) {
	case *dirPart:
		return refusal{codeKind}
	case *filePart:
		file = x
	}
	if d.call.At+len(d.call.Data) > TreeMaxData {
		return refusal{codeTooMuch}
	}
	if !there {
		d.parent.put(d.name, file)
	}
	file.write(d.call.At, d.call.Data)
	return nil
}

func (d deed) truncate() error {
	p, _ := kidOf(d.parent, d.name)
	switch x := p.(type) {
	case *dirPart:
		return refusal{codeKind}
	case *filePart:
		x.resize(d.call.At)
		return nil
	}
	return refusal{codeMissing}
}

func (d deed) remove() error {
	p, there := kidOf(d.parent, d.name)
	if !there {
		return refusal{codeMissing}
	}
	switch x := p.(type) {
	case *dirPart:
		if len(x.names) > 0 {
			return refusal{codeThere}
		}
	}
	d.parent.drop(d.name)
	return nil
}

func (d deed) rename() error {
	p, there := kidOf(d.parent, d.name)
	if !there {
		return refusal{codeMissing}
	}
	if beginsWith(d.call.To, d.call.Path) {
		return refusal{codeWithin}
	}
	parent, name, err := parentOf(d.root, d.call.To)
	if err != nil {
		return err
	}
	_, taken := kidOf(parent, name)
	if taken {
		return refusal{codeThere}
	}
	d.parent.drop(d.name)
	parent.put(name, p)
	return nil
}

func (d deed) chmod() error {
	p, there := kidOf(d.parent, d.name)
	if !there {
		return refusal{codeMissing}
	}
	p.setMode(d.call.At)
	return nil
}

// beginsWith says whether a path is at or below another one.
func beginsWith(path []string, start []string) bool {
	return len(path) >= len(start) && slices.Equal(path[:len(start)], start)
}

// clone is a directory with all below it, in memory of its own.
func (d *dirPart) clone() *dirPart {
	next := &dirPart{mode: d.mode, names: copyNames(d.names)}
	for _, kid := range d.kids {
		next.kids = append(next.kids, cloneOf(kid))
	}
	return next
}

func cloneOf(p part) part {
	switch x := p.(type) {
	case *filePart:
		return &filePart{mode: x.mode, data: x.data}
	case *dirPart:
		return x.clone()
	}
	return nil
}

// drop takes away a name that the directory has.
func (d *dirPart) drop(name string) {
	at, _ := slices.BinarySearch(d.names, name)
	d.names = slices.Delete(d.names, at, at+1)
	d.kids = slices.Delete(d.kids, at, at+1)
}

// resize cuts a file, or puts bytes 0 behind it.
func (f *filePart) resize(size int) {
	if size <= len(f.data) {
		f.data = f.data[:size]
		return
	}
	f.data += strings.Repeat("\x00", size-len(f.data))
}

// write fills up to the first byte also if there is nothing to write.
func (f *filePart) write(at int, data string) {
	if len(f.data) < at {
		f.resize(at)
	}
	behind := min(at+len(data), len(f.data))
	f.data = f.data[:at] + data + f.data[behind:]
}

func readFile(t Tree, path []string, at int, n int) (string, error) {
	root, ok := rootOf(t)
	if !ok {
		return "", refusal{codeNotOk}
	}
	if at < 0 || n < 0 {
		return "", refusal{codeNone}
	}
	p, there := partAt(root, path)
	if !there {
		return "", refusal{codeMissing}
	}
	switch x := p.(type) {
	case *filePart:
		return x.read(at, n), nil
	}
	return "", refusal{codeKind}
}

// read takes at and n one by one: together they may be more than a number holds.
func (f *filePart) read(at int, n int) string {
	rest := f.data[min(at, len(f.data)):]
	return rest[:min(n, len(rest))]
}

func listDir(t Tree, path []string) ([]string, error) {
	root, ok := rootOf(t)
	if !ok {
		return nil, refusal{codeNotOk}
	}
	p, there := partAt(root, path)
	if !there {
		return nil, refusal{codeMissing}
	}
	switch x := p.(type) {
	case *dirPart:
		return copyNames(x.names), nil
	}
	return nil, refusal{codeKind}
}
