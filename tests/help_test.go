package tests

import (
	"fmt"
	"strings"

	"loop.example/changetrail/impl"
)

const exampleText = "dir / 0\ndir /a 5\nfile /a/b 0 6869\nfile /c 1 -\ndir /d 0\nfile /d/e 0 00ff\n"

type named struct {
	name string
	tree impl.Tree
}

func dir(mode int, kids ...named) impl.Tree {
	t := impl.Tree{Dir: true, Mode: mode}
	for _, k := range kids {
		t.Names = append(t.Names, k.name)
		t.Kids = append(t.Kids, k.tree)
	}
	return t
}

func file(mode int, data string) impl.Tree {
	return impl.Tree{Mode: mode, Data: data}
}

func example() impl.Tree {
	return dir(0,
		named{"a", dir(5, named{"b", file(0, "hi")})},
		named{"c", file(1, "")},
		named{"d", dir(0, named{"e", file(0, "\x00\xff")})})
}

// names makes a path of a text: "/a/b", or "/" or "" for the root.
func names(text string) []string {
	if text == "/" || text == "" {
		return nil
	}
	return strings.Split(strings.TrimPrefix(text, "/"), "/")
}

// wide is a root with so many files, and nothing else.
func wide(count int) impl.Tree {
	t := impl.Tree{Dir: true}
	for i := range count {
		t.Names = append(t.Names, fmt.Sprintf("f%02d", i))
		t.Kids = append(t.Kids, file(0, ""))
	}
	return t
}

// deep is directories within one another, each named d, so many, and the given part in the last.
func deep(count int, last named) impl.Tree {
	if count == 0 {
		return dir(0, last)
	}
	return dir(0, named{"d", deep(count-1, last)})
}

// same holds two trees against each other; the empty list and the nil list are the same.
func same(a, b impl.Tree) bool {
	if a.Dir != b.Dir || a.Mode != b.Mode || a.Data != b.Data || len(a.Names) != len(b.Names) || len(a.Kids) != len(b.Kids) {
		return false
	}
	for i := range a.Names {
		if a.Names[i] != b.Names[i] {
			return false
		}
	}
	for i := range a.Kids {
		if !same(a.Kids[i], b.Kids[i]) {
			return false
		}
	}
	return true
}

func isNothing(t impl.Tree) bool {
	return same(t, impl.Tree{})
}

// tamper hands over a text with any one byte left out, changed or put in, and what is ahead of each place.
func tamper(text string, check func(string)) {
	for i := range len(text) {
		check(text[:i])
		check(text[:i] + text[i+1:])
		for b := range 256 {
			check(text[:i] + string([]byte{byte(b)}) + text[i+1:])
			check(text[:i] + string([]byte{byte(b)}) + text[i:])
		}
	}
}
