package tests

import (
	"strings"
	"testing"

	"loop.example/changetrail/impl"
)

func TestExampleTree(t *testing.T) {
	x := example()
	if !impl.TreeOk(x) || impl.TreeCount(x) != 5 || impl.TreeShow(x) != exampleText {
		t.Fatalf("%v %d %q", impl.TreeOk(x), impl.TreeCount(x), impl.TreeShow(x))
	}
	y, ok := impl.TreeParse(exampleText)
	if !ok || !same(x, y) {
		t.Fatalf("%v %v", y, ok)
	}
}

// Trees that meet a limit just so, or that are ok in a way that is easily missed.
func okTrees() map[string]impl.Tree {
	all := make([]byte, impl.TreeMaxData)
	for i := range all {
		all[i] = byte(i * 11)
	}
	return map[string]impl.Tree{
		"root alone":         dir(0),
		"greatest mode":      dir(7, named{"a", file(7, "")}, named{"b", dir(7)}),
		"longest name":       dir(0, named{"abcde", file(0, "")}),
		"figures":            dir(0, named{"0", file(0, "")}, named{"09az", dir(0)}),
		"most data":          dir(0, named{"a", file(0, string(all))}),
		"most names, file":   deep(3, named{"f", file(0, "")}),
		"most names, dir":    deep(3, named{"f", dir(0)}),
		"most entries":       wide(30),
		"entries below dirs": dir(0, named{"a", wide(14)}, named{"b", wide(14)}),
		"beginning first":    dir(0, named{"a", dir(0, named{"z", file(0, "")})}, named{"a0", file(0, "")}, named{"aa", file(0, "")}),
		"empty, not nil":     {Dir: true, Names: []string{}, Kids: []impl.Tree{{Names: []string{}, Kids: []impl.Tree{}}}[:0]},
		"newline in data":    dir(0, named{"a", file(0, "\n \n")}),
		"invalid utf-8":      dir(0, named{"a", file(0, "\xff\xfe\x80")}),
	}
}

func TestOkTrees(t *testing.T) {
	for name, x := range okTrees() {
		text := impl.TreeShow(x)
		y, ok := impl.TreeParse(text)
		if !impl.TreeOk(x) || text == "" || !ok || !same(x, y) {
			t.Errorf("%s: %v %q %v", name, impl.TreeOk(x), text, ok)
		}
		if z, ok := impl.TreeAt(x, nil); !ok || !same(z, x) {
			t.Errorf("%s: root is %v", name, z)
		}
	}
	if n := impl.TreeCount(wide(30)); n != 30 {
		t.Errorf("count of 30: %d", n)
	}
	if n := impl.TreeCount(dir(0, named{"a", wide(14)}, named{"b", wide(14)})); n != 30 {
		t.Errorf("count below directories: %d", n)
	}
	if n := impl.TreeCount(dir(3)); n != 0 {
		t.Errorf("count of none: %d", n)
	}
}

// Trees that are not ok: one more than a limit, or of a shape that none has.
func badTrees() map[string]impl.Tree {
	endless := []impl.Tree{{Dir: true, Names: []string{"a"}}}
	endless[0].Kids = endless
	crowd, called := make([]impl.Tree, 100000), make([]string, 100000)
	for i := range crowd {
		called[i] = "a"
		crowd[i] = impl.Tree{Dir: true, Names: called, Kids: crowd}
	}
	below := func(x impl.Tree) impl.Tree { return dir(0, named{"d", dir(0, named{"x", x})}) }
	return map[string]impl.Tree{
		"nothing":              {},
		"root a file":          file(0, "a"),
		"root mode above":      dir(8),
		"root mode below 0":    dir(-1),
		"file mode above":      below(file(8, "")),
		"file mode below 0":    below(file(-1, "")),
		"dir mode above":       below(dir(8)),
		"dir mode below 0":     below(dir(-1)),
		"data too long":        below(file(0, strings.Repeat("x", 25))),
		"root with data":       {Dir: true, Data: "x"},
		"dir with data":        below(impl.Tree{Dir: true, Data: "x"}),
		"file with names":      below(impl.Tree{Names: []string{"a"}}),
		"file with kids":       below(impl.Tree{Kids: []impl.Tree{file(0, "")}}),
		"file with both":       below(impl.Tree{Names: []string{"a"}, Kids: []impl.Tree{file(0, "")}}),
		"root, more names":     {Dir: true, Names: []string{"a", "b"}, Kids: []impl.Tree{file(0, "")}},
		"root, more kids":      {Dir: true, Names: []string{"a"}, Kids: []impl.Tree{file(0, ""), file(0, "")}},
		"dir, names alone":     below(impl.Tree{Dir: true, Names: []string{"a"}}),
		"dir, kids alone":      below(impl.Tree{Dir: true, Kids: []impl.Tree{file(0, "")}}),
		"names descending":     below(dir(0, named{"b", file(0, "")}, named{"a", file(0, "")})),
		"name twice":           below(dir(0, named{"a", file(0, "")}, named{"a", file(0, "")})),
		"beginning behind":     below(dir(0, named{"ab", file(0, "")}, named{"a", file(0, "")})),
		"name empty":           below(dir(0, named{"", file(0, "")})),
		"name too long":        below(dir(0, named{"abcdef", file(0, "")})),
		"name upper case":      below(dir(0, named{"A", file(0, "")})),
		"name with slash":      below(dir(0, named{"a/b", file(0, "")})),
		"name with space":      below(dir(0, named{"a b", file(0, "")})),
		"name of dots":         below(dir(0, named{"..", file(0, "")})),
		"name behind z":        below(dir(0, named{"{", file(0, "")})),
		"name ahead of a":      below(dir(0, named{"`", file(0, "")})),
		"name behind 9":        below(dir(0, named{":", file(0, "")})),
		"name not ascii":       below(dir(0, named{"\xc3\xa4", file(0, "")})),
		"path too long, file":  deep(4, named{"f", file(0, "")}),
		"path too long, dir":   deep(4, named{"f", dir(0)}),
		"too many":             wide(31),
		"too many below":       dir(0, named{"a", wide(14)}, named{"b", wide(15)}),
		"within itself":        {Dir: true, Names: []string{"a"}, Kids: endless},
		"far too many":         {Dir: true, Names: called, Kids: crowd},
		"far too many by name": dir(0, named{"a", impl.Tree{Dir: true, Names: called, Kids: crowd}}),
	}
}

func TestBadTrees(t *testing.T) {
	for name, x := range badTrees() {
		if impl.TreeOk(x) || impl.TreeCount(x) != 0 || impl.TreeShow(x) != "" {
			t.Errorf("%s: %v %d %q", name, impl.TreeOk(x), impl.TreeCount(x), impl.TreeShow(x))
		}
		for _, path := range [][]string{nil, {"d"}, {"a"}} {
			if y, ok := impl.TreeAt(x, path); ok || !isNothing(y) {
				t.Errorf("%s: at %v: %v %v", name, path, y, ok)
			}
		}
	}
}

func TestTreeAt(t *testing.T) {
	x := example()
	for path, want := range map[string]impl.Tree{
		"/":    x,
		"/a":   dir(5, named{"b", file(0, "hi")}),
		"/a/b": file(0, "hi"),
		"/c":   file(1, ""),
		"/d/e": file(0, "\x00\xff"),
	} {
		if y, ok := impl.TreeAt(x, names(path)); !ok || !same(y, want) {
			t.Errorf("%s: %v %v", path, y, ok)
		}
	}
	none := [][]string{{"b"}, {"a", "c"}, {"c", "a"}, {"a", "b", "c"}, {""}, {"", "a"}, {"a", ""}, {"A"}, {"a/b"}, {"/a"}, {"aa"}, {"a", "b", "a", "b", "a", "b"}}
	for _, path := range none {
		if y, ok := impl.TreeAt(x, path); ok || !isNothing(y) {
			t.Errorf("%q: %v %v", path, y, ok)
		}
	}
}

func TestTextsRefused(t *testing.T) {
	longest := "/abcde/abcde/abcde/abcde"
	chain := "dir / 0\ndir /abcde 0\ndir /abcde/abcde 0\ndir /abcde/abcde/abcde 0\ndir " + longest + " 0\n"
	if _, ok := impl.TreeParse(chain); !ok {
		t.Error("the longest path is refused")
	}
	most := "dir / 0\nfile /a 7 " + strings.Repeat("0a", 24) + "\n"
	if _, ok := impl.TreeParse(most); !ok {
		t.Error("the most data are refused")
	}
	full := impl.TreeShow(wide(30))
	for _, text := range []string{
		"", "\n", " ", "dir", "dir /", "dir / ", "dir / 0", "dir / 0\r\n", " dir / 0\n", "dir  / 0\n", "dir /  0\n", "dir / 0 \n", "dir / 0 -\n", "dir / 0\n\n", "\ndir / 0\n",
		"Dir / 0\n", "file / 0 -\n", "dir / 8\n", "dir / -1\n", "dir / -0\n", "dir / 00\n", "dir / 01\n", "dir / +1\n", "dir / x\n", "dir / 99999999999999999999\n",
		"dir // 0\n", "dir  0\n", "dir /a 0\n", "dir /a 0\ndir / 0\n", "dir / 0\ndir / 0\n", "dir / 0\nfile / 0 -\n",
		"dir / 0\ndir a 0\n", "dir / 0\ndir /a/ 0\n", "dir / 0\ndir //a 0\n", "dir / 0\ndir /A 0\n", "dir / 0\ndir /abcdef 0\n", "dir / 0\ndir /a/b 0\n", "dir / 0\ndir /\x00 0\n",
		"dir / 0\ndir /b 0\ndir /a 0\n", "dir / 0\ndir /a 0\ndir /a 0\n", "dir / 0\nfile /a 0 -\nfile /a 0 -\n", "dir / 0\ndir /a 0\nfile /a 0 -\n",
		"dir / 0\ndir /a 0\ndir /b 0\nfile /a/c 0 -\n", "dir / 0\nfile /a 0 -\nfile /a/b 0 -\n", "dir / 0\ndir /a0 0\ndir /a 0\n",
		"dir / 0\nfile /a 0\n", "dir / 0\nfile /a 0 \n", "dir / 0\nfile /a 0 0\n", "dir / 0\nfile /a 0 000\n", "dir / 0\nfile /a 0 AA\n", "dir / 0\nfile /a 0 aA\n", "dir / 0\nfile /a 0 Aa\n", "dir / 0\nfile /a 0 0g\n", "dir / 0\nfile /a 0 --\n",
		"dir / 0\nfile /a 0 -00\n", "dir / 0\nfile /a 0 00 00\n", "dir / 0\nfile /a 8 -\n", "dir / 0\nfile /a 07 -\n", "dir / 0\nlink /a 0 -\n", "dir / 0\ndir /a 0",
		"dir / 0\nfile /a 7 " + strings.Repeat("0a", 25) + "\n",
		chain + "file " + longest + "/a 0 -\n", full + "file /g 0 -\n", full + "dir /f29/a 0\n",
		strings.Repeat("dir / 0\n", 100000), "dir / 0\n" + strings.Repeat(" ", 100000), "dir / 0\ndir " + strings.Repeat("/a", 100000) + " 0\n",
	} {
		if x, ok := impl.TreeParse(text); ok || !isNothing(x) {
			t.Errorf("%.80q: %v", text, x)
		}
	}
}

// A text that was changed anywhere is refused, or is just what is written of the tree that it tells.
func TestTextsTampered(t *testing.T) {
	taken := 0
	check := func(text string) {
		x, ok := impl.TreeParse(text)
		if ok {
			taken++
		}
		if ok && (!impl.TreeOk(x) || impl.TreeShow(x) != text) || !ok && !isNothing(x) {
			t.Errorf("%q: %v %q", text, ok, impl.TreeShow(x))
		}
	}
	lines := strings.SplitAfter(exampleText, "\n")
	tamper(exampleText, check)
	for i := range lines {
		for j := range lines {
			swapped := append([]string(nil), lines...)
			swapped[i], swapped[j] = swapped[j], swapped[i]
			check(strings.Join(swapped, ""))
		}
	}
	if taken == 0 {
		t.Error("none was taken")
	}
}
