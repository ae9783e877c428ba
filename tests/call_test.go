package tests

import (
	"math"
	"slices"
	"strings"
	"testing"

	"loop.example/changetrail/impl"
)

const (
	mkdir    = impl.CallMkdir
	write    = impl.CallWrite
	truncate = impl.CallTruncate
	remove   = impl.CallRemove
	rename   = impl.CallRename
	chmod    = impl.CallChmod
)

func call(kind int, path string, at int) impl.Call {
	return impl.Call{Kind: kind, Path: names(path), At: at}
}

func writing(path string, at int, data string) impl.Call {
	return impl.Call{Kind: write, Path: names(path), At: at, Data: data}
}

func renaming(path, to string) impl.Call {
	return impl.Call{Kind: rename, Path: names(path), To: names(to)}
}

// expect does a call, and asks that with a code nothing changes.
func expect(t *testing.T, what string, x impl.Tree, c impl.Call, want int) impl.Tree {
	t.Helper()
	y, code := impl.TreeDo(x, c)
	if code != want {
		t.Errorf("%s: %+v: code %d, not %d", what, c, code, want)
	}
	if !impl.TreeOk(y) || code != 0 && !same(x, y) {
		t.Errorf("%s: %+v: code %d and %v", what, c, code, y)
	}
	return y
}

// expectText does a call that is to have no code, and asks for the lines below the root then.
func expectText(t *testing.T, what string, x impl.Tree, c impl.Call, want string) {
	t.Helper()
	y := expect(t, what, x, c, 0)
	if text := impl.TreeShow(y); text != "dir / 0\n"+want {
		t.Errorf("%s: %+v: %q", what, c, text)
	}
}

func TestCallsDone(t *testing.T) {
	x := dir(0, named{"a", dir(5, named{"b", file(3, "hi")})}, named{"c", file(1, "")})
	a, b, c := "dir /a 5\n", "file /a/b 3 6869\n", "file /c 1 -\n"
	expectText(t, "mkdir", x, call(mkdir, "/b", 7), a+b+"dir /b 7\n"+c)
	expectText(t, "mkdir", x, call(mkdir, "/a/a", 0), a+"dir /a/a 0\n"+b+c)
	expectText(t, "write", x, writing("/a/b", 0, "a"), a+"file /a/b 3 6169\n"+c)
	expectText(t, "write", x, writing("/a/b", 1, "ab"), a+"file /a/b 3 686162\n"+c)
	expectText(t, "write at the end", x, writing("/a/b", 2, "!"), a+"file /a/b 3 686921\n"+c)
	expectText(t, "write behind the end", x, writing("/a/b", 4, "!"), a+"file /a/b 3 6869000021\n"+c)
	expectText(t, "write in the middle", dir(0, named{"f", file(2, "abcdef")}), writing("/f", 2, "\x00\xff"), "file /f 2 616200ff6566\n")
	expectText(t, "write a new file", x, writing("/d", 0, "x"), a+b+c+"file /d 0 78\n")
	expectText(t, "write a new file from 2 on", x, writing("/d", 2, "x"), a+b+c+"file /d 0 000078\n")
	expectText(t, "truncate", x, call(truncate, "/a/b", 1), a+"file /a/b 3 68\n"+c)
	expectText(t, "truncate to none", x, call(truncate, "/a/b", 0), a+"file /a/b 3 -\n"+c)
	expectText(t, "truncate, longer", x, call(truncate, "/a/b", 4), a+"file /a/b 3 68690000\n"+c)
	expectText(t, "remove a file", x, call(remove, "/a/b", 0), a+c)
	expectText(t, "remove a directory", dir(0, named{"a", dir(1)}), call(remove, "/a", 0), "")
	expectText(t, "rename a file", x, renaming("/a/b", "/b"), a+"file /b 3 6869\n"+c)
	expectText(t, "rename a directory", x, renaming("/a", "/z"), c+"dir /z 5\nfile /z/b 3 6869\n")
	expectText(t, "rename into another one", dir(0, named{"a", dir(5, named{"b", file(3, "hi")})}, named{"d", dir(2)}), renaming("/a", "/d/x"), "dir /d 2\ndir /d/x 5\nfile /d/x/b 3 6869\n")
	expectText(t, "rename, a name that goes on", x, renaming("/a", "/ab"), "dir /ab 5\nfile /ab/b 3 6869\n"+c)
	expectText(t, "chmod a file", x, call(chmod, "/a/b", 7), a+"file /a/b 7 6869\n"+c)
	expectText(t, "chmod a directory", x, call(chmod, "/a", 0), "dir /a 0\n"+b+c)
}

func TestWriteOfNothing(t *testing.T) {
	x := dir(0, named{"f", file(2, "ab")})
	expectText(t, "behind the end", x, writing("/f", 4, ""), "file /f 2 61620000\n")
	expectText(t, "at the end", x, writing("/f", 2, ""), "file /f 2 6162\n")
	expectText(t, "within", x, writing("/f", 1, ""), "file /f 2 6162\n")
	expectText(t, "as far as can be", x, writing("/f", 24, ""), "file /f 2 6162"+strings.Repeat("00", 22)+"\n")
	expectText(t, "a new file", x, writing("/g", 0, ""), "file /f 2 6162\nfile /g 0 -\n")
	expectText(t, "a new file, behind its end", x, writing("/g", 3, ""), "file /f 2 6162\nfile /g 0 000000\n")
}

type refused struct {
	what string
	c    impl.Call
	code int
}

// Calls that the example refuses; most would have codes further on in the order, too.
func refusedCalls() []refused {
	long := strings.Repeat("x", 25)
	return []refused{
		{"no call, no parent", call(mkdir, "/x/y", 8), 2},
		{"no call, parent a file", call(chmod, "/c/y", -1), 2},
		{"no call, too much", writing("/n", 25, long), 2},
		{"no parent, too much", writing("/x/y", 0, long), 3},
		{"parent below a file is not there", call(mkdir, "/c/y/z", 0), 3},
		{"parent a file", call(mkdir, "/c/y", 0), 4},
		{"parent a file, too much", writing("/a/b/y", 0, long), 4},
		{"parent a file, nothing there", call(truncate, "/c/y", 0), 4},
		{"parent a file, nothing there", call(remove, "/c/y", 0), 4},
		{"parent a file, nothing there", call(chmod, "/c/y", 0), 4},
		{"parent a file, within itself", renaming("/c/y", "/c/y/z"), 4},
		{"parent not there, within itself", renaming("/x/y", "/x/y"), 3},
		{"mkdir on a directory", call(mkdir, "/a", 0), 5},
		{"mkdir on a file", call(mkdir, "/c", 0), 5},
		{"write on a directory, too much", writing("/a", 0, long), 4},
		{"write, too much", writing("/c", 0, long), 6},
		{"write, too much together", writing("/c", 24, "x"), 6},
		{"truncate a directory", call(truncate, "/d", 0), 4},
		{"truncate nothing", call(truncate, "/n", 0), 3},
		{"rename nothing, within itself", renaming("/n", "/n/m"), 3},
		{"rename nothing, onto something", renaming("/n", "/a"), 3},
		{"rename onto itself", renaming("/d", "/d"), 7},
		{"rename a file onto itself", renaming("/a/b", "/a/b"), 7},
		{"rename within itself", renaming("/d", "/d/x"), 7},
		{"rename within itself, onto something", renaming("/d", "/d/e"), 7},
		{"rename within itself, no parent", renaming("/d", "/d/x/y"), 7},
		{"rename within itself, parent a file", renaming("/c", "/c/x"), 7},
		{"rename, no parent", renaming("/d", "/x/y"), 3},
		{"rename, parent below a file", renaming("/d", "/c/x/y"), 3},
		{"rename, parent a file", renaming("/d", "/c/x"), 4},
		{"rename onto a directory", renaming("/d", "/a"), 5},
		{"rename onto a file", renaming("/d", "/c"), 5},
		{"rename onto its parent", renaming("/d/e", "/d"), 5},
		{"remove nothing", call(remove, "/n", 0), 3},
		{"remove a directory that has something", call(remove, "/d", 0), 5},
		{"chmod nothing", call(chmod, "/n", 0), 3},
	}
}

func TestCodesInOrder(t *testing.T) {
	for _, k := range refusedCalls() {
		expect(t, k.what, example(), k.c, k.code)
	}
	full := deep(2, named{"e", dir(0, named{"f", dir(0)})})
	full.Names, full.Kids = append(full.Names, "m"), append(full.Kids, dir(0, named{"n", dir(0)}))
	expect(t, "rename, too deep and onto something", full, renaming("/m", "/d/d/e/f"), 5)
	expect(t, "rename, too deep", full, renaming("/m", "/d/d/e/g"), 6)
	expect(t, "rename, as deep as can be", full, renaming("/m/n", "/d/d/e/g"), 0)
}

func TestCallsThatAreNone(t *testing.T) {
	x := example()
	for _, kind := range []int{0, -1, 7, 8, math.MaxInt, math.MinInt} {
		expect(t, "kind", x, call(kind, "/n", 0), 2)
	}
	bad := [][]string{nil, {}, {""}, {"", "a"}, {"a", ""}, {"abcdef"}, {"A"}, {"."}, {".."}, {"a/b"}, {"a b"}, {"\x00"}, {"\xff"}, {"a", "b", "c", "d", "e"}, make([]string, 1000)}
	for kind := mkdir; kind <= chmod; kind++ {
		for _, path := range bad {
			expect(t, "path", x, impl.Call{Kind: kind, Path: path, To: []string{"n"}}, 2)
		}
	}
	for _, to := range bad {
		expect(t, "to", x, impl.Call{Kind: rename, Path: []string{"a"}, To: to}, 2)
	}
	for _, at := range []int{-1, 8, 24, math.MinInt, math.MaxInt} {
		expect(t, "mode", x, call(mkdir, "/n", at), 2)
		expect(t, "mode", x, call(chmod, "/a", at), 2)
	}
	for _, at := range []int{-1, 25, math.MinInt, math.MaxInt} {
		expect(t, "place", x, writing("/c", at, "x"), 2)
		expect(t, "place", x, call(truncate, "/c", at), 2)
	}
}

func TestWhatAKindDoesNotNeed(t *testing.T) {
	x := example()
	long := strings.Repeat("x", 1000)
	bad := []string{"A", "", "toolong"}
	expect(t, "remove", x, impl.Call{Kind: remove, Path: names("/c"), To: bad, At: -5, Data: long}, 0)
	expect(t, "rename", x, impl.Call{Kind: rename, Path: names("/c"), To: names("/n"), At: 99, Data: long}, 0)
	expect(t, "mkdir", x, impl.Call{Kind: mkdir, Path: names("/n"), To: bad, Data: long}, 0)
	expect(t, "chmod", x, impl.Call{Kind: chmod, Path: names("/c"), To: bad, Data: long}, 0)
	expect(t, "truncate", x, impl.Call{Kind: truncate, Path: names("/c"), To: bad, Data: long}, 0)
	expect(t, "write", x, impl.Call{Kind: write, Path: names("/c"), To: bad}, 0)
}

func TestCallLimits(t *testing.T) {
	x := example()
	expect(t, "greatest mode", x, call(mkdir, "/n", 7), 0)
	expect(t, "greatest mode", x, call(chmod, "/c", 7), 0)
	expect(t, "most data", x, writing("/c", 0, strings.Repeat("x", 24)), 0)
	expect(t, "most data together", x, writing("/c", 20, "1234"), 0)
	expect(t, "one more together", x, writing("/c", 20, "12345"), 6)
	expect(t, "last place", x, call(truncate, "/c", 24), 0)
	expect(t, "longest name", x, call(mkdir, "/abcde", 0), 0)
	expect(t, "name too long", x, call(mkdir, "/abcdef", 0), 2)

	y := deep(2, named{"d", dir(0)})
	expect(t, "longest path", y, call(mkdir, "/d/d/d/e", 0), 0)
	expect(t, "longest path", y, writing("/d/d/d/e", 0, "x"), 0)
	expect(t, "path too long", y, call(mkdir, "/d/d/d/e/f", 0), 2)

	z := expect(t, "most entries", wide(29), call(mkdir, "/n", 0), 0)
	expect(t, "most entries", wide(29), writing("/n", 0, ""), 0)
	expect(t, "one entry more", z, call(mkdir, "/m", 0), 6)
	expect(t, "one entry more below", z, call(mkdir, "/n/m", 0), 6)
	expect(t, "one file more", z, writing("/m", 0, "x"), 6)
	expect(t, "there already", z, call(mkdir, "/n", 0), 5)
	expect(t, "an old file", z, writing("/f00", 0, "x"), 0)
	expect(t, "moved", z, renaming("/f00", "/n/f"), 0)
	z = expect(t, "removed", z, call(remove, "/f00", 0), 0)
	expect(t, "room again", z, call(mkdir, "/m", 0), 0)
}

func TestCallsOnBadTrees(t *testing.T) {
	for name, x := range badTrees() {
		for kind := 0; kind <= 7; kind++ {
			y, code := impl.TreeDo(x, impl.Call{Kind: kind, Path: []string{"d"}, To: []string{"e"}})
			if code != 1 || !isNothing(y) {
				t.Errorf("%s: kind %d: code %d, %v", name, kind, code, y)
			}
		}
		if data, code := impl.TreeRead(x, []string{"d"}, -1, -1); code != 1 || data != "" {
			t.Errorf("%s: read %q %d", name, data, code)
		}
		if list, code := impl.TreeList(x, nil); code != 1 || len(list) != 0 {
			t.Errorf("%s: list %v %d", name, list, code)
		}
	}
}

func TestRead(t *testing.T) {
	x := dir(0, named{"a", dir(0, named{"b", file(0, "abc\x00\xff")})}, named{"c", file(0, "")})
	for _, k := range []struct {
		path  string
		at, n int
		want  string
		code  int
	}{
		{"/a/b", 0, 5, "abc\x00\xff", 0},
		{"/a/b", 0, 99, "abc\x00\xff", 0},
		{"/a/b", 0, 0, "", 0},
		{"/a/b", 1, 2, "bc", 0},
		{"/a/b", 4, 1, "\xff", 0},
		{"/a/b", 4, 2, "\xff", 0},
		{"/a/b", 5, 1, "", 0},
		{"/a/b", 6, 1, "", 0},
		{"/a/b", 1, math.MaxInt, "bc\x00\xff", 0},
		{"/a/b", math.MaxInt, math.MaxInt, "", 0},
		{"/a/b", math.MaxInt, 0, "", 0},
		{"/c", 0, 1, "", 0},
		{"/a/b", -1, 1, "", 2},
		{"/a/b", 0, -1, "", 2},
		{"/a/b", math.MinInt, math.MinInt, "", 2},
		{"/n", -1, 0, "", 2},
		{"/a", 0, -1, "", 2},
		{"/n", 0, 1, "", 3},
		{"/n/m", 0, 1, "", 3},
		{"/c/n", 0, 1, "", 3},
		{"/a/b/c", 0, 1, "", 3},
		{"/A", 0, 1, "", 3},
		{"/a/b/c/d/e/f", 0, 1, "", 3},
		{"/a", 0, 1, "", 4},
		{"/", 0, 1, "", 4},
	} {
		data, code := impl.TreeRead(x, names(k.path), k.at, k.n)
		if data != k.want || code != k.code {
			t.Errorf("%+v: %q %d", k, data, code)
		}
	}
}

func TestList(t *testing.T) {
	x := dir(0, named{"a", dir(0, named{"b", file(0, "x")}, named{"c", dir(0)})}, named{"f", file(0, "")})
	for _, k := range []struct {
		path string
		want []string
		code int
	}{
		{"/", []string{"a", "f"}, 0},
		{"/a", []string{"b", "c"}, 0},
		{"/a/c", nil, 0},
		{"/n", nil, 3},
		{"/f/n", nil, 3},
		{"/a/b/c", nil, 3},
		{"/a/c/b/a/e", nil, 3},
		{"/f", nil, 4},
		{"/a/b", nil, 4},
	} {
		list, code := impl.TreeList(x, names(k.path))
		if !slices.Equal(list, k.want) || code != k.code {
			t.Errorf("%+v: %v %d", k, list, code)
		}
	}
}
