package tests

import (
	"fmt"
	"math"
	"slices"
	"strings"
	"testing"

	"loop.example/changetrail/impl"
)

func sameCall(a, b impl.Call) bool {
	return a.Kind == b.Kind && slices.Equal(a.Path, b.Path) && slices.Equal(a.To, b.To) && a.At == b.At && a.Data == b.Data
}

func noCall(c impl.Call) bool {
	return sameCall(c, impl.Call{})
}

// plainCall is a call as it is written, and without what its kind does not need; the empty text, if it has none.
func plainCall(c impl.Call) (string, impl.Call) {
	if !isPlainCall(c) || c.Kind == write && len(c.Data) > 24 {
		return "", impl.Call{}
	}
	less := impl.Call{Kind: c.Kind, Path: c.Path}
	switch c.Kind {
	case remove:
		return "remove " + text(c.Path), less
	case rename:
		less.To = c.To
		return "rename " + text(c.Path) + " " + text(c.To), less
	case write:
		less.At, less.Data = c.At, c.Data
		data := fmt.Sprintf("%x", c.Data)
		if data == "" {
			data = "-"
		}
		return fmt.Sprintf("write %s %d %s", text(c.Path), c.At, data), less
	}
	less.At = c.At
	word := map[int]string{mkdir: "mkdir", truncate: "truncate", chmod: "chmod"}[c.Kind]
	return fmt.Sprintf("%s %s %d", word, text(c.Path), c.At), less
}

// checkCall writes a call and reads it again, and asks for what both do.
func checkCall(t *testing.T, what string, c impl.Call, trees ...impl.Tree) string {
	t.Helper()
	want, less := plainCall(c)
	got := impl.CallText(c)
	if got != want {
		t.Errorf("%s: %+v: written %q, not %q", what, c, got, want)
	}
	read, ok := impl.CallParse(got)
	if ok != (want != "") || !sameCall(read, less) {
		t.Errorf("%s: %+v: read %v %+v", what, c, ok, read)
	}
	for _, x := range trees {
		y, code := impl.TreeDo(x, c)
		if got == "" && (code == 0 || !same(x, y) && code != 1) {
			t.Errorf("%s: %+v: it has no text, and the code %d", what, c, code)
		}
		if got == "" {
			continue
		}
		z, again := impl.TreeDo(x, read)
		if again != code || !same(y, z) {
			t.Errorf("%s: %+v: code %d and %q, and read again %d and %q", what, c, code, impl.TreeShow(y), again, impl.TreeShow(z))
		}
	}
	return got
}

func TestCallTexts(t *testing.T) {
	most := strings.Repeat("\xff", 24)
	for _, k := range []struct {
		c    impl.Call
		want string
	}{
		{call(mkdir, "/n", 0), "mkdir /n 0"},
		{call(mkdir, "/a/n", 7), "mkdir /a/n 7"},
		{call(mkdir, "/abcde/09az0/abcde/zzzzz", 7), "mkdir /abcde/09az0/abcde/zzzzz 7"},
		{writing("/a/b", 0, "hi"), "write /a/b 0 6869"},
		{writing("/a", 24, ""), "write /a 24 -"},
		{writing("/a", 3, ""), "write /a 3 -"},
		{writing("/n", 10, "\x00\n \xff"), "write /n 10 000a20ff"},
		{writing("/n", 0, most), "write /n 0 " + strings.Repeat("ff", 24)},
		{writing("/n", 24, most), "write /n 24 " + strings.Repeat("ff", 24)},
		{call(truncate, "/a/b", 0), "truncate /a/b 0"},
		{call(truncate, "/a/b", 24), "truncate /a/b 24"},
		{call(remove, "/c", 0), "remove /c"},
		{call(remove, "/d/d/d/d", 0), "remove /d/d/d/d"},
		{renaming("/a", "/b"), "rename /a /b"},
		{renaming("/a/b/c/d", "/d/c/b/a"), "rename /a/b/c/d /d/c/b/a"},
		{renaming("/a", "/a"), "rename /a /a"},
		{call(chmod, "/a", 0), "chmod /a 0"},
		{call(chmod, "/d/e", 7), "chmod /d/e 7"},
	} {
		if got := checkCall(t, "a call", k.c, example(), other(), dir(0), impl.Tree{}); got != k.want {
			t.Errorf("%+v: %q, not %q", k.c, got, k.want)
		}
	}
}

// What a kind does not need is not written, and not read.
func TestCallTextsWithNeedlessParts(t *testing.T) {
	long, bad := strings.Repeat("x", 1000), []string{"A", "", "toolong"}
	for _, k := range []struct {
		c    impl.Call
		want string
	}{
		{impl.Call{Kind: mkdir, Path: names("/n"), To: bad, At: 3, Data: long}, "mkdir /n 3"},
		{impl.Call{Kind: write, Path: names("/c"), To: bad, At: 3, Data: "x"}, "write /c 3 78"},
		{impl.Call{Kind: truncate, Path: names("/c"), To: names("/a"), At: 3, Data: long}, "truncate /c 3"},
		{impl.Call{Kind: remove, Path: names("/c"), To: bad, At: -5, Data: long}, "remove /c"},
		{impl.Call{Kind: remove, Path: names("/c"), To: names("/n"), At: math.MaxInt, Data: "x"}, "remove /c"},
		{impl.Call{Kind: rename, Path: names("/c"), To: names("/n"), At: 99, Data: long}, "rename /c /n"},
		{impl.Call{Kind: chmod, Path: names("/c"), To: bad, At: 7, Data: long}, "chmod /c 7"},
	} {
		if got := checkCall(t, "needless parts", k.c, example()); got != k.want {
			t.Errorf("%+v: %q, not %q", k.c, got, k.want)
		}
	}
}

func TestCallsWithoutText(t *testing.T) {
	bad := append(noCalls(), writing("/a", 0, strings.Repeat("x", 25)), writing("/n", 24, strings.Repeat("x", 25)), writing("/c", 0, strings.Repeat("x", 100000)), call(mkdir, "/n", 8), call(truncate, "/c", -1), call(0, "/a", 0), call(math.MaxInt, "/a", 0), call(math.MinInt, "/a", 0))
	for _, path := range [][]string{{""}, {"a", ""}, {"a/b"}, {"a b"}, {"\x00"}, {"\xff"}, make([]string, 1000)} {
		for kind := mkdir; kind <= chmod; kind++ {
			bad = append(bad, impl.Call{Kind: kind, Path: path, To: names("/n")})
		}
		bad = append(bad, impl.Call{Kind: rename, Path: names("/a"), To: path})
	}
	for _, c := range bad {
		if got := checkCall(t, "no text", c, example(), dir(0), impl.Tree{}); got != "" {
			t.Errorf("%+v: %q", c, got)
		}
	}
}

func TestCallTextsRefused(t *testing.T) {
	for _, text := range []string{
		"", " ", "\n", "mkdir", "mkdir ", "mkdir /a", "mkdir /a ", "mkdir /a 8", "mkdir /a -1", "mkdir /a -0", "mkdir /a 00", "mkdir /a 01", "mkdir /a +1", "mkdir /a 1 ", " mkdir /a 1", "mkdir  /a 1", "mkdir /a  1", "mkdir /a 1\n", "mkdir /a 1 1", "mkdir /a 1 -",
		"mkdir / 1", "mkdir a 1", "mkdir /A 1", "mkdir /abcdef 1", "mkdir /a/ 1", "mkdir //a 1", "mkdir /a/b/c/d/e 1", "Mkdir /a 1", "mkdir\t/a 1", "mkdir /a\t1", "mkdir 1 /a", "mkdir /a x", "mkdir /a 99999999999999999999", "mkdir /a 0x1", "mkdir /a 1.0",
		"write", "write /a", "write /a 0", "write /a 0 ", "write /a 25 -", "write /a -1 -", "write /a 03 -", "write /a 0  -", "write /a 0 - ", "write /a 0 -\n", "write /a 0 0", "write /a 0 000", "write /a 0 zz", "write /a 0 AA", "write /a 0 aA", "write /a 0 Aa", "write /a 0 --", "write /a 0 00 00", "write /a - 0", "write / 0 -",
		"write /a 0 " + strings.Repeat("00", 25), "write /a 0 " + strings.Repeat("00", 100000), "write /a 3 /b", "write /a /b 3",
		"truncate", "truncate /a", "truncate /a 25", "truncate /a -1", "truncate /a 024", "truncate /a 24 -", "truncate / 0", "truncate /a 1\x00",
		"remove", "remove ", "remove /", "remove /a 1", "remove /a ", "remove /a /b", "remove /a\n", "remove a", "remove /a/b/c/d/e", "removed /a", "remove/a", "Remove /a",
		"rename", "rename /a", "rename /a ", "rename /a b", "rename a /b", "rename / /b", "rename /a /", "rename /a /b 1", "rename /a  /b", "rename /a /b ", "rename /a /B", "rename /a /a/b/c/d/e", "rename /a/b", "rename /a /b /c",
		"chmod", "chmod /a", "chmod /a 8", "chmod /a 07", "chmod /a -1", "chmod / 1", "chmod /a 1 1", "chmod 1",
		"commit", "open", "do", " /a", " /a 1", "/a", "0 /a", "1 /a 1", "hide /a", "dir /a 1", "file /a 1 -", "cut 1 remove /a", "\xff", "remove /\xff",
		strings.Repeat(" ", 100000), strings.Repeat("remove ", 100000), "remove " + strings.Repeat("/a", 100000), "mkdir /a " + strings.Repeat("1", 100000),
	} {
		if c, ok := impl.CallParse(text); ok || !noCall(c) {
			t.Errorf("%.80q: %+v", text, c)
		}
	}
}

// A text that was changed anywhere is refused, or is just what is written of the call that it tells.
func TestCallTextsTampered(t *testing.T) {
	taken := 0
	for _, whole := range []string{"mkdir /a/b 1", "write /a/b 10 21ff", "write /a 0 -", "truncate /c 24", "remove /a/b/c/d", "rename /a/b /c", "chmod /d 7"} {
		tamper(whole, func(text string) {
			c, ok := impl.CallParse(text)
			if ok {
				taken++
			}
			plain, less := plainCall(c)
			if ok && (impl.CallText(c) != text || plain != text || !sameCall(c, less)) || !ok && !noCall(c) {
				t.Errorf("%q: %v %+v", text, ok, c)
			}
		})
	}
	if taken < 300 {
		t.Errorf("%d taken", taken)
	}
}

func TestMadeUpCallTexts(t *testing.T) {
	r := newMaker(29)
	kinds, without := map[int]int{}, 0
	for i := range 2000 {
		m := r.model(i % 31)
		c := r.call(m)
		switch r.IntN(6) {
		case 0:
			c.Data = r.data(26)
		case 1:
			c.At = r.IntN(28) - 2
		case 2:
			c.Kind = r.IntN(9) - 1
		}
		if checkCall(t, "made up", c, m.tree("")) == "" {
			without++
			continue
		}
		kinds[c.Kind]++
	}
	if len(kinds) != 6 || without < 100 {
		t.Errorf("kinds %v, %d without a text", kinds, without)
	}
}
