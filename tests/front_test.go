package tests

import (
	"fmt"
	"math"
	"regexp"
	"slices"
	"strconv"
	"strings"
	"testing"

	"loop.example/changetrail/impl"
)

var sessionLines = []string{"write /a 0 6869", "mkdir /d 5", "rename /a /d/b", "layer", "cut 1 write /d/b 2 21", "board", "open", "read /d/b 0 9", "write /d/b 2 21", "handle /d/b", "commit", "rename /d/b /c", "readby 1 0 9", "layer", "walk", "fold"}

const sessionText = "ok\nok\nok\nnewdir /d 5\nnew /d/b 0 6869\n3 looks\ncode 10\ndown\nok\n6869\nok\n1\nok\nok\n686921\nnew /c 0 686921\ngone /d/b\n4 looks\nnew /c 0 686921\ngone /d/b\nwalked\ndir / 0\ndir /d 5\nfile /d/b 0 686921\nfolded\n"

func sameFront(a, b impl.Front) bool {
	return a.Word == b.Word && a.Event.Kind == b.Event.Kind && a.Event.Cut == b.Event.Cut && sameCall(a.Event.Call, b.Event.Call) && slices.Equal(a.Path, b.Path) && slices.Equal(a.Nums, b.Nums)
}

func noFront(f impl.Front) bool {
	return sameFront(f, impl.Front{})
}

// Parts of lines, as the document says them.
const (
	pathForm = `((?:/[a-z0-9]{1,5}){1,4})`
	rootForm = `(/|(?:/[a-z0-9]{1,5}){1,4})`
	modeForm = `([0-7])`
	sizeForm = `([0-9]|1[0-9]|2[0-4])`
	dataForm = `(-|(?:[0-9a-f]{2}){1,24})`
	numForm  = `(0|-?[1-9][0-9]{0,4})`
)

var (
	askForm    = regexp.MustCompile(`\A(board|layer|walk|sealed|fold)\z`)
	readForm   = regexp.MustCompile(`\A(read) ` + rootForm + ` ` + numForm + ` ` + numForm + `\z`)
	placeForm  = regexp.MustCompile(`\A(list|handle) ` + rootForm + `\z`)
	readByForm = regexp.MustCompile(`\A(readby) ` + numForm + ` ` + numForm + ` ` + numForm + `\z`)
	eventForm  = regexp.MustCompile(`\A(?:cut (0|[1-9][0-9]{0,4}) )?(commit|open|mkdir ` + pathForm + ` ` + modeForm + `|write ` + pathForm + ` ` + sizeForm + ` ` + dataForm + `|truncate ` + pathForm + ` ` + sizeForm + `|remove ` + pathForm + `|rename ` + pathForm + ` ` + pathForm + `|chmod ` + pathForm + ` ` + modeForm + `)\z`)
)

func numbers(texts ...string) []int {
	var out []int
	for _, text := range texts {
		n, _ := strconv.Atoi(text)
		out = append(out, n)
	}
	return out
}

// plainFront reads a line in another way than the program does.
func plainFront(line string) (impl.Front, bool) {
	if f := askForm.FindStringSubmatch(line); f != nil {
		return impl.Front{Word: f[1]}, true
	}
	if f := readForm.FindStringSubmatch(line); f != nil {
		return impl.Front{Word: f[1], Path: names(f[2]), Nums: numbers(f[3:]...)}, true
	}
	if f := placeForm.FindStringSubmatch(line); f != nil {
		return impl.Front{Word: f[1], Path: names(f[2])}, true
	}
	if f := readByForm.FindStringSubmatch(line); f != nil {
		return impl.Front{Word: f[1], Nums: numbers(f[2:]...)}, true
	}
	f := eventForm.FindStringSubmatch(line)
	if f == nil || f[1] != "" && f[2] == "open" {
		return impl.Front{}, false
	}
	e := impl.SysEvent{Kind: impl.SysCalls, Cut: -1}
	if f[1] != "" {
		e.Cut, _ = strconv.Atoi(f[1])
	}
	switch words := strings.Split(f[2], " "); words[0] {
	case "commit":
		e.Kind = impl.SysCommits
	case "open":
		e.Kind = impl.SysOpens
	case "write":
		e.Call = writing(words[1], numbers(words[2])[0], "")
		if words[3] != "-" {
			fmt.Sscanf(words[3], "%x", &e.Call.Data)
		}
	case "rename":
		e.Call = renaming(words[1], words[2])
	case "remove":
		e.Call = call(remove, words[1], 0)
	default:
		kind := map[string]int{"mkdir": mkdir, "truncate": truncate, "chmod": chmod}[words[0]]
		e.Call = call(kind, words[1], numbers(words[2])[0])
	}
	return impl.Front{Word: "do", Event: e}, true
}

// lineOf writes what a line said.
func lineOf(f impl.Front) string {
	if f.Word == "do" {
		ahead := ""
		if f.Event.Cut >= 0 {
			ahead = fmt.Sprintf("cut %d ", f.Event.Cut)
		}
		switch f.Event.Kind {
		case impl.SysCommits:
			return ahead + "commit"
		case impl.SysOpens:
			return "open"
		}
		return ahead + impl.CallText(f.Event.Call)
	}
	line := f.Word
	if f.Word == "read" || f.Word == "list" || f.Word == "handle" {
		line += " /" + strings.Join(f.Path, "/")
	}
	for _, n := range f.Nums {
		line += " " + strconv.Itoa(n)
	}
	return line
}

// checkLine reads a line, and asks for what the model reads, and that it says that in one way alone (P61).
func checkLine(t *testing.T, line string) bool {
	t.Helper()
	want, says := plainFront(line)
	f, ok := impl.FrontParse(line)
	if ok != says || !sameFront(f, want) {
		t.Errorf("%.100q: %v %+v, not %v %+v", line, ok, f, says, want)
	}
	if ok && lineOf(f) != line {
		t.Errorf("%.100q: it says %+v, which is %q", line, f, lineOf(f))
	}
	return ok
}

func TestLines(t *testing.T) {
	most := strings.Repeat("ff", 24)
	for _, k := range []struct {
		line string
		want impl.Front
	}{
		{"commit", impl.Front{Word: "do", Event: committing()}},
		{"open", impl.Front{Word: "do", Event: opening()}},
		{"cut 0 commit", impl.Front{Word: "do", Event: cutAt(0, committing())}},
		{"cut 99999 commit", impl.Front{Word: "do", Event: cutAt(99999, committing())}},
		{"mkdir /a 7", impl.Front{Word: "do", Event: calling(call(mkdir, "/a", 7))}},
		{"cut 1 mkdir /a 7", impl.Front{Word: "do", Event: cutAt(1, calling(call(mkdir, "/a", 7)))}},
		{"write /a/b 24 -", impl.Front{Word: "do", Event: calling(writing("/a/b", 24, ""))}},
		{"cut 10 write /a/b 0 " + most, impl.Front{Word: "do", Event: cutAt(10, calling(writing("/a/b", 0, strings.Repeat("\xff", 24))))}},
		{"truncate /a 0", impl.Front{Word: "do", Event: calling(call(truncate, "/a", 0))}},
		{"remove /a/b/c/d", impl.Front{Word: "do", Event: calling(call(remove, "/a/b/c/d", 0))}},
		{"cut 0 rename /a /b/c", impl.Front{Word: "do", Event: cutAt(0, calling(renaming("/a", "/b/c")))}},
		{"chmod /09az0 0", impl.Front{Word: "do", Event: calling(call(chmod, "/09az0", 0))}},
		{"board", impl.Front{Word: "board"}},
		{"layer", impl.Front{Word: "layer"}},
		{"walk", impl.Front{Word: "walk"}},
		{"sealed", impl.Front{Word: "sealed"}},
		{"fold", impl.Front{Word: "fold"}},
		{"read / 0 0", impl.Front{Word: "read", Nums: []int{0, 0}}},
		{"read /a/b -99999 99999", impl.Front{Word: "read", Path: names("/a/b"), Nums: []int{-99999, 99999}}},
		{"list /", impl.Front{Word: "list"}},
		{"list /a/b/c/d", impl.Front{Word: "list", Path: names("/a/b/c/d")}},
		{"handle /", impl.Front{Word: "handle"}},
		{"handle /a", impl.Front{Word: "handle", Path: names("/a")}},
		{"readby 1 2 3", impl.Front{Word: "readby", Nums: []int{1, 2, 3}}},
		{"readby -1 -99999 99999", impl.Front{Word: "readby", Nums: []int{-1, -99999, 99999}}},
	} {
		f, ok := impl.FrontParse(k.line)
		if !ok || !sameFront(f, k.want) || !checkLine(t, k.line) {
			t.Errorf("%q: %v %+v, not %+v", k.line, ok, f, k.want)
		}
	}
}

func TestNoLines(t *testing.T) {
	var lines []string
	for _, number := range []string{"-0", "00", "01", "+1", "100000", "-100000", "-00001", "1.0", "0x1", "", "-", "x", "1_0", "99999999999999999999", "-99999999999999999999", "١", "1\n", "\t1"} {
		lines = append(lines, "read /a "+number+" 0", "read /a 0 "+number, "readby "+number+" 0 0", "readby 0 "+number+" 0", "readby 0 0 "+number, "cut "+number+" commit", "cut "+number+" mkdir /a 0")
	}
	for _, path := range []string{"", "a", "//", "/a/", "//a", "/A", "/abcdef", "/a/b/c/d/e", "/a/b c", "/-", "..", "/\xff", "/é"} {
		lines = append(lines, "read "+path+" 0 0", "list "+path, "handle "+path)
	}
	for _, line := range append(slices.Clone(sessionLines), "sealed", "list /", "open", "cut 3 commit", "readby 1 2 3", "remove /a", "truncate /a 0", "chmod /a 0") {
		words := strings.Split(line, " ")
		lines = append(lines, line+" ", " "+line, line+"\n", "\n"+line, line+"\r", line+"\x00", line+" x", line+" 0", line+" /", strings.ToUpper(line), "do "+line, "x "+line, strings.Replace(line, " ", "\t", 1)+"\t", line+" "+line)
		lines = append(lines, strings.Join(append(slices.Clone(words[:1]), append([]string{""}, words[1:]...)...), " "), strings.Join(words, "  ")+" ", words[0]+"\x00")
		if len(words) > 1 {
			lines = append(lines, strings.Join(words[:len(words)-1], " "), strings.Join(words, "  "), strings.Join(words[1:], " "), strings.Join(words, ""), strings.Join(words, "\n"))
		}
	}
	// No call may be at the root, other than a question.
	lines = append(lines, "mkdir / 0", "write / 0 -", "truncate / 0", "remove /", "rename / /a", "rename /a /", "chmod / 0", "cut 0 remove /")
	lines = append(lines, "", " ", "  ", "\n", "do", "what", "ok", "code 1", "cut", "cut ", "cut 1", "cut 1 ", "cut -1 commit", "cut 100000 commit", "cut 1 open", "cut 0 open", "cut 1 cut 1 commit", "cut 1 cut 1 open", "cut 1 board", "cut 1 layer", "cut 1 read / 0 0", "cut 1 list /", "cut 1  commit", "cut  1 commit", "cut x commit", "cut commit", "cut commit 1", "commit cut 1", "cut 1 do", "cut 1 x",
		"open 1", "open x", "commit 1", "board /", "layer 1", "walk /", "sealed /a", "fold 0", "read", "read /", "read / 0", "read / 0 0 0", "read 0 0 /", "list", "list / /", "list 0", "handle", "handle / 0", "readby", "readby 1", "readby 1 2", "readby 1 2 3 4", "readby / 0 0",
		strings.Repeat(" ", 100000), strings.Repeat("cut 1 ", 100000), strings.Repeat("board", 100000), "list "+strings.Repeat("/a", 100000), "read / "+strings.Repeat("1", 100000)+" 0", "\xff", "board\xff", "bo\xffard")
	for _, line := range lines {
		f, ok := impl.FrontParse(line)
		if ok || !noFront(f) {
			t.Errorf("%.100q: %+v", line, f)
		}
		if len(line) < 1000 {
			checkLine(t, line)
		}
	}
	if len(lines) < 500 {
		t.Errorf("%d lines", len(lines))
	}
}

// P61: a line that was changed anywhere says another thing, or nothing.
func TestLinesTampered(t *testing.T) {
	t.Parallel()
	taken := 0
	for _, whole := range append(slices.Clone(sessionLines), "cut 99999 commit", "read / -99999 99999", "readby -1 0 10", "list /a/b/c/d", "handle /", "cut 10 rename /a/b /c", "sealed", "chmod /abcde 7", "truncate /a 24", "cut 0 remove /a", "open", "commit") {
		tamper(whole, func(line string) {
			if checkLine(t, line) {
				taken++
			}
		})
		if t.Failed() {
			return
		}
	}
	if taken < 500 {
		t.Errorf("%d taken", taken)
	}
}

// answer is a plant behind a line, and what is answered.
func (p plant) answer(line string) (plant, string) {
	f, ok := plainFront(line)
	if !ok {
		return p, "what\n"
	}
	code := 0
	out := ""
	m := p.story.seen
	switch f.Word {
	case "do":
		p, code = p.do(f.Event)
		out = "ok"
	case "board":
		return p, p.board()
	case "layer":
		if !p.up {
			return p, "0 looks\n"
		}
		return p, fmt.Sprintf("%s%d looks\n", p.story.layer(), p.story.looks())
	case "walk":
		out = "walked"
		if p.up {
			out = p.story.layer() + out
		}
	case "sealed", "fold":
		out = map[string]string{"sealed": "sealed", "fold": "folded"}[f.Word]
		if p.up {
			out = p.story.sealed.show() + out
		}
	case "handle":
		if !p.up {
			return p, "0\n"
		}
		out = fmt.Sprint(p.story.ids.ids[text(f.Path)])
	case "list":
		var list []string
		list, code = plainList(m, f.Path)
		out = strings.Join(append([]string{"names"}, list...), " ")
	case "read":
		out, code = plainReadAt(m, f.Path, f.Nums[0], f.Nums[1])
		out = dataOf(out)
	case "readby":
		code = 3
		for path, id := range p.story.ids.ids {
			if id == f.Nums[0] {
				out, code = plainReadAt(m, names(path), f.Nums[1], f.Nums[2])
			}
		}
		out = dataOf(out)
	}
	if !p.up && (f.Word == "list" || f.Word == "read" || f.Word == "readby") {
		code = 12
	}
	if code != 0 {
		out = fmt.Sprint("code ", code)
	}
	return p, out + "\n"
}

func dataOf(data string) string {
	if data == "" {
		return "-"
	}
	return fmt.Sprintf("%x", data)
}

// take takes a line, and asks for what the plant says.
func take(t *testing.T, s impl.Sys, p plant, line string) (impl.Sys, plant, string) {
	t.Helper()
	next, want := p.answer(line)
	got, answer := impl.FrontDo(s, line)
	if answer != want {
		t.Errorf("%q behind %s: %q, not %q", line, brief(s), answer, want)
	}
	if !sameSys(got, next.sys()) {
		t.Errorf("%q: %s, not %s", line, brief(got), brief(next.sys()))
	}
	// P54.
	if f, _ := impl.FrontParse(line); f.Word != "do" && !sameSys(got, s) {
		t.Errorf("%q changed %s to %s", line, brief(s), brief(got))
	}
	return got, next, answer
}

// The document's example, line by line, and as a session (P60).
func TestExampleSession(t *testing.T) {
	s, p := newSys(t, "the example", modelOf(dir(0)))
	all := ""
	for i, line := range sessionLines {
		answer := ""
		s, p, answer = take(t, s, p, line)
		checkSys(t, line, s, p)
		all += answer
		if session := impl.FrontSession(sessionLines[:i+1]); session != all {
			t.Errorf("the session up to %q: %q, not %q", line, session, all)
		}
		if !impl.SysSafe(s) {
			t.Errorf("not safe behind %q", line)
		}
	}
	if all != sessionText || impl.FrontSession(sessionLines) != sessionText {
		t.Errorf("%q, not %q", all, sessionText)
	}
}

func TestAnswers(t *testing.T) {
	s, p := someSys(t)
	down, q := happen(t, "down", s, p, cutAt(0, committing()), 10)
	for _, k := range []struct{ line, up, down string }{
		{"board", impl.SysBoard(s), "down\n"},
		{"layer", "mode /a/b 3\ngone /c/f\nnewdir /f 0\nnew /n 0 78\n7 looks\n", "0 looks\n"},
		{"walk", "mode /a/b 3\ngone /c/f\nnewdir /f 0\nnew /n 0 78\nwalked\n", "walked\n"},
		{"sealed", "dir / 0\ndir /a 4\nfile /a/b 0 686921\ndir /c 7\ndir /c/f 0\nfile /c/f/e 0 00ff\nsealed\n", "sealed\n"},
		{"fold", "dir / 0\ndir /a 4\nfile /a/b 0 686921\ndir /c 7\ndir /c/f 0\nfile /c/f/e 0 00ff\nfolded\n", "folded\n"},
		{"read /a/b 0 9", "686921\n", "code 12\n"},
		{"read /a/b 1 1", "69\n", "code 12\n"},
		{"read /a/b 3 1", "-\n", "code 12\n"},
		{"read /a/b 99999 99999", "-\n", "code 12\n"},
		{"read /a/b 0 0", "-\n", "code 12\n"},
		{"read /a/b -1 0", "code 2\n", "code 12\n"},
		{"read /a/b 0 -99999", "code 2\n", "code 12\n"},
		{"read /zz 0 9", "code 3\n", "code 12\n"},
		{"read /zz -1 9", "code 2\n", "code 12\n"},
		{"read / 0 9", "code 4\n", "code 12\n"},
		{"list /", "names a c f n\n", "code 12\n"},
		{"list /c", "names\n", "code 12\n"},
		{"list /a", "names b\n", "code 12\n"},
		{"list /a/b", "code 4\n", "code 12\n"},
		{"list /zz", "code 3\n", "code 12\n"},
		{"handle /", "0\n", "0\n"},
		{"handle /zz", "0\n", "0\n"},
		{"handle /a/b", "2\n", "0\n"},
		{"handle /n", "7\n", "0\n"},
		{"readby 2 0 9", "686921\n", "code 12\n"},
		{"readby 7 0 9", "78\n", "code 12\n"},
		{"readby 2 -1 9", "code 2\n", "code 12\n"},
		{"readby 1 0 9", "code 4\n", "code 12\n"},
		{"readby 3 0 9", "code 3\n", "code 12\n"},
		{"readby 3 -1 -1", "code 3\n", "code 12\n"},
		{"readby 0 0 9", "code 3\n", "code 12\n"},
		{"readby -99999 0 9", "code 3\n", "code 12\n"},
		{"readby 99999 0 9", "code 3\n", "code 12\n"},
		{"commit", "ok\n", "code 12\n"},
		{"cut 0 commit", "code 10\n", "code 12\n"},
		{"cut 1 commit", "code 10\n", "code 12\n"},
		{"cut 2 commit", "ok\n", "code 12\n"},
		{"cut 99999 commit", "ok\n", "code 12\n"},
		{"cut 0 remove /zz", "code 3\n", "code 12\n"},
		{"open", "ok\n", "ok\n"},
		{"chmod /a 1", "ok\n", "code 12\n"},
		{"mkdir /a 1", "code 5\n", "code 12\n"},
		{"mkdir /a/b/x 1", "code 4\n", "code 12\n"},
		{"write /a/b 20 0001020304", "code 6\n", "code 12\n"},
		{"rename /a /a/x", "code 7\n", "code 12\n"},
		{"mkdir / 1", "what\n", "what\n"},
		{"", "what\n", "what\n"},
		{"what", "what\n", "what\n"},
		{"cut 1 open", "what\n", "what\n"},
		{"board ", "what\n", "what\n"},
	} {
		if _, _, answer := take(t, s, p, k.line); answer != k.up {
			t.Errorf("%q: %q, not %q", k.line, answer, k.up)
		}
		if _, _, answer := take(t, down, q, k.line); answer != k.down {
			t.Errorf("%q, down: %q, not %q", k.line, answer, k.down)
		}
	}
	full := storyOf(modelOf(wide(12)))
	full.ids.next = 10000
	s, p = startAt(t, "no ids", plantAt(99999, full))
	take(t, s, p, "mkdir /n 0")
	full = leaving(t, 0)
	s, p = startAt(t, "no room", plantAt(1, full))
	if _, _, answer := take(t, s, p, "cut 0 chmod /a 1"); answer != "code 9\n" {
		t.Errorf("%q", answer)
	}
	for i := range 4 {
		s, p, _ = take(t, s, p, "commit")
		if layers := len(s.State.Layers); layers != 3+i {
			t.Errorf("%d layers", layers)
		}
	}
	if _, _, answer := take(t, s, p, "cut 0 commit"); answer != "code 13\n" {
		t.Errorf("%q", answer)
	}
}

func TestSessions(t *testing.T) {
	for _, k := range []struct {
		lines []string
		want  string
	}{
		{nil, ""},
		{[]string{}, ""},
		{[]string{""}, "what\n"},
		{[]string{"", "x", " "}, "what\nwhat\nwhat\n"},
		{[]string{"board"}, "gen 1, 0 groups, 0 layers, 94 pages\ndir / 0\n"},
		{[]string{"sealed", "fold", "walk", "layer"}, "dir / 0\nsealed\ndir / 0\nfolded\nwalked\n0 looks\n"},
		{[]string{"list /", "handle /", "read / 0 0", "readby 1 0 0"}, "names\n0\ncode 4\ncode 3\n"},
		{[]string{"cut 0 commit", "commit", "mkdir /a 0", "board", "open", "board"}, "code 10\ncode 12\ncode 12\ndown\nok\ngen 1, 0 groups, 0 layers, 94 pages\ndir / 0\n"},
		{[]string{"mkdir /a 1", "board", "commit", "board"}, "ok\ngen 1, 1 groups, 0 layers, 92 pages\ndir / 0\ndir /a 1\nat /a\nok\ngen 1, 2 groups, 1 layers, 93 pages\ndir / 0\ndir /a 1\n"},
		{[]string{"commit", "commit", "commit", "commit", "commit", "commit", "commit", "board"}, "ok\nok\nok\nok\nok\nok\ncode 13\ngen 1, 6 groups, 6 layers, 94 pages\ndir / 0\n"},
	} {
		if got := impl.FrontSession(k.lines); got != k.want {
			t.Errorf("%q: %q, not %q", k.lines, got, k.want)
		}
	}
}

// line is one of any kind, most of them ones that say something.
func (r maker) line(p plant) string {
	m := p.story.seen
	path := "/" + strings.Join(r.path(m), "/")
	words := []string{"board", "layer", "walk", "sealed", "fold", "open", "commit", "list /", "handle /", "cut 0 commit", "read / 0 9"}
	number := func() int {
		return []int{-99999, -1, 0, 1, 2, 5, 24, 99999, r.IntN(30), r.IntN(p.story.ids.next + 1)}[r.IntN(10)]
	}
	switch r.IntN(9) {
	case 0:
		return words[r.IntN(len(words))]
	case 1:
		return fmt.Sprintf("read %s %d %d", path, number(), number())
	case 2:
		return []string{"list ", "handle "}[r.IntN(2)] + path
	case 3:
		return fmt.Sprintf("readby %d %d %d", number(), number(), number())
	case 4:
		line := lineOf(impl.Front{Word: "do", Event: r.event(p.opened())})
		at := r.IntN(len(line) + 1)
		return line[:at] + []string{" ", "0", "x", "/", "\n"}[r.IntN(5)] + line[at:]
	}
	if !p.up && r.IntN(2) == 0 {
		return "open"
	}
	return lineOf(impl.Front{Word: "do", Event: r.event(p)})
}

// P54, P60: a session of lines is what its lines do, one by one.
func TestMadeUpSessions(t *testing.T) {
	t.Parallel()
	r := newMaker(45)
	said := map[string]int{}
	for range 60 {
		p := plantAt(1, storyOf(modelOf(dir(0))))
		s := p.sys()
		var lines []string
		all := ""
		for range 40 {
			line := r.line(p)
			answer := ""
			s, p, answer = take(t, s, p, line)
			lines, all = append(lines, line), all+answer
			f, _ := impl.FrontParse(line)
			said[f.Word]++
			if strings.HasPrefix(answer, "code ") {
				said[strings.TrimSpace(answer)]++
			}
			if t.Failed() {
				return
			}
		}
		if got := impl.FrontSession(lines); got != all {
			t.Fatalf("%q: %q, not %q", lines, got, all)
		}
		checkSys(t, "behind a session", s, p)
		checkSees(t, "behind a session", s, p)
		if !impl.SysSafe(s) {
			t.Errorf("not safe behind %q", lines)
		}
	}
	for _, word := range []string{"do", "board", "layer", "walk", "sealed", "fold", "read", "list", "handle", "readby", "", "code 2", "code 3", "code 4", "code 5", "code 10", "code 12"} {
		if said[word] == 0 {
			t.Errorf("%q never was there: %v", word, said)
		}
	}
}

// P61: each call ends its line as CallText writes it, with a cut ahead or without.
func TestMadeUpCallLines(t *testing.T) {
	r := newMaker(46)
	for i := range 1500 {
		c := r.call(r.model(i % 31))
		c.Data = r.data(26)
		written := impl.CallText(c)
		_, less := plainCall(c)
		for _, cut := range []int{-1, 0, r.IntN(100000), 99999} {
			line := written
			if cut >= 0 {
				line = fmt.Sprintf("cut %d %s", cut, written)
			}
			f, ok := impl.FrontParse(line)
			if ok != (written != "") || ok && !sameFront(f, impl.Front{Word: "do", Event: cutAt(cut, calling(less))}) {
				t.Errorf("%q: %v %+v", line, ok, f)
			}
			checkLine(t, line)
		}
		n := r.IntN(math.MaxInt32)
		checkLine(t, fmt.Sprintf("read /a %d %d", n-math.MaxInt32/2, r.IntN(200000)-100000))
		checkLine(t, fmt.Sprintf("cut %d commit", n%200000))
	}
}
