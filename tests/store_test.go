package tests

import (
	"fmt"
	"slices"
	"strings"
	"testing"

	"loop.example/changetrail/impl"
)

// Where things stand on a disk, as the document says it, and the greatest text of a checkpoint.
const (
	logAt     = 2
	evenArea  = 14
	oddArea   = 104
	areaBytes = 5760
)

// bytesOf is a text of so many bytes in which no piece is like another one.
func bytesOf(size int) string {
	var out strings.Builder
	for i := 0; out.Len() < size; i++ {
		fmt.Fprintf(&out, "%d,", i)
	}
	return out.String()[:size]
}

func sameStore(a, b impl.Store) bool {
	return a.Gen == b.Gen && a.Text == b.Text && a.Next == b.Next && slices.Equal(a.Groups, b.Groups)
}

func noStore(s impl.Store) bool {
	return sameStore(s, impl.Store{})
}

// storeOf is a store that is ok, if its parts are: Next is counted by hand.
func storeOf(gen int, text string, groups ...string) impl.Store {
	s := impl.Store{Gen: gen, Text: text, Groups: groups}
	for _, g := range groups {
		s.Next += plainBlocks(g)
	}
	return s
}

// plainBlocks is how many blocks a group has.
func plainBlocks(group string) int {
	blocks := 1
	for len(group) > 0 {
		group = group[min(63, len(group)):]
		blocks++
	}
	return blocks
}

// plainPieces is what is written for a text from a block on.
func plainPieces(first int, size int, ahead string, text string) []impl.Raw {
	var out []impl.Raw
	for len(text) > 0 {
		n := min(size, len(text))
		out = append(out, impl.Raw{At: first + len(out), Data: ahead + text[:n]})
		text = text[n:]
	}
	return out
}

// plainSave is what is written for a checkpoint.
func plainSave(gen int, text string) []impl.Raw {
	at, area := 0, evenArea
	if gen%2 == 1 {
		at, area = 1, oddArea
	}
	return append(plainPieces(area, 64, "", text), impl.Raw{At: at, Data: fmt.Sprintf("C %d %d", gen, len(text))})
}

// plainAppend is what is written for a group.
func plainAppend(s impl.Store, group string) []impl.Raw {
	head := fmt.Sprintf("H %d %d %d", s.Gen, len(s.Groups), len(group))
	return append(plainPieces(logAt+s.Next+1, 63, "D", group), impl.Raw{At: logAt + s.Next, Data: head})
}

// diskOf is a disk on which a store is, and nothing else.
func diskOf(s impl.Store) impl.Disk {
	d := impl.DiskWrite(blank(), plainSave(s.Gen, s.Text), 999)
	at := impl.Store{Gen: s.Gen}
	for _, g := range s.Groups {
		d = impl.DiskWrite(d, plainAppend(at, g), 999)
		at.Groups, at.Next = append(at.Groups, g), at.Next+plainBlocks(g)
	}
	return d
}

func checkOpen(t *testing.T, what string, d impl.Disk, want impl.Store) {
	t.Helper()
	was := slices.Clone(d.Blocks)
	for range 2 {
		got, ok := impl.StoreOpen(d)
		if !ok || !sameStore(got, want) {
			t.Errorf("%s: opened %v as %.200v, not %.200v", what, ok, got, want)
		}
	}
	if !slices.Equal(d.Blocks, was) {
		t.Errorf("%s: the disk was written into", what)
	}
}

func checkShut(t *testing.T, what string, d impl.Disk) {
	t.Helper()
	got, ok := impl.StoreOpen(d)
	if ok || !noStore(got) {
		t.Errorf("%s: opened %v as %.200v", what, ok, got)
	}
}

// checkBlocks asks for what may be written at all.
func checkBlocks(t *testing.T, what string, list []impl.Raw) {
	t.Helper()
	for _, w := range list {
		if w.At < 0 || w.At >= impl.DiskBlocks || len(w.Data) > impl.DiskBlock {
			t.Errorf("%s: at %d are written %d bytes", what, w.At, len(w.Data))
		}
	}
}

// checkCuts asks that a step's writes on a disk leave what was, cut ahead of the last, and all of them what the step told.
func checkCuts(t *testing.T, what string, d impl.Disk, list []impl.Raw, before, after impl.Store) {
	t.Helper()
	checkBlocks(t, what, list)
	if len(list) == 0 {
		t.Errorf("%s: nothing is written", what)
	}
	for cut := -1; cut <= len(list)+1; cut++ {
		want := before
		if cut >= len(list) {
			want = after
		}
		checkOpen(t, fmt.Sprintf("%s, cut %d", what, cut), impl.DiskWrite(d, list, cut), want)
	}
}

func TestStoreLimits(t *testing.T) {
	if impl.DiskLog != 12 || impl.DiskArea != 90 || impl.DiskMaxGen != 99999 || impl.GroupMax != 600 {
		t.Error(impl.DiskLog, impl.DiskArea, impl.DiskMaxGen, impl.GroupMax)
	}
	if impl.DiskArea*impl.DiskBlock != areaBytes || logAt+impl.DiskLog != evenArea || evenArea+impl.DiskArea != oddArea {
		t.Error("a disk is not laid out as the tests have it")
	}
}

var textSizes = []int{0, 1, 2, 63, 64, 65, 127, 128, 129, 5696, 5697, 5759, 5760}

var groupSizes = []int{0, 1, 2, 62, 63, 64, 65, 125, 126, 127, 567, 568, 599, 600}

func TestNewStores(t *testing.T) {
	for _, size := range textSizes {
		what, text := fmt.Sprint("a new store of bytes: ", size), bytesOf(size)
		list, ok := impl.StoreNew(text)
		if !ok || !slices.Equal(list, plainSave(1, text)) {
			t.Errorf("%s: %v %.300v", what, ok, list)
		}
		checkBlocks(t, what, list)
		for cut := range list {
			checkShut(t, fmt.Sprint(what, ", cut ", cut), impl.DiskWrite(blank(), list, cut))
		}
		for _, cut := range []int{len(list), len(list) + 1} {
			checkOpen(t, what, impl.DiskWrite(blank(), list, cut), storeOf(1, text))
		}
	}
	list, _ := impl.StoreNew("base")
	if fmt.Sprint(list) != "[{104 base} {1 C 1 4}]" {
		t.Error(list)
	}
	for _, size := range []int{areaBytes + 1, areaBytes + 64, 99999} {
		if list, ok := impl.StoreNew(bytesOf(size)); ok || len(list) != 0 {
			t.Errorf("a new store of %d bytes: %v, %d writes", size, ok, len(list))
		}
	}
}

func TestTextsOfAnyBytes(t *testing.T) {
	for _, text := range []string{"C 1 4", "H 1 0 3", "H 2 0 3", "D", "\x00", " ", "\n\n", strings.Repeat("\xff\x00", 70), strings.Repeat("\u00e9", 100), strings.Repeat("H 1 0 3 ", 20)} {
		s := storeOf(1, text)
		d := diskOf(s)
		checkOpen(t, text, d, s)
		list, next, code := impl.StoreAppend(s, text)
		if code != 0 || !sameStore(next, storeOf(1, text, text)) {
			t.Errorf("%q as a group: code %d, %v", text, code, next)
		}
		checkCuts(t, text, d, list, s, next)
		list, next, code = impl.StoreSave(s, text)
		if code != 0 || !sameStore(next, storeOf(2, text)) {
			t.Errorf("%q as a text: code %d, %v", text, code, next)
		}
		checkCuts(t, text, d, list, s, next)
	}
}

// someStores is stores that are ok, none of which has a full log.
func someStores() []impl.Store {
	return []impl.Store{
		storeOf(1, ""), storeOf(1, "base"), storeOf(2, "x"), storeOf(99998, bytesOf(areaBytes)), storeOf(99999, bytesOf(65)),
		storeOf(1, bytesOf(64), ""), storeOf(2, "", "one"), storeOf(99999, "", "", ""), storeOf(7, bytesOf(200), bytesOf(63), "", bytesOf(64), "z"),
		storeOf(12, bytesOf(areaBytes), bytesOf(568)), storeOf(1000, "t", "", "", "", "", "", "", "", "", "", "", ""),
	}
}

func TestAppend(t *testing.T) {
	for i, s := range someStores() {
		checkOpen(t, fmt.Sprint("store ", i), diskOf(s), s)
		for _, size := range groupSizes {
			what, group := fmt.Sprintf("store %d, a group of %d bytes", i, size), bytesOf(size)
			list, next, code := impl.StoreAppend(s, group)
			if s.Next+plainBlocks(group) > impl.DiskLog {
				if code != 4 || len(list) != 0 || !sameStore(next, s) {
					t.Errorf("%s: code %d, %.300v, %.300v", what, code, list, next)
				}
				continue
			}
			want := storeOf(s.Gen, s.Text, append(slices.Clone(s.Groups), group)...)
			if code != 0 || !slices.Equal(list, plainAppend(s, group)) || !sameStore(next, want) {
				t.Errorf("%s: code %d, %.300v, %.300v", what, code, list, next)
			}
			checkCuts(t, what, diskOf(s), list, s, want)
		}
	}
}

func TestSave(t *testing.T) {
	for i, s := range someStores() {
		for _, size := range textSizes {
			what, text := fmt.Sprintf("store %d, a text of %d bytes", i, size), bytesOf(size)
			list, next, code := impl.StoreSave(s, text)
			if s.Gen == impl.DiskMaxGen {
				if code != 5 || len(list) != 0 || !sameStore(next, s) {
					t.Errorf("%s: code %d, %.300v, %.300v", what, code, list, next)
				}
				continue
			}
			want := storeOf(s.Gen+1, text)
			if code != 0 || !slices.Equal(list, plainSave(s.Gen+1, text)) || !sameStore(next, want) {
				t.Errorf("%s: code %d, %.300v, %.300v", what, code, list, next)
			}
			checkCuts(t, what, diskOf(s), list, s, want)
		}
	}
}

func TestStoreCodes(t *testing.T) {
	full := storeOf(3, "t", bytesOf(600), "")
	last := storeOf(99999, "t", "one")
	for _, k := range []struct {
		what  string
		s     impl.Store
		save  bool
		bytes int
		code  int
	}{
		{"a group that is too long", storeOf(1, ""), false, 601, 6},
		{"a group that is far too long", storeOf(1, ""), false, 9999, 6},
		{"a group that is too long, and no room", full, false, 601, 6},
		{"a group of no bytes, and no room", full, false, 0, 4},
		{"the longest group, and no room", full, false, 600, 4},
		{"one block is left, and a byte", storeOf(3, "t", bytesOf(600)), false, 1, 4},
		{"one block is left, and none", storeOf(3, "t", bytesOf(600)), false, 0, 0},
		{"two blocks are left, and one", storeOf(3, "t", bytesOf(567)), false, 63, 0},
		{"two blocks are left, and too many bytes for one", storeOf(3, "t", bytesOf(567)), false, 64, 4},
		{"ten blocks are left", storeOf(3, "t", "", ""), false, 567, 0},
		{"ten blocks are left, and eleven are asked for", storeOf(3, "t", "", ""), false, 568, 4},
		{"the last checkpoint has groups, too", last, false, 600, 4},
		{"the last checkpoint has one more", last, false, 9, 0},
		{"a text that is too long", storeOf(1, ""), true, 5761, 4},
		{"a text that is far too long", storeOf(1, ""), true, 99999, 4},
		{"a text that is too long, and no checkpoint", last, true, 5761, 4},
		{"no checkpoint", last, true, 0, 5},
		{"no checkpoint, and the longest text", last, true, 5760, 5},
		{"the last checkpoint", storeOf(99998, ""), true, 5760, 0},
		{"a full log", full, true, 5760, 0},
	} {
		list, next, code := step(k.s, k.save, bytesOf(k.bytes))
		if code != k.code {
			t.Errorf("%s: code %d", k.what, code)
		}
		if k.code != 0 && (len(list) != 0 || !sameStore(next, k.s)) {
			t.Errorf("%s: %.300v, %.300v", k.what, list, next)
		}
	}
}

// step is StoreAppend, or StoreSave.
func step(s impl.Store, save bool, text string) ([]impl.Raw, impl.Store, int) {
	if save {
		return impl.StoreSave(s, text)
	}
	return impl.StoreAppend(s, text)
}

func badStores() map[string]impl.Store {
	return map[string]impl.Store{
		"nothing":                        {},
		"Gen is 0":                       {Text: "t"},
		"Gen is below 0":                 {Gen: -1},
		"Gen is too great":               {Gen: 100000},
		"Gen is far too great":           {Gen: 1 << 62},
		"the text is too long":           {Gen: 1, Text: bytesOf(5761)},
		"the text is far too long":       {Gen: 1, Text: bytesOf(99999)},
		"a group is too long":            {Gen: 1, Groups: []string{bytesOf(601)}, Next: 11},
		"the last group is too long":     {Gen: 1, Groups: []string{"", bytesOf(601)}, Next: 12},
		"Next is 1 without a group":      {Gen: 1, Next: 1},
		"Next is below 0":                {Gen: 1, Next: -1},
		"Next is far too great":          {Gen: 1, Next: 1 << 62},
		"Next is the log without groups": {Gen: 1, Next: 12},
		"Next counts no head":            {Gen: 1, Groups: []string{"one"}, Next: 1},
		"Next counts one too many":       {Gen: 1, Groups: []string{"one"}, Next: 3},
		"Next is 0 with a group":         {Gen: 1, Groups: []string{""}},
		"Next counts whole blocks":       {Gen: 1, Groups: []string{bytesOf(64)}, Next: 2},
		"Next counts a rest of no bytes": {Gen: 1, Groups: []string{bytesOf(63)}, Next: 3},
		"the log is too full":            {Gen: 1, Groups: []string{bytesOf(600), "x"}, Next: 13},
		"the log is too full of none":    {Gen: 1, Groups: make([]string, 13), Next: 13},
		"too many groups, Next the log":  {Gen: 1, Groups: make([]string, 13), Next: 12},
		"far too many groups":            {Gen: 1, Groups: make([]string, 9999), Next: 9999},
	}
}

func TestBadStores(t *testing.T) {
	for what, s := range badStores() {
		for _, save := range []bool{false, true} {
			for _, size := range []int{0, 1, 600, 601, 5760, 5761} {
				list, next, code := step(s, save, bytesOf(size))
				if code != 1 || len(list) != 0 || !noStore(next) {
					t.Errorf("%s, save %v, %d bytes: code %d, %.300v, %.300v", what, save, size, code, list, next)
				}
			}
		}
	}
}

func TestFullLog(t *testing.T) {
	for _, sizes := range [][]int{{0, 0, 0, 0, 0, 0, 0, 0, 0, 0, 0, 0}, {1, 1, 1, 1, 1, 1}, {63, 64, 63, 64, 0, 0}, {600, 0}, {0, 600}, {567, 0}, {567, 63}, {250, 250, 0, 0}} {
		what, s := fmt.Sprint("groups of bytes: ", sizes), storeOf(4, "text")
		d := diskOf(s)
		for _, size := range sizes {
			list, next, code := impl.StoreAppend(s, bytesOf(size))
			if code != 0 {
				t.Errorf("%s: code %d at %d", what, code, size)
				break
			}
			checkCuts(t, what, d, list, s, next)
			s, d = next, impl.DiskWrite(d, list, len(list))
		}
		room := impl.DiskLog - s.Next
		for size := range 601 {
			list, next, code := impl.StoreAppend(s, bytesOf(size))
			fits := plainBlocks(bytesOf(size)) <= room
			if fits != (code == 0) || !fits && (code != 4 || len(list) != 0 || !sameStore(next, s)) {
				t.Errorf("%s, %d blocks are left: code %d of %d bytes", what, room, code, size)
			}
		}
		list, next, code := impl.StoreSave(s, "empty again")
		if code != 0 {
			t.Errorf("%s: code %d of a checkpoint", what, code)
		}
		checkCuts(t, what, d, list, s, next)
		_, _, code = impl.StoreAppend(next, bytesOf(600))
		if code != 0 {
			t.Errorf("%s: code %d behind a checkpoint", what, code)
		}
	}
}

func TestOlderGroups(t *testing.T) {
	before := storeOf(1, "base", "one", bytesOf(100), "", "four")
	d := impl.DiskWrite(diskOf(before), plainSave(2, "base one"), 99)
	checkOpen(t, "right behind a checkpoint", d, storeOf(2, "base one"))
	s := storeOf(2, "base one")
	for _, size := range []int{3, 0, 64, 0, 100, 0} {
		list, next, code := impl.StoreAppend(s, bytesOf(size))
		if code != 0 {
			t.Fatal(code)
		}
		checkCuts(t, fmt.Sprint("over older groups: ", size), d, list, s, next)
		s, d = next, impl.DiskWrite(d, list, len(list))
	}
	list, next, _ := impl.StoreSave(s, "third")
	checkCuts(t, "a third checkpoint", d, list, s, next)
	// A group of the checkpoint 1 stands just where, and has just the number that one of the checkpoint 3 would.
	d = impl.DiskWrite(d, list, len(list))
	checkOpen(t, "an older group of the same number", with(d, map[int]string{2: "H 1 0 0", 3: "H 2 1 0"}), storeOf(3, "third"))
}

func TestTwoHeads(t *testing.T) {
	for _, k := range []struct{ gen, other int }{{1, 2}, {2, 1}, {9, 10}, {10, 9}, {10, 11}, {11, 10}, {99998, 99999}, {99999, 99998}, {2, 99999}, {99998, 3}} {
		d := impl.DiskWrite(blank(), plainSave(k.gen, "one"), 99)
		d = impl.DiskWrite(d, plainSave(k.other, "other"), 99)
		want := storeOf(k.gen, "one")
		if k.other > k.gen {
			want = storeOf(k.other, "other")
		}
		checkOpen(t, fmt.Sprint(k), d, want)
	}
	both := with(blank(), map[int]string{0: "C 2 3", 1: "C 1 4", evenArea: "two", oddArea: "base"})
	checkOpen(t, "both", both, storeOf(2, "two"))
	checkOpen(t, "the greater one's head is none", with(both, map[int]string{0: "C 2 5761"}), storeOf(1, "base"))
	checkOpen(t, "the greater one is of the other block", with(both, map[int]string{0: "C 3 3"}), storeOf(1, "base"))
	checkOpen(t, "the smaller one's text is not whole", with(both, map[int]string{oddArea: "x"}), storeOf(2, "two"))
	checkShut(t, "the greater one's text is not whole", with(both, map[int]string{evenArea: "x"}))
	checkShut(t, "the greater one's text is empty", with(both, map[int]string{evenArea: ""}))
}

func TestDisksWithoutAHead(t *testing.T) {
	for what, d := range badDisks() {
		checkShut(t, what, d)
	}
	checkShut(t, "blank", blank())
	checkShut(t, "used", used())
	good := diskOf(storeOf(1, "base", "one"))
	checkShut(t, "one block too few", impl.Disk{Blocks: good.Blocks[:last]})
	checkShut(t, "one block too many", impl.Disk{Blocks: append(slices.Clone(good.Blocks), "")})
	checkShut(t, "a block that is too long", with(good, map[int]string{last: long(65)}))
	checkShut(t, "the head in the log", with(good, map[int]string{1: "", 9: "C 1 4"}))
	for _, b := range []string{
		"", "C", "C ", "C 1", "C 1 ", "C  1 4", "C 1  4", " C 1 4", "C 1 4 ", "C 1 4\n", "\tC 1 4", "C\t1 4", "C 1 4 0", "C 1 4 x", "C 1 4 4 4",
		"C 01 4", "C 1 04", "C 001 4", "C 1 004", "C +1 4", "C 1 +4", "C -1 4", "C 1 -4", "C 1 -0", "C 0x1 4", "C 1 4.0", "C 1_1 4", "C one 4", "C 1 four", "C 1. 4",
		"c 1 4", "D 1 4", "H 1 4", "H 1 0 4", "CC 1 4", "1 4", "C1 4", "C 1,4", "C 0 4", "C 2 4", "C 100000 4", "C 100001 4", "C 1000000001 4",
		"C 18446744073709551617 4", "C 1 18446744073709551620", "C 4294967297 4", "C 1 4294967300", "C 1 5761", "C 1 10000", "C 1 99999", "C 1 5", "C 1 3", "C \u0661 4", "C 1 4\x00", "C 1 :", "C 1 /",
	} {
		checkShut(t, fmt.Sprintf("the head is %q", b), with(good, map[int]string{1: b}))
	}
	even := impl.DiskWrite(blank(), plainSave(2, "even"), 99)
	for _, b := range []string{"C 1 4", "C 3 4", "C 99999 4", "C 0 4", "C 00 4", "C 02 4", "C 100000 4", "C -2 4", "C 2  4", "C 2 4 4", "C 2 5762"} {
		checkShut(t, fmt.Sprintf("the even head is %q", b), with(even, map[int]string{0: b}))
	}
	checkShut(t, "heads in each other's block", with(blank(), map[int]string{0: "C 1 0", 1: "C 2 0"}))
	checkOpen(t, "a Gen of 0 in its block, and 1", with(blank(), map[int]string{0: "C 0 0", 1: "C 1 0"}), storeOf(1, ""))
	checkOpen(t, "a text of no bytes", with(used(), map[int]string{1: "C 1 0"}), storeOf(1, ""))
}

func TestTextBlocks(t *testing.T) {
	text := bytesOf(150)
	good := diskOf(storeOf(1, text))
	one, two, three := text[:64], text[64:128], text[128:]
	for _, k := range []struct {
		what   string
		blocks map[int]string
		want   string
	}{
		{"as it is", nil, text},
		{"more behind it", map[int]string{107: "more"}, text},
		{"the first is empty", map[int]string{104: ""}, ""},
		{"one between is empty", map[int]string{105: ""}, ""},
		{"the last is empty", map[int]string{106: ""}, ""},
		{"the first is empty, the rest one block on", map[int]string{104: "", 105: one, 106: two, 107: three}, ""},
		{"an empty one between", map[int]string{105: "", 106: two, 107: three}, ""},
		{"the first is shorter", map[int]string{104: one[:63]}, ""},
		{"the first is shorter, and the next one longer than it", map[int]string{104: one[:60], 105: one[60:64] + two[:60], 106: two[60:] + three}, text},
		{"the last is shorter", map[int]string{106: three[:21]}, ""},
		{"the last is shorter, and the rest behind it", map[int]string{106: three[:21], 107: three[21:]}, text},
		{"the last is shorter, and too much behind it", map[int]string{106: three[:21], 107: three[20:]}, ""},
		{"the last is shorter, an empty one, and the rest", map[int]string{106: three[:21], 107: "", 108: three[21:]}, ""},
		{"one byte a block would be too many blocks", map[int]string{104: one[:1]}, ""},
		{"the last is longer", map[int]string{106: three + "x"}, ""},
		{"the last is as long as can be", map[int]string{106: long(64)}, ""},
		{"it stands one block on", map[int]string{104: two, 105: three, 106: ""}, ""},
		{"other bytes", map[int]string{105: long(64)}, one + long(64) + three},
	} {
		d := with(good, k.blocks)
		if k.want == "" {
			checkShut(t, k.what, d)
		} else {
			checkOpen(t, k.what, d, storeOf(1, k.want))
		}
	}
}

// A text that needs all of an area cannot go on behind it.
func TestEndsOfAreas(t *testing.T) {
	text := bytesOf(areaBytes)
	for gen, area := range map[int]int{1: oddArea, 2: evenArea} {
		s := storeOf(gen, text)
		end := area + impl.DiskArea - 1
		checkOpen(t, "a full area", diskOf(s), s)
		checkShut(t, "one byte less", with(diskOf(s), map[int]string{end: text[5696:5759]}))
		checkShut(t, "the last block is empty", with(diskOf(s), map[int]string{end: ""}))
		checkShut(t, "one byte less in the first block", with(diskOf(s), map[int]string{area: text[1:64]}))
	}
	short := with(diskOf(storeOf(2, text)), map[int]string{evenArea: text[:63], oddArea: text[5759:]})
	checkShut(t, "the rest is in the other area", short)
	checkShut(t, "the rest is ahead of the area", with(diskOf(storeOf(2, text)), map[int]string{evenArea: "", evenArea - 1: text[:64]}))
	small := blank()
	for i := range impl.DiskArea {
		small.Blocks[oddArea+i] = "x"
	}
	checkOpen(t, "a byte a block", with(small, map[int]string{1: "C 1 90"}), storeOf(1, long(90)))
	checkShut(t, "a byte a block, and one more", with(small, map[int]string{1: "C 1 91"}))
}

// logCase is what the log has, and the groups that are there then; shut, if the disk does not open.
type logCase struct {
	what   string
	gen    int
	log    []string
	groups []string
	next   int
	shut   bool
}

func (k logCase) check(t *testing.T) {
	t.Helper()
	d := diskOf(storeOf(k.gen, "base"))
	copy(d.Blocks[logAt:evenArea], k.log)
	if len(k.log) > impl.DiskLog {
		t.Errorf("%s: the log is too long", k.what)
	}
	if k.shut {
		checkShut(t, k.what, d)
		return
	}
	checkOpen(t, k.what, d, impl.Store{Gen: k.gen, Text: "base", Groups: k.groups, Next: k.next})
}

func TestGroupBlocks(t *testing.T) {
	none := []string{}
	for _, k := range []logCase{
		{"an empty log", 1, nil, none, 0, false},
		{"one group", 1, []string{"H 1 0 3", "Done"}, []string{"one"}, 2, false},
		{"a group of no bytes", 1, []string{"H 1 0 0"}, []string{""}, 1, false},
		{"groups of no bytes", 1, []string{"H 1 0 0", "H 1 1 0", "H 1 2 0"}, []string{"", "", ""}, 3, false},
		{"a group of no bytes, and a piece behind it", 1, []string{"H 1 0 0", "Done"}, []string{""}, 1, false},
		{"a group behind one of no bytes", 1, []string{"H 1 0 0", "H 1 1 3", "Dtwo"}, []string{"", "two"}, 3, false},
		{"a number of two figures", 1, []string{"H 1 0 0", "H 1 1 0", "H 1 2 0", "H 1 3 0", "H 1 4 0", "H 1 5 0", "H 1 6 0", "H 1 7 0", "H 1 8 0", "H 1 9 0", "H 1 10 0", "H 1 11 0"}, make([]string, 12), 12, false},
		{"pieces that are not full", 1, []string{"H 1 0 64", "D" + long(62), "Dxx", "H 1 1 0"}, []string{long(64), ""}, 4, false},
		{"the first piece is the short one", 1, []string{"H 1 0 64", "Dx", "D" + long(63)}, []string{long(64)}, 3, false},
		{"a piece that looks like a head", 1, []string{"H 1 0 7", "DH 1 1 0"}, []string{"H 1 1 0"}, 2, false},
		{"the log begins with a piece", 1, []string{"Done", "H 1 0 3", "Done"}, nil, 0, true},
		{"the log begins with nothing", 1, []string{"", "H 1 0 3", "Done"}, nil, 0, true},
		{"the piece does not begin with D", 1, []string{"H 1 0 3", "done"}, nil, 0, true},
		{"the piece begins with a space", 1, []string{"H 1 0 3", " Done"}, nil, 0, true},
		{"the second piece does not begin with D", 1, []string{"H 1 0 64", "D" + long(63), "xx"}, nil, 0, true},
		{"the piece has just one byte", 1, []string{"H 1 0 3", "D", "Done"}, nil, 0, true},
		{"the second piece has just one byte", 1, []string{"H 1 0 64", "D" + long(63), "D"}, nil, 0, true},
		{"a piece of just one byte between", 1, []string{"H 1 0 64", "D", "D" + long(63), "Dx"}, nil, 0, true},
		{"the piece is missing", 1, []string{"H 1 0 3", ""}, nil, 0, true},
		{"the piece is missing, and the next group is there", 1, []string{"H 1 0 3", "H 1 1 0"}, nil, 0, true},
		{"the second piece is missing", 1, []string{"H 1 0 64", "D" + long(63), ""}, nil, 0, true},
		{"the piece is shorter", 1, []string{"H 1 0 3", "Don"}, nil, 0, true},
		{"the piece is shorter, and the rest is behind it", 1, []string{"H 1 0 3", "Don", "De"}, nil, 0, true},
		{"pieces are shorter, and the rest is behind them", 1, []string{"H 1 0 64", "D" + long(62), "Dx", "Dx"}, nil, 0, true},
		{"the piece is longer", 1, []string{"H 1 0 3", "Dones"}, nil, 0, true},
		{"the number of the second group", 1, []string{"H 1 1 3", "Done"}, nil, 0, true},
		{"one number twice", 1, []string{"H 1 0 3", "Done", "H 1 0 3", "Dtwo"}, nil, 0, true},
		{"a number is left out", 1, []string{"H 1 0 3", "Done", "H 1 2 3", "Dtwo"}, nil, 0, true},
		{"the second group is not whole", 1, []string{"H 1 0 3", "Done", "H 1 1 3", "Dtw"}, nil, 0, true},
		{"the second group is not whole, and of an older checkpoint", 2, []string{"H 2 0 3", "Done", "H 1 1 3", "Dtw"}, []string{"one"}, 2, false},
	} {
		k.check(t)
	}
}

func TestGroupHeads(t *testing.T) {
	// Heads that are none: some of them are four words all the same, and then the disk does not open.
	for _, k := range []struct {
		head string
		shut bool
	}{
		{"H 5 2 3", true}, {"H 5 00 3", true}, {"H 5 0 03", true}, {"H 5 -0 3", true}, {"H 5 0 -3", true}, {"H 5 0 +3", true}, {"H 5 0 601", true}, {"H 5 0 5761", true},
		{"H 5 0 4", true}, {"H 5 0 2", true}, {"H 5 0 18446744073709551619", true}, {"H 5 18446744073709551616 3", true}, {"H 5 0 3\n", true}, {"H 5 x y", true}, {"H 5 - -", true},
		{"H 6 0 3", true}, {"H 99999 0 3", true}, {"H 10 0 3", true}, {"H 50 0 3", true},
		{"H 4 0 3", false}, {"H 1 0 3", false}, {"H 0 0 3", false}, {"H 05 0 3", false}, {"H 00005 0 3", false}, {"H 06 0 3", false}, {"H +5 0 3", false}, {"H -5 0 3", false}, {"H 5x 0 3", false}, {"H x 0 3", false}, {"H 5. 0 3", false},
		{"H 100000 0 3", false}, {"H 100005 0 3", false}, {"H 999999 0 3", false}, {"H 18446744073709551621 0 3", false}, {"H 4294967301 0 3", false},
		{"H 5 0", false}, {"H 5 0 ", false}, {"H 5", false}, {"H 5  ", false}, {"H 5   ", false}, {"H 5  3", false}, {"H 5 0 3 3", false}, {"H 5 0 3 ", false}, {" H 5 0 3", false}, {"H  5 0 3", false}, {"H 5  0 3", false}, {"H 5 0  3", false},
		{"h 5 0 3", false}, {"C 5 0 3", false}, {"D 5 0 3", false}, {"HH 5 0 3", false}, {"H\t5 0 3", false}, {"H 5\t0 3", false}, {"", false}, {"H", false}, {"H   ", false}, {"   ", false}, {"C 5 4", false}, {"C 7 4", false},
	} {
		log := []string{k.head, "Done"}
		logCase{fmt.Sprintf("the first head is %q", k.head), 5, log, nil, 0, k.shut}.check(t)
		ahead := []string{"H 5 0 65", "D" + long(63), "Dxx"}
		logCase{fmt.Sprintf("behind a group the head is %q", k.head), 5, append(ahead, log...), []string{long(65)}, 3, k.shut}.check(t)
		far := []string{"H 5 0 3", "Done", "", "Dx", "", "old", "", "", "", "", "", k.head}
		logCase{fmt.Sprintf("in the last block of the log is %q", k.head), 5, far, []string{"one"}, 2, k.shut}.check(t)
	}
}

// A group that is too long is none, also if all its blocks are there.
func TestGroupsThatAreTooLong(t *testing.T) {
	for _, size := range []int{567, 568, 600, 601, 630, 631, 693} {
		group := bytesOf(size)
		log := []string{fmt.Sprint("H 7 0 ", size)}
		for _, w := range plainPieces(0, 63, "D", group) {
			log = append(log, w.Data)
		}
		next := len(log)
		logCase{fmt.Sprint("a whole group of bytes: ", size), 7, log, []string{group}, next, size > 600}.check(t)
		log[0] = fmt.Sprint("H 6 0 ", size)
		logCase{fmt.Sprint("a whole older group of bytes: ", size), 7, log, nil, 0, false}.check(t)
	}
}

// What is no block of the log is no group, and no head behind the groups.
func TestEndsOfTheLog(t *testing.T) {
	full := storeOf(1, "base", bytesOf(600), "")
	d := diskOf(full)
	checkOpen(t, "a head in the area behind a full log", with(d, map[int]string{14: "H 1 2 0"}), full)
	checkOpen(t, "a head ahead of the log", with(d, map[int]string{0: "H 1 0 0"}), full)
	one := storeOf(1, "base", bytesOf(600))
	checkShut(t, "the piece would be in the area", with(diskOf(one), map[int]string{13: "H 1 1 1", 14: "Dx"}))
	checkOpen(t, "the piece of an older group would be there", with(diskOf(storeOf(2, "base", bytesOf(600))), map[int]string{13: "H 1 1 1"}), storeOf(2, "base", bytesOf(600)))
	checkShut(t, "pieces would be in the area", with(diskOf(one), map[int]string{2: "H 1 0 0", 3: "H 1 1 0", 4: "H 1 2 568"}))
	checkShut(t, "a head in the log's last block", with(diskOf(storeOf(1, "base")), map[int]string{13: "H 1 0 0"}))
	checkOpen(t, "heads all over an area", with(d, map[int]string{14: "H 9 0 0", 15: "H 9 1 0", 103: "C 9 0", 193: "H 9 0 0"}), full)
}

func TestTamperedHeads(t *testing.T) {
	good := diskOf(storeOf(21, "base", "one", ""))
	for _, at := range []int{1, 2, 3, 4} {
		tamper(good.Blocks[at], func(text string) {
			d := with(good, map[int]string{at: text})
			want, open := plainOpen(d)
			got, ok := impl.StoreOpen(d)
			if ok != open || !sameStore(got, want) {
				t.Errorf("block %d is %q: %v %v, not %v %v", at, text, ok, got, open, want)
			}
		})
	}
}
