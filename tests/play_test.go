package tests

import (
	"fmt"
	"math"
	"regexp"
	"slices"
	"strconv"
	"strings"
	"testing"

	"loop.example/changetrail/impl"
)

func adding(text string, cut int) impl.Step {
	return impl.Step{Text: text, Cut: cut}
}

func saving(text string, cut int) impl.Step {
	return impl.Step{Save: true, Text: text, Cut: cut}
}

// checkPlay plays steps on a disk, and asks for a store, and that the disk opens as it.
func checkPlay(t *testing.T, what string, d impl.Disk, steps []impl.Step, want impl.Store) impl.Disk {
	t.Helper()
	got, s, ok := impl.StorePlay(d, steps)
	if !ok || !sameStore(s, want) {
		t.Errorf("%s: %v %.200v, not %.200v", what, ok, s, want)
	}
	if !impl.DiskOk(got) {
		t.Errorf("%s: the disk is not ok", what)
	}
	checkOpen(t, what, got, want)
	return got
}

func TestExamplePlay(t *testing.T) {
	d := diskOf(storeOf(1, "base"))
	d = checkPlay(t, "the example", d, []impl.Step{adding("one", -1), saving("base one", 1), adding("two", -1)}, storeOf(1, "base", "one", "two"))
	want := with(blank(), map[int]string{1: "C 1 4", 2: "H 1 0 3", 3: "Done", 4: "H 1 1 3", 5: "Dtwo", 14: "base one", 104: "base"})
	if !sameDisk(d, want) {
		t.Error(unlike(d, want))
	}
}

func TestPlayOfNoSteps(t *testing.T) {
	for i, s := range someStores() {
		d := diskOf(s)
		for _, steps := range [][]impl.Step{nil, {}} {
			got := checkPlay(t, fmt.Sprint("store ", i), d, steps, s)
			if !sameDisk(got, d) {
				t.Error(unlike(got, d))
			}
		}
	}
}

// A step is done with each cut, and then a group of no bytes, which tells what the store was taken for.
func TestPlayCuts(t *testing.T) {
	s := storeOf(6, bytesOf(70), "one", "")
	d := diskOf(s)
	for _, save := range []bool{false, true} {
		for _, size := range []int{0, 1, 63, 64, 65, 400} {
			text := bytesOf(size)
			list, after, code := step(s, save, text)
			if code != 0 {
				t.Fatal(code)
			}
			for _, cut := range append([]int{math.MinInt, -2, -1, len(list) + 1, 999, math.MaxInt}, upTo(len(list))...) {
				what := fmt.Sprintf("save %v, %d bytes, cut %d", save, size, cut)
				want, done := s, list
				switch {
				case cut < 0 || cut >= len(list):
					want = after
				default:
					done = list[:cut]
				}
				got := checkPlay(t, what, d, []impl.Step{{Save: save, Text: text, Cut: cut}}, want)
				if left := impl.DiskWrite(d, done, len(done)); !sameDisk(got, left) {
					t.Errorf("%s: %s", what, unlike(got, left))
				}
				again := storeOf(want.Gen, want.Text, append(slices.Clone(want.Groups), "")...)
				checkPlay(t, what, d, []impl.Step{{Save: save, Text: text, Cut: cut}, adding("", -1)}, again)
				checkPlay(t, what, d, []impl.Step{{Save: save, Text: text, Cut: cut}, adding("", 0), adding("", 1)}, again)
			}
		}
	}
}

// upTo is the numbers from 0 to another one.
func upTo(most int) []int {
	var out []int
	for n := range most + 1 {
		out = append(out, n)
	}
	return out
}

func TestPlayRefused(t *testing.T) {
	full := storeOf(99999, "t", bytesOf(600), "")
	steps := []impl.Step{}
	for _, cut := range []int{-1, 0, 1, 99} {
		steps = append(steps, adding("", cut), adding(bytesOf(601), cut), saving("", cut), saving(bytesOf(5761), cut))
	}
	d := diskOf(full)
	if got := checkPlay(t, "all is refused", d, steps, full); !sameDisk(got, d) {
		t.Error(unlike(got, d))
	}
	s := storeOf(99998, "t", bytesOf(600))
	list := []impl.Step{adding("x", -1), adding("", -1), adding("", -1), saving(bytesOf(5761), -1), saving("u", 1), saving("u", -1), saving("v", -1), adding("w", 5)}
	checkPlay(t, "some are refused", diskOf(s), list, storeOf(99999, "u", "w"))
}

func TestPlayOnBadDisks(t *testing.T) {
	good := diskOf(storeOf(1, "base", "one"))
	disks := badDisks()
	disks["blank"], disks["used"] = blank(), used()
	disks["the head is none"] = with(good, map[int]string{1: "C 1  4"})
	disks["the text is not whole"] = with(good, map[int]string{104: "bas"})
	disks["the group is not whole"] = with(good, map[int]string{3: "Don"})
	disks["a block that is too long"] = with(good, map[int]string{last: long(65)})
	for what, d := range disks {
		// A checkpoint would mend what is wrong, if it was done.
		for _, steps := range [][]impl.Step{nil, {adding("one", -1)}, {saving("text", -1)}, {saving("text", 0)}, {saving("text", 99), adding("", -1)}} {
			got, s, ok := impl.StorePlay(d, steps)
			if ok || len(got.Blocks) != 0 || !noStore(s) {
				t.Errorf("%s: %v, %d blocks, %v", what, ok, len(got.Blocks), s)
			}
		}
	}
}

func TestManyCheckpoints(t *testing.T) {
	d := diskOf(storeOf(1, ""))
	var steps []impl.Step
	for i := range 300 {
		steps = append(steps, adding(bytesOf(i), -1), adding("", 0), saving(bytesOf(19*i), i%5), saving(bytesOf(19*i), -1))
	}
	_, s, ok := impl.StorePlay(d, steps)
	// Checkpoints with no more writes than the cut lets through are there once more.
	want := 1
	for i := range 300 {
		want++
		if (19*i+63)/64+1 <= i%5 {
			want++
		}
	}
	if !ok || s.Gen != want || s.Text != bytesOf(19*299) || len(s.Groups) != 0 || s.Next != 0 {
		t.Errorf("%v %.200v", ok, s)
	}
}

// plainHead reads a checkpoint's head by writing it again.
func plainHead(d impl.Disk) (gen int, length int) {
	for at := range 2 {
		var g, n int
		fmt.Sscanf(d.Blocks[at], "C %d %d", &g, &n)
		isHead := fmt.Sprintf("C %d %d", g, n) == d.Blocks[at]
		if isHead && g >= 1 && g <= 99999 && g%2 == at && n >= 0 && n <= areaBytes && g > gen {
			gen, length = g, n
		}
	}
	return gen, length
}

// plainJoin is what the fewest blocks have that come to so many bytes; false, if it is more, or one is empty.
func plainJoin(blocks []string, length int) (string, bool) {
	for n := range len(blocks) + 1 {
		text := strings.Join(blocks[:n], "")
		if len(text) >= length {
			return text, len(text) == length && !slices.Contains(blocks[:n], "")
		}
	}
	return "", false
}

// plainGroup is the group of a number that the log begins with, if one does.
func plainGroup(log []string, gen, number int) (string, bool) {
	if len(log) == 0 {
		return "", false
	}
	for length := range 601 {
		if log[0] != fmt.Sprintf("H %d %d %d", gen, number, length) {
			continue
		}
		pieces := (length + 62) / 63
		if pieces > len(log)-1 {
			return "", false
		}
		var bare []string
		for _, b := range log[1 : 1+pieces] {
			if len(b) < 2 || b[0] != 'D' {
				return "", false
			}
			bare = append(bare, b[1:])
		}
		text := strings.Join(bare, "")
		return text, len(text) == length
	}
	return "", false
}

var fourWords = regexp.MustCompile(`(?s)^H ([1-9][0-9]{0,4}) [^ ]+ [^ ]+$`)

// plainOpen is what StoreOpen is to answer, told in another way than the program does.
func plainOpen(d impl.Disk) (impl.Store, bool) {
	gen, length := plainHead(d)
	if gen == 0 {
		return impl.Store{}, false
	}
	area := d.Blocks[14:104]
	if gen%2 == 1 {
		area = d.Blocks[104:]
	}
	text, ok := plainJoin(area, length)
	if !ok {
		return impl.Store{}, false
	}
	var groups []string
	log := d.Blocks[2:14]
	for {
		group, ok := plainGroup(log, gen, len(groups))
		if !ok {
			break
		}
		groups, log = append(groups, group), log[plainBlocks(group):]
	}
	for _, b := range log {
		if found := fourWords.FindStringSubmatch(b); found != nil {
			if number, _ := strconv.Atoi(found[1]); number >= gen {
				return impl.Store{}, false
			}
		}
	}
	return impl.Store{Gen: gen, Text: text, Groups: groups, Next: 12 - len(log)}, true
}

// size is one at which something may go wrong, or any.
func (r maker) size(edges []int, most int) int {
	if r.IntN(3) == 0 {
		return edges[r.IntN(len(edges))]
	}
	return r.IntN(most + 1)
}

func (r maker) step() impl.Step {
	s := impl.Step{Save: r.IntN(4) == 0, Cut: -1}
	switch {
	case s.Save && r.IntN(4) == 0:
		s.Text = bytesOf(r.size(append(textSizes, 5761), 5800))
	case s.Save:
		s.Text = bytesOf(r.IntN(300))
	case r.IntN(2) == 0:
		s.Text = bytesOf(r.size(append(groupSizes, 601), 620))
	default:
		s.Text = r.data(140)
	}
	if r.IntN(2) == 0 {
		s.Cut = r.IntN(1 + (len(s.Text)+62)/63 + 2)
	}
	return s
}

// store is one without groups, often at the edge of Gen or of its text.
func (r maker) store() impl.Store {
	gens := []int{1, 1, 2, 3, 9, 10, 98, 99, 99997, 99998, 99999}
	return storeOf(gens[r.IntN(len(gens))], bytesOf(r.size(textSizes, 400)))
}

// plainPlay is a store behind a step, told by the store alone.
func plainPlay(s impl.Store, e impl.Step) impl.Store {
	after, writes := storeOf(s.Gen+1, e.Text), (len(e.Text)+63)/64+1
	ok := len(e.Text) <= areaBytes && s.Gen < 99999
	if !e.Save {
		after = storeOf(s.Gen, s.Text, append(slices.Clone(s.Groups), e.Text)...)
		writes = plainBlocks(e.Text)
		ok = len(e.Text) <= 600 && after.Next <= 12
	}
	if !ok || e.Cut >= 0 && e.Cut < writes {
		return s
	}
	return after
}

func TestMadeUpPlays(t *testing.T) {
	r := newMaker(17)
	for range 150 {
		s := r.store()
		first := diskOf(s)
		d := first
		var steps []impl.Step
		for range 25 {
			e := r.step()
			steps = append(steps, e)
			s = plainPlay(s, e)
			d = checkPlay(t, fmt.Sprintf("%.300v", e), d, []impl.Step{e}, s)
		}
		if all := checkPlay(t, "all steps", first, steps, s); !sameDisk(all, d) {
			t.Fatal(unlike(all, d))
		}
	}
}

// checkRefused asks that a step is refused only for want of room, and then changes nothing.
func checkRefused(t *testing.T, s impl.Store, e impl.Step) {
	t.Helper()
	list, next, code := step(s, e.Save, e.Text)
	want := 0
	switch {
	case e.Save && len(e.Text) > areaBytes:
		want = 4
	case e.Save && s.Gen == 99999:
		want = 5
	case !e.Save && len(e.Text) > 600:
		want = 6
	case !e.Save && s.Next+plainBlocks(e.Text) > 12:
		want = 4
	}
	if code != want || code != 0 && (len(list) != 0 || !sameStore(next, s)) {
		t.Errorf("code %d, not %d, of %.200v behind %.200v", code, want, e, s)
	}
}

// spoilt is a disk of which one block is another one; that is often one that counts.
func (r maker) spoilt(d impl.Disk) impl.Disk {
	places := []int{0, 1, 2, 3, 4, 5, 6, 7, 8, 13, 14, 15, 103, 104, 105, 193, 2 + r.IntN(12), r.IntN(194)}
	at, from := places[r.IntN(len(places))], places[r.IntN(len(places))]
	b := d.Blocks[at]
	place := r.IntN(len(b) + 1)
	words := []string{"", "D", "Dx", "H 1 0 0", "H 2 0 0", "H 2 1 1", "H 99999 0 0", "H 100000 0 0", "C 1 0", "C 2 0", "C 3 5", "C 99999 64", "C 100000 0", "H 3 x y", "H 1 0 63", "D" + bytesOf(63), bytesOf(64)}
	switch r.IntN(8) {
	case 0:
		b = b[:place]
	case 1:
		b = b[:place] + b[min(place+1, len(b)):]
	case 2:
		b = b[:place] + string([]byte{" 0123456789CHDx\n"[r.IntN(16)]}) + b[place:]
	case 3:
		b = b[:place] + string([]byte{" 0123456789CHDx\n"[r.IntN(16)]}) + b[min(place+1, len(b)):]
	case 4:
		b = d.Blocks[from]
	case 5:
		b = r.data(64)
	default:
		b = words[r.IntN(len(words))]
	}
	return with(d, map[int]string{at: b[:min(64, len(b))]})
}

// Whatever was spoilt, a disk opens as the model says; and if it does, all that is promised of a store holds from there on.
func TestSpoiltDisks(t *testing.T) {
	r := newMaker(19)
	opened, shut := 0, 0
	for range 6000 {
		d := diskOf(r.store())
		for range r.IntN(5) {
			e := r.step()
			if got, _, ok := impl.StorePlay(d, []impl.Step{e}); ok {
				d = got
			}
		}
		for range 1 + r.IntN(3) {
			d = r.spoilt(d)
		}
		s, ok := impl.StoreOpen(d)
		want, open := plainOpen(d)
		if ok != open || !sameStore(s, want) {
			t.Fatalf("%v %.200v, not %v %.200v: %q", ok, s, open, want, d.Blocks[:16])
		}
		if !ok {
			shut++
			continue
		}
		opened++
		e := r.step()
		checkRefused(t, s, e)
		if list, next, code := step(s, e.Save, e.Text); code == 0 {
			checkCuts(t, "spoilt", d, list, s, next)
		}
		checkPlay(t, "spoilt", d, []impl.Step{e}, plainPlay(s, e))
	}
	if opened < 500 || shut < 500 {
		t.Errorf("%d opened, %d did not", opened, shut)
	}
}

// Disks of blocks that have nothing to do with a store are answered, too.
func TestAnyDisks(t *testing.T) {
	r := newMaker(23)
	for range 300 {
		d := r.disk()
		for at := range r.IntN(194) {
			if r.IntN(2) == 0 {
				d.Blocks[at] = fmt.Sprintf("%c %d %d %d", "CHD"[r.IntN(3)], r.IntN(3), r.IntN(2), r.IntN(70))[:5+2*r.IntN(2)]
			}
		}
		got, ok := impl.StoreOpen(d)
		want, open := plainOpen(d)
		if ok != open || !sameStore(got, want) {
			t.Fatalf("%v %v, not %v %v: %q", ok, got, open, want, d.Blocks[:14])
		}
	}
}
