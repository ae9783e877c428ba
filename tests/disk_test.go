package tests

import (
	"fmt"
	"math"
	"slices"
	"strings"
	"testing"

	"loop.example/changetrail/impl"
)

const (
	last = impl.DiskBlocks - 1
	past = impl.DiskBlocks
)

// blank is a disk on which nothing is.
func blank() impl.Disk {
	return impl.Disk{Blocks: make([]string, impl.DiskBlocks)}
}

// used is a disk each of whose blocks has a text of its own.
func used() impl.Disk {
	d := blank()
	for i := range d.Blocks {
		d.Blocks[i] = fmt.Sprint("old ", i)
	}
	return d
}

func long(size int) string {
	return strings.Repeat("x", size)
}

// with is a disk on which blocks are others.
func with(d impl.Disk, blocks map[int]string) impl.Disk {
	out := slices.Clone(d.Blocks)
	for at, data := range blocks {
		out[at] = data
	}
	return impl.Disk{Blocks: out}
}

func sameDisk(a, b impl.Disk) bool {
	return slices.Equal(a.Blocks, b.Blocks)
}

// unlike tells the blocks in which two disks are not the same.
func unlike(got, want impl.Disk) string {
	if len(got.Blocks) != len(want.Blocks) {
		return fmt.Sprintf("%d blocks, not %d", len(got.Blocks), len(want.Blocks))
	}
	var out strings.Builder
	for at := range got.Blocks {
		if got.Blocks[at] != want.Blocks[at] {
			fmt.Fprintf(&out, "block %d is %q, not %q; ", at, got.Blocks[at], want.Blocks[at])
		}
	}
	return out.String()
}

// checkWrite writes on a disk that is blank and on one that is used, and asks that no other block changes than those told.
func checkWrite(t *testing.T, what string, list []impl.Raw, cut int, blocks map[int]string) {
	t.Helper()
	for _, d := range []impl.Disk{blank(), used()} {
		got, want := impl.DiskWrite(d, list, cut), with(d, blocks)
		if !sameDisk(got, want) || !impl.DiskOk(got) {
			t.Errorf("%s, cut %d: %s", what, cut, unlike(got, want))
		}
	}
}

func TestDiskLimits(t *testing.T) {
	if impl.DiskBlock != 64 || impl.DiskBlocks != 194 {
		t.Error(impl.DiskBlock, impl.DiskBlocks)
	}
	// A disk is two heads, the log, and two areas.
	if impl.DiskBlocks != 2+impl.DiskLog+2*impl.DiskArea {
		t.Error(impl.DiskLog, impl.DiskArea)
	}
}

func TestDiskOk(t *testing.T) {
	full := blank()
	for i := range full.Blocks {
		full.Blocks[i] = long(impl.DiskBlock)
	}
	for what, d := range map[string]impl.Disk{
		"blank":                     blank(),
		"used":                      used(),
		"each block full":           full,
		"the first block full":      with(blank(), map[int]string{0: long(impl.DiskBlock)}),
		"the last block full":       with(blank(), map[int]string{last: long(impl.DiskBlock)}),
		"bytes that are no text":    with(blank(), map[int]string{5: strings.Repeat("\xff\x00", impl.DiskBlock/2)}),
		"fewer runes than bytes":    with(blank(), map[int]string{5: strings.Repeat("\u00e9", impl.DiskBlock/2)}),
		"spare room behind the end": {Blocks: append(blank().Blocks, "spare")[:impl.DiskBlocks]},
	} {
		if !impl.DiskOk(d) {
			t.Errorf("%s: not ok", what)
		}
		if got := impl.DiskWrite(d, nil, 0); !sameDisk(got, d) {
			t.Errorf("%s: %s", what, unlike(got, d))
		}
	}
}

// badDisks is disks that are not ok.
func badDisks() map[string]impl.Disk {
	return map[string]impl.Disk{
		"nothing":                   {},
		"no blocks":                 {Blocks: []string{}},
		"no blocks, but spare room": {Blocks: blank().Blocks[:0]},
		"one block":                 {Blocks: []string{""}},
		"one block too few":         {Blocks: used().Blocks[:last]},
		"one block too many":        {Blocks: append(used().Blocks, "")},
		"twice as many":             {Blocks: append(used().Blocks, used().Blocks...)},
		"the first block too long":  with(used(), map[int]string{0: long(impl.DiskBlock + 1)}),
		"a block too long":          with(blank(), map[int]string{7: long(impl.DiskBlock + 1)}),
		"the last block too long":   with(used(), map[int]string{last: long(impl.DiskBlock + 1)}),
		"a block far too long":      with(used(), map[int]string{7: long(9999)}),
		"few runes, many bytes":     with(blank(), map[int]string{7: strings.Repeat("\u00e9", impl.DiskBlock/2+1)}),
		"every block too long":      {Blocks: slices.Repeat([]string{long(impl.DiskBlock + 1)}, impl.DiskBlocks)},
	}
}

func TestBadDisks(t *testing.T) {
	lists := [][]impl.Raw{
		nil, {}, {{At: 0, Data: "a"}},
		// What is too long would be written over.
		{{At: 0, Data: "a"}, {At: 7, Data: "b"}, {At: last, Data: "c"}},
		{{At: -1, Data: "a"}}, {{At: past, Data: "a"}}, {{At: 0, Data: long(impl.DiskBlock + 1)}},
	}
	for what, d := range badDisks() {
		if impl.DiskOk(d) {
			t.Errorf("%s: ok", what)
		}
		for i, list := range lists {
			for _, cut := range []int{math.MinInt, -1, 0, 1, 2, 3, 99, math.MaxInt} {
				if got := impl.DiskWrite(d, list, cut); len(got.Blocks) != 0 {
					t.Errorf("%s, writes %d, cut %d: %d blocks", what, i, cut, len(got.Blocks))
				}
			}
		}
	}
}

func TestCuts(t *testing.T) {
	list := []impl.Raw{{At: 3, Data: "a"}, {At: 0, Data: "b"}, {At: last, Data: "c"}, {At: 3, Data: "d"}}
	for _, k := range []struct {
		what   string
		cut    int
		blocks map[int]string
	}{
		{"far below none", math.MinInt, nil},
		{"as many below none as there are", -4, nil},
		{"below none", -1, nil},
		{"none", 0, nil},
		{"one", 1, map[int]string{3: "a"}},
		{"some", 2, map[int]string{3: "a", 0: "b"}},
		{"all but one", 3, map[int]string{3: "a", 0: "b", last: "c"}},
		{"all", 4, map[int]string{3: "d", 0: "b", last: "c"}},
		{"one more than all", 5, map[int]string{3: "d", 0: "b", last: "c"}},
		{"more than all", 999, map[int]string{3: "d", 0: "b", last: "c"}},
		{"far more than all", math.MaxInt, map[int]string{3: "d", 0: "b", last: "c"}},
	} {
		checkWrite(t, k.what, list, k.cut, k.blocks)
	}
	for _, cut := range []int{math.MinInt, -1, 0, 1, 9, math.MaxInt} {
		checkWrite(t, "no writes", nil, cut, nil)
		checkWrite(t, "an empty list", []impl.Raw{}, cut, nil)
		checkWrite(t, "writes in spare room", list[:0], cut, nil)
	}
	checkWrite(t, "one write, more in spare room", list[:1], 3, map[int]string{3: "a"})
}

func TestEachBlockIsWritten(t *testing.T) {
	for at := range impl.DiskBlocks {
		list := []impl.Raw{{At: at, Data: "a"}}
		checkWrite(t, "cut off", list, 0, nil)
		checkWrite(t, "written", list, 1, map[int]string{at: "a"})
	}
	var all []impl.Raw
	blocks := map[int]string{}
	for at := range impl.DiskBlocks {
		checkWrite(t, "up to a block", slices.Concat(all, []impl.Raw{{At: at, Data: "cut off"}}), at, blocks)
		all = append(all, impl.Raw{At: at, Data: fmt.Sprint("new ", at)})
		blocks[at] = all[at].Data
	}
	checkWrite(t, "all blocks", all, impl.DiskBlocks, blocks)
	slices.Reverse(all)
	checkWrite(t, "all blocks, from the last on", all, impl.DiskBlocks, blocks)
}

func TestOneBlockTwice(t *testing.T) {
	for _, at := range []int{0, 1, 100, last} {
		list := []impl.Raw{{At: at, Data: "a"}, {At: at, Data: "b"}}
		checkWrite(t, "ahead of both", list, 0, nil)
		checkWrite(t, "between", list, 1, map[int]string{at: "a"})
		checkWrite(t, "behind both", list, 2, map[int]string{at: "b"})
		apart := []impl.Raw{list[0], {At: 50, Data: "c"}, list[1], {At: 51, Data: ""}, list[0]}
		checkWrite(t, "behind the first", apart, 1, map[int]string{at: "a"})
		checkWrite(t, "behind another one", apart, 2, map[int]string{at: "a", 50: "c"})
		checkWrite(t, "behind the second", apart, 3, map[int]string{at: "b", 50: "c"})
		checkWrite(t, "behind an empty one", apart, 4, map[int]string{at: "b", 50: "c", 51: ""})
		checkWrite(t, "back to the first", apart, 5, map[int]string{at: "a", 50: "c", 51: ""})
	}
}

func TestEitherOrder(t *testing.T) {
	for _, k := range []struct{ a, b int }{{0, last}, {0, 1}, {1, 2}, {last - 1, last}, {14, 104}} {
		a, b := impl.Raw{At: k.a, Data: "a"}, impl.Raw{At: k.b, Data: "b"}
		both := map[int]string{k.a: "a", k.b: "b"}
		checkWrite(t, "in order", []impl.Raw{a, b}, 2, both)
		checkWrite(t, "the other way round", []impl.Raw{b, a}, 2, both)
		checkWrite(t, "in order, cut", []impl.Raw{a, b}, 1, map[int]string{k.a: "a"})
		checkWrite(t, "the other way round, cut", []impl.Raw{b, a}, 1, map[int]string{k.b: "b"})
	}
}

// noWrites is writes that are left out.
func noWrites() []impl.Raw {
	return []impl.Raw{
		{At: -1, Data: "a"}, {At: -2, Data: ""}, {At: -impl.DiskBlocks, Data: "a"}, {At: math.MinInt, Data: "a"},
		{At: past, Data: "a"}, {At: past, Data: ""}, {At: past + 1, Data: "a"}, {At: 2*impl.DiskBlocks - 1, Data: "a"}, {At: 1 << 32, Data: "a"}, {At: math.MaxInt, Data: "a"},
		{At: 0, Data: long(impl.DiskBlock + 1)}, {At: 1, Data: long(impl.DiskBlock + 1)}, {At: last, Data: long(impl.DiskBlock + 1)}, {At: 1, Data: long(9999)},
		{At: 1, Data: strings.Repeat("\u00e9", impl.DiskBlock/2+1)}, {At: 1, Data: strings.Repeat("\x00", impl.DiskBlock+1)},
		{At: -1, Data: long(impl.DiskBlock + 1)}, {At: past, Data: long(impl.DiskBlock + 1)},
	}
}

func TestWritesThatAreNone(t *testing.T) {
	for _, none := range noWrites() {
		what := fmt.Sprintf("at %d, %d bytes", none.At, len(none.Data))
		alone := []impl.Raw{none}
		for _, cut := range []int{-1, 0, 1, 2} {
			checkWrite(t, what, alone, cut, nil)
		}
		ahead := []impl.Raw{none, {At: 1, Data: "a"}, {At: 2, Data: "b"}}
		checkWrite(t, what+", ahead", ahead, 1, nil)
		checkWrite(t, what+", ahead", ahead, 2, map[int]string{1: "a"})
		checkWrite(t, what+", ahead", ahead, 3, map[int]string{1: "a", 2: "b"})
		checkWrite(t, what+", ahead", ahead, 4, map[int]string{1: "a", 2: "b"})
		between := []impl.Raw{{At: 1, Data: "a"}, none, none, {At: 1, Data: "b"}}
		checkWrite(t, what+", between", between, 1, map[int]string{1: "a"})
		checkWrite(t, what+", between", between, 2, map[int]string{1: "a"})
		checkWrite(t, what+", between", between, 3, map[int]string{1: "a"})
		checkWrite(t, what+", between", between, 4, map[int]string{1: "b"})
		checkWrite(t, what+", behind", []impl.Raw{{At: 1, Data: "a"}, none}, 2, map[int]string{1: "a"})
	}
	list := append(noWrites(), impl.Raw{At: 9, Data: "z"})
	checkWrite(t, "all that are none", list, len(list)-1, nil)
	checkWrite(t, "one behind all that are none", list, len(list), map[int]string{9: "z"})
}

func TestDataOfEachSize(t *testing.T) {
	for _, at := range []int{0, 77, last} {
		for size := range impl.DiskBlock + 1 {
			checkWrite(t, fmt.Sprint("bytes: ", size), []impl.Raw{{At: at, Data: long(size)}}, 1, map[int]string{at: long(size)})
		}
		full := with(used(), map[int]string{at: long(impl.DiskBlock)})
		for _, data := range []string{"", "a", strings.Repeat("y", impl.DiskBlock), strings.Repeat("\u00e9", impl.DiskBlock/2), "a\nb\x00\xff"} {
			got, want := impl.DiskWrite(full, []impl.Raw{{At: at, Data: data}}, 1), with(full, map[int]string{at: data})
			if !sameDisk(got, want) {
				t.Errorf("%q over a full block: %s", data, unlike(got, want))
			}
		}
	}
}

// blockBehind is what a block of a disk must be behind writes: what the last of them says, of those that count.
func blockBehind(d impl.Disk, list []impl.Raw, at int) string {
	for i := len(list) - 1; i >= 0; i-- {
		if list[i].At == at && len(list[i].Data) <= impl.DiskBlock {
			return list[i].Data
		}
	}
	return d.Blocks[at]
}

func (r maker) disk() impl.Disk {
	d := blank()
	for i := range d.Blocks {
		d.Blocks[i] = r.data(impl.DiskBlock)
	}
	return d
}

func (r maker) raws(most int) []impl.Raw {
	places := []int{-1, 0, 1, 2, 100, last - 1, last, past, r.IntN(impl.DiskBlocks)}
	out := make([]impl.Raw, r.IntN(most+1))
	for i := range out {
		out[i] = impl.Raw{At: places[r.IntN(len(places))], Data: r.data(impl.DiskBlock)}
		switch r.IntN(6) {
		case 0:
			out[i].Data = long(impl.DiskBlock + r.IntN(2))
		case 1:
			out[i].Data = ""
		}
	}
	return out
}

// otherBlocks makes writes change places, two by two, that are of different blocks.
func (r maker) otherBlocks(list []impl.Raw) []impl.Raw {
	out := slices.Clone(list)
	for range 2 * len(out) {
		i := r.IntN(len(out))
		if i > 0 && out[i].At != out[i-1].At {
			out[i], out[i-1] = out[i-1], out[i]
		}
	}
	return out
}

func TestMadeUpWrites(t *testing.T) {
	r := newMaker(13)
	for range 300 {
		d, list := r.disk(), r.raws(12)
		for cut := -1; cut <= len(list)+1; cut++ {
			done := list[:min(max(cut, 0), len(list))]
			want := blank()
			for at := range want.Blocks {
				want.Blocks[at] = blockBehind(d, done, at)
			}
			got := impl.DiskWrite(d, list, cut)
			if !sameDisk(got, want) || !impl.DiskOk(got) {
				t.Fatalf("%v, cut %d: %s", list, cut, unlike(got, want))
			}
			turned := r.otherBlocks(done)
			if got := impl.DiskWrite(d, turned, len(turned)); !sameDisk(got, want) {
				t.Fatalf("%v, as %v, cut %d: %s", list, turned, cut, unlike(got, want))
			}
			rest := impl.DiskWrite(got, list[len(done):], len(list))
			if all := impl.DiskWrite(d, list, len(list)); !sameDisk(rest, all) {
				t.Fatalf("%v, cut %d and gone on: %s", list, cut, unlike(rest, all))
			}
		}
	}
}
