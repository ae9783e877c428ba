package tests

import (
	"fmt"
	"maps"
	"math"
	"regexp"
	"slices"
	"strings"
	"testing"

	"loop.example/changetrail/impl"
)

// desk is what is kept, told in another way than the program does: whose each page is, and all texts by their names.
type desk struct {
	owner [96]string
	texts map[string]string
}

func newDesk() desk {
	return desk{texts: map[string]string{}}
}

// with is a desk on which a text takes the first pages that nobody has.
func (d desk) with(name, text string) desk {
	d = d.without(name)
	d.texts[name] = text
	for at, left := 0, len(text); left > 0; at++ {
		if d.owner[at] == "" {
			d.owner[at] = name
			left -= 40
		}
	}
	return d
}

func (d desk) without(name string) desk {
	d.texts = maps.Clone(d.texts)
	delete(d.texts, name)
	for at, owner := range d.owner {
		if owner == name {
			d.owner[at] = ""
		}
	}
	return d
}

func (d desk) free() int {
	count := 0
	for _, owner := range d.owner {
		if owner == "" {
			count++
		}
	}
	return count
}

// pages is a desk as the program has it.
func (d desk) pages() impl.Pages {
	p := impl.Pages{Pages: make([]impl.Page, 96)}
	for at := range p.Pages {
		p.Pages[at].Next = -1
	}
	for _, name := range slices.Sorted(maps.Keys(d.texts)) {
		text := d.texts[name]
		n := impl.PageName{Name: name, First: -1, Size: len(text)}
		last := &n.First
		for at, owner := range d.owner {
			if owner != name {
				continue
			}
			piece := text[:min(40, len(text))]
			text = text[len(piece):]
			p.Pages[at] = impl.Page{Used: true, Data: piece, Next: -1}
			*last = at
			last = &p.Pages[at].Next
		}
		p.Names = append(p.Names, n)
	}
	return p
}

func (d desk) write() string {
	out := ""
	for _, name := range slices.Sorted(maps.Keys(d.texts)) {
		out += fmt.Sprintf("%s %d\n%s\n", name, len(d.texts[name]), d.texts[name])
	}
	return out + "end\n"
}

// put is the code of a text that is to be kept, and the desk then.
func (d desk) put(name, text string) (desk, int) {
	without := d.without(name)
	switch {
	case plainName.FindString(name) != name || name == "":
		return d, 2
	case len(without.texts) >= 16:
		return d, 4
	case len(text) > 3000:
		return d, 5
	case plainNeed(text) > without.free():
		return d, 6
	}
	return d.with(name, text), 0
}

func (d desk) drop(name string) (desk, int) {
	if _, there := d.texts[name]; !there {
		return d, 3
	}
	return d.without(name), 0
}

// plainNeed is how many pages a text needs.
func plainNeed(text string) int {
	count := 0
	for at := 0; at < len(text); at += 40 {
		count++
	}
	return count
}

func samePages(a, b impl.Pages) bool {
	return slices.Equal(a.Pages, b.Pages) && slices.Equal(a.Names, b.Names)
}

func noPages(p impl.Pages) bool {
	return samePages(p, impl.Pages{})
}

// checkPages asks for pages that are just those of a desk, and for all that can be asked of them.
func checkPages(t *testing.T, what string, p impl.Pages, d desk) {
	t.Helper()
	if !samePages(p, d.pages()) {
		t.Errorf("%s: %.300v, not %.300v", what, p, d.pages())
	}
	checkKeeps(t, what, p, d.texts)
}

// checkKeeps asks pages that are ok for all texts, wherever these stand.
func checkKeeps(t *testing.T, what string, p impl.Pages, texts map[string]string) {
	t.Helper()
	free := 96
	for name, text := range texts {
		free -= impl.PagesNeed(text)
		got, ok := impl.PagesGet(p, name)
		if !ok || got != text {
			t.Errorf("%s: %s is %v %.100q, not %.100q", what, name, ok, got, text)
		}
	}
	for _, name := range []string{"", "none", "A", "toolong", "\x00", "a b", "end\n"} {
		if got, ok := impl.PagesGet(p, name); texts[name] == "" && (ok || got != "") {
			t.Errorf("%s: %q is %q", what, name, got)
		}
	}
	if !impl.PagesOk(p) || impl.PagesFree(p) != free {
		t.Errorf("%s: %v, free %d, not %d", what, impl.PagesOk(p), impl.PagesFree(p), free)
	}
	written := impl.PagesWrite(p)
	if want := (desk{texts: texts}).write(); written != want {
		t.Errorf("%s: written %.300q, not %.300q", what, written, want)
	}
	read, ok := impl.PagesRead(written)
	if !ok || impl.PagesWrite(read) != written || impl.PagesFree(read) != free || !impl.PagesOk(read) {
		t.Errorf("%s: read %v %.300v", what, ok, read)
	}
	fresh := newDesk()
	for _, name := range slices.Sorted(maps.Keys(texts)) {
		fresh = fresh.with(name, texts[name])
	}
	if !samePages(read, fresh.pages()) {
		t.Errorf("%s: read as %.300v, not %.300v", what, read, fresh.pages())
	}
}

// keep keeps a text, and asks for the code, and for the pages of the desk behind that.
func keep(t *testing.T, what string, p impl.Pages, d desk, name, text string, want int) (impl.Pages, desk) {
	t.Helper()
	next, code := d.put(name, text)
	if code != want {
		t.Fatalf("%s: the model has the code %d, not %d", what, code, want)
	}
	q, code := impl.PagesPut(p, name, text)
	if code != want {
		t.Errorf("%s: code %d, not %d", what, code, want)
	}
	checkPages(t, what, q, next)
	return q, next
}

func letGo(t *testing.T, what string, p impl.Pages, d desk, name string, want int) (impl.Pages, desk) {
	t.Helper()
	next, code := d.drop(name)
	if code != want {
		t.Fatalf("%s: the model has the code %d, not %d", what, code, want)
	}
	q, code := impl.PagesDrop(p, name)
	if code != want {
		t.Errorf("%s: code %d, not %d", what, code, want)
	}
	checkPages(t, what, q, next)
	return q, next
}

func TestPageLimits(t *testing.T) {
	if impl.PageMax != 96 || impl.PageSize != 40 || impl.PageMaxNames != 16 || impl.PageMaxText != 3000 {
		t.Error("limits are not the document's")
	}
}

func TestNewPages(t *testing.T) {
	p := impl.PagesNew()
	checkPages(t, "new", p, newDesk())
	if impl.PagesWrite(p) != "end\n" || impl.PagesFree(p) != 96 || len(p.Names) != 0 {
		t.Errorf("%v", p)
	}
	for at, page := range p.Pages {
		if page != (impl.Page{Next: -1}) {
			t.Errorf("page %d is %v", at, page)
		}
	}
}

func TestNeed(t *testing.T) {
	for size, want := range map[int]int{0: 0, 1: 1, 39: 1, 40: 1, 41: 2, 80: 2, 81: 3, 2960: 74, 2961: 75, 3000: 75, 3001: 76, 4000: 100, 4001: 101, 100000: 2500} {
		if got := impl.PagesNeed(bytesOf(size)); got != want {
			t.Errorf("%d bytes need %d, not %d", size, got, want)
		}
	}
	// Bytes, not runes, and none of them is of another kind.
	if impl.PagesNeed(strings.Repeat("\xc3\xa4", 21)) != 2 || impl.PagesNeed(strings.Repeat("\xff", 40)) != 1 || impl.PagesNeed(strings.Repeat("\n", 41)) != 2 {
		t.Error("bytes are not counted alike")
	}
}

func TestKeep(t *testing.T) {
	for _, size := range []int{0, 1, 39, 40, 41, 79, 80, 81, 2999, 3000} {
		what := fmt.Sprint(size, " bytes")
		p, d := keep(t, what, impl.PagesNew(), newDesk(), "a", bytesOf(size), 0)
		p, d = keep(t, what+", another one ahead", p, d, "0", bytesOf(50), 0)
		p, d = letGo(t, what+", gone", p, d, "a", 0)
		p, d = keep(t, what+", in its place", p, d, "b", bytesOf(size)+"", 0)
		p, d = letGo(t, what+", the other one gone", p, d, "0", 0)
		letGo(t, what+", none left", p, d, "b", 0)
	}
}

// The pages by hand: those that were let go are taken first, wherever they are.
func TestFirstPages(t *testing.T) {
	p, d := keep(t, "first", impl.PagesNew(), newDesk(), "b", bytesOf(40), 0)
	p, d = keep(t, "second", p, d, "a", bytesOf(80), 0)
	p, d = keep(t, "third", p, d, "c", "x", 0)
	p, d = letGo(t, "the first one gone", p, d, "b", 0)
	p, _ = keep(t, "in two places", p, d, "d", bytesOf(41), 0)
	want := []impl.Page{{Used: true, Data: bytesOf(41)[:40], Next: 4}, {Used: true, Data: bytesOf(80)[:40], Next: 2}, {Used: true, Data: bytesOf(80)[40:], Next: -1}, {Used: true, Data: "x", Next: -1}, {Used: true, Data: bytesOf(41)[40:], Next: -1}, {Next: -1}}
	if !slices.Equal(p.Pages[:6], want) || !slices.Equal(p.Names, []impl.PageName{called("a", 1, 80), called("c", 3, 1), called("d", 0, 41)}) {
		t.Errorf("%v %v", p.Pages[:6], p.Names)
	}
}

// A text of no bytes is kept, too, and is no text that is not there.
func TestNoBytes(t *testing.T) {
	p, d := keep(t, "no bytes", impl.PagesNew(), newDesk(), "a", "", 0)
	if text, ok := impl.PagesGet(p, "a"); text != "" || !ok || impl.PagesFree(p) != 96 || p.Names[0] != (impl.PageName{Name: "a", First: -1}) {
		t.Errorf("%q %v %v", text, ok, p.Names)
	}
	p, d = keep(t, "no bytes again", p, d, "a", "", 0)
	p, d = keep(t, "some", p, d, "a", "x", 0)
	p, d = keep(t, "none again", p, d, "a", "", 0)
	p, d = letGo(t, "gone", p, d, "a", 0)
	letGo(t, "gone already", p, d, "a", 3)
}

func TestOwnPlace(t *testing.T) {
	p, d := keep(t, "one", impl.PagesNew(), newDesk(), "a", bytesOf(100), 0)
	p, d = keep(t, "two", p, d, "b", bytesOf(40), 0)
	for _, text := range []string{bytesOf(100), bytesOf(120), bytesOf(10), "", bytesOf(3000), bytesOf(80)} {
		free := impl.PagesFree(p)
		old, _ := impl.PagesGet(p, "a")
		p, d = keep(t, fmt.Sprint("its own place, ", len(text)), p, d, "a", text, 0)
		if impl.PagesFree(p) != free+impl.PagesNeed(old)-impl.PagesNeed(text) {
			t.Errorf("%d bytes for %d: %d free, that were %d", len(text), len(old), impl.PagesFree(p), free)
		}
		again, code := impl.PagesPut(p, "a", text)
		if code != 0 || !samePages(again, p) {
			t.Errorf("%d bytes, once more: code %d, %v", len(text), code, again)
		}
	}
}

func TestAllPagesUsed(t *testing.T) {
	p, d := keep(t, "most of them", impl.PagesNew(), newDesk(), "z", bytesOf(3000), 0)
	keep(t, "one byte too many", p, d, "y", bytesOf(841), 6)
	p, d = keep(t, "all", p, d, "y", bytesOf(840), 0)
	if impl.PagesFree(p) != 0 {
		t.Errorf("%d free", impl.PagesFree(p))
	}
	keep(t, "one byte", p, d, "a", "x", 6)
	keep(t, "no bytes", p, d, "a", "", 0)
	keep(t, "one page more in its own place", p, d, "y", bytesOf(841), 6)
	keep(t, "as much in its own place", p, d, "y", strings.Repeat("x", 840), 0)
	keep(t, "too long in its own place", p, d, "z", bytesOf(3001), 5)
	p, d = keep(t, "less in its own place", p, d, "y", bytesOf(800), 0)
	keep(t, "two pages", p, d, "a", bytesOf(41), 6)
	p, d = keep(t, "the last page", p, d, "a", bytesOf(40), 0)
	p, d = letGo(t, "the great one", p, d, "z", 0)
	keep(t, "all that it had, and none", p, d, "b", bytesOf(3000), 0)
	keep(t, "more than it had", p, d, "a", bytesOf(3000), 0)
	p, d = keep(t, "less than it had", p, d, "b", bytesOf(2960), 0)
	keep(t, "one page is left", p, d, "a", bytesOf(80), 0)
	keep(t, "not two", p, d, "a", bytesOf(81), 6)
}

func full(t *testing.T) (impl.Pages, desk) {
	t.Helper()
	p, d := impl.PagesNew(), newDesk()
	for i := range 16 {
		p, d = keep(t, "filling", p, d, fmt.Sprintf("n%02d", i), bytesOf(10*i), 0)
	}
	return p, d
}

func TestMostNames(t *testing.T) {
	p, d := full(t)
	for _, name := range []string{"a", "n16", "z"} {
		keep(t, "one name more", p, d, name, "x", 4)
		keep(t, "one name more of no bytes", p, d, name, "", 4)
		letGo(t, "one that is not there", p, d, name, 3)
	}
	for _, name := range []string{"n00", "n07", "n15"} {
		keep(t, "a name that is there", p, d, name, "x", 0)
		keep(t, "a name that is there, too long", p, d, name, bytesOf(3001), 5)
		q, e := letGo(t, "a name that is there, gone", p, d, name, 0)
		keep(t, "room for another one", q, e, "a", "x", 0)
	}
}

// Names that are none: what is kept is not asked for them.
func wrongNames() []string {
	return []string{"", "abcdef", "A", "aB", "a b", " a", "a ", "a\n", "\n", "\x00", "\xff", "/a", "a/b", "-", "{", "`", ":", "\xc3\xa4", strings.Repeat("a", 1000)}
}

func TestPageNames(t *testing.T) {
	p, d := keep(t, "some", impl.PagesNew(), newDesk(), "a", "x", 0)
	for _, name := range []string{"abcde", "0", "09az", "z", "end", "aa"} {
		keep(t, name, p, d, name, "y", 0)
	}
	for _, name := range wrongNames() {
		keep(t, name, p, d, name, "y", 2)
		letGo(t, name, p, d, name, 3)
	}
}

// Each is refused by more than one code; the first one is told.
func TestPageCodesInOrder(t *testing.T) {
	p, d := full(t)
	keep(t, "no name, too many, too long", p, d, "A", bytesOf(3001), 2)
	keep(t, "too many, too long", p, d, "a", bytesOf(3001), 4)
	p, d = keep(t, "a great one", p, d, "n00", bytesOf(2000), 0)
	keep(t, "too many, no room", p, d, "a", bytesOf(3000), 4)
	keep(t, "too long, no room", p, d, "n01", bytesOf(4000), 5)
	keep(t, "no room", p, d, "n01", bytesOf(3000), 6)
	bad := impl.Pages{}
	if q, code := impl.PagesPut(bad, "A", bytesOf(3001)); code != 1 || !noPages(q) {
		t.Errorf("not ok, no name: code %d", code)
	}
	if q, code := impl.PagesDrop(bad, "A"); code != 1 || !noPages(q) {
		t.Errorf("not ok, no such name: code %d", code)
	}
}

func called(name string, first, size int) impl.PageName {
	return impl.PageName{Name: name, First: first, Size: size}
}

// somePages is pages with a text of no bytes, one of one page, and one of three pages that do not stand in order.
func somePages() (impl.Pages, map[string]string) {
	texts := map[string]string{"a": "", "b": "one page", "c": bytesOf(90)}
	p := newDesk().pages()
	p.Pages[95] = impl.Page{Used: true, Data: "one page", Next: -1}
	p.Pages[7] = impl.Page{Used: true, Data: texts["c"][:40], Next: 3}
	p.Pages[3] = impl.Page{Used: true, Data: texts["c"][40:80], Next: 0}
	p.Pages[0] = impl.Page{Used: true, Data: texts["c"][80:], Next: -1}
	p.Names = []impl.PageName{called("a", -1, 0), called("b", 95, 8), called("c", 7, 90)}
	return p, texts
}

// Pages need not stand as PagesPut would place them.
func TestPagesInAnyOrder(t *testing.T) {
	p, texts := somePages()
	checkKeeps(t, "in any order", p, texts)
	q, code := impl.PagesPut(p, "d", bytesOf(100))
	texts["d"] = bytesOf(100)
	checkKeeps(t, "one more", q, texts)
	if code != 0 || q.Names[3] != (called("d", 1, 100)) || q.Pages[1].Next != 2 || q.Pages[2].Next != 4 || q.Pages[4].Next != -1 {
		t.Errorf("code %d, %v", code, q)
	}
	q, code = impl.PagesPut(p, "c", bytesOf(41))
	if code != 0 || q.Names[2] != (called("c", 0, 41)) || q.Pages[0].Next != 1 || q.Pages[3] != (impl.Page{Next: -1}) || q.Pages[7] != (impl.Page{Next: -1}) {
		t.Errorf("code %d, %v", code, q)
	}
	q, code = impl.PagesDrop(p, "c")
	delete(texts, "c")
	delete(texts, "d")
	checkKeeps(t, "one less", q, texts)
	if code != 0 || q.Pages[0] != (impl.Page{Next: -1}) || q.Pages[3] != (impl.Page{Next: -1}) || q.Pages[7] != (impl.Page{Next: -1}) {
		t.Errorf("code %d, %v", code, q)
	}
	q, code = impl.PagesPut(p, "A", "x")
	if code != 2 || !samePages(q, p) {
		t.Errorf("code %d, %v", code, q)
	}
}

// badPages is pages that are not ok, for each reason, most of them somePages but for one thing.
func badPages() map[string]impl.Pages {
	out := map[string]impl.Pages{}
	change := func(what string, do func(p *impl.Pages)) {
		p, _ := somePages()
		do(&p)
		out[what] = p
	}
	page := func(what string, at int, to impl.Page) {
		change(what, func(p *impl.Pages) { p.Pages[at] = to })
	}
	name := func(what string, at int, to impl.PageName) {
		change(what, func(p *impl.Pages) { p.Names[at] = to })
	}
	out["nothing"] = impl.Pages{}
	out["no pages, names"] = impl.Pages{Names: []impl.PageName{called("a", -1, 0)}}
	change("a page less", func(p *impl.Pages) { p.Pages = slices.Delete(p.Pages, 50, 51) })
	change("a page more", func(p *impl.Pages) { p.Pages = append(p.Pages, impl.Page{Next: -1}) })
	change("far too many pages", func(p *impl.Pages) { p.Pages = append(p.Pages, make([]impl.Page, 100000)...) })
	change("far too many names", func(p *impl.Pages) { p.Names = append(p.Names, make([]impl.PageName, 100000)...) })
	change("one name too many", func(p *impl.Pages) {
		for i := range 14 {
			p.Names = append(p.Names, impl.PageName{Name: fmt.Sprintf("d%02d", i), First: -1})
		}
	})
	change("names descending", func(p *impl.Pages) { p.Names[0], p.Names[1] = p.Names[1], p.Names[0] })
	change("name twice", func(p *impl.Pages) { p.Names[0].Name = "b" })
	change("text twice", func(p *impl.Pages) { p.Names = append(p.Names, p.Names[2]) })
	change("text twice, another name", func(p *impl.Pages) { p.Names = append(p.Names, called("d", 7, 90)) })
	change("no text has it", func(p *impl.Pages) { p.Names = p.Names[:2] })
	for _, wrong := range wrongNames()[1:] {
		change("name with "+wrong, func(p *impl.Pages) { p.Names[2].Name += wrong })
	}
	name("name empty", 0, called("", -1, 0))
	name("name too long", 2, called("cccccc", 7, 90))
	name("name of another kind", 0, called("A", -1, 0))
	name("size below 0", 0, called("a", -1, -1))
	name("least size", 0, called("a", -1, math.MinInt))
	name("greatest size", 2, called("c", 7, math.MaxInt))
	name("size one more", 2, called("c", 7, 91))
	name("size one less", 2, called("c", 7, 89))
	name("size a page less", 2, called("c", 7, 80))
	name("size a page more", 2, called("c", 7, 120))
	name("size 0, a page", 1, called("b", 95, 0))
	name("size too great", 1, called("b", 95, 3001))
	name("no bytes, another first", 0, called("a", -2, 0))
	name("no bytes, first 0", 0, called("a", 0, 0))
	name("no bytes, a page that is free", 0, called("a", 1, 0))
	name("no bytes, first behind the end", 0, called("a", 96, 0))
	name("first none", 1, called("b", -1, 8))
	name("first below", 1, called("b", -2, 8))
	name("first behind the end", 1, called("b", 96, 8))
	name("greatest first", 1, called("b", math.MaxInt, 8))
	name("least first", 1, called("b", math.MinInt, 8))
	name("first a free page", 1, called("b", 94, 8))
	name("first of another text", 1, called("b", 0, 10))
	name("first of its own second", 2, called("c", 3, 50))
	c := bytesOf(90)
	page("not used", 95, impl.Page{Data: "one page", Next: -1})
	page("not used, in the middle", 3, impl.Page{Data: c[40:80], Next: 0})
	page("data one less", 95, impl.Page{Used: true, Data: "one pag", Next: -1})
	page("data one more", 95, impl.Page{Used: true, Data: "one page.", Next: -1})
	page("no data", 95, impl.Page{Used: true, Next: -1})
	page("data too long", 95, impl.Page{Used: true, Data: bytesOf(41), Next: -1})
	page("first piece short", 7, impl.Page{Used: true, Data: c[:39], Next: 3})
	page("middle piece short", 3, impl.Page{Used: true, Data: c[40:79], Next: 0})
	page("middle piece long", 3, impl.Page{Used: true, Data: c[40:81], Next: 0})
	page("last piece full", 0, impl.Page{Used: true, Data: c[50:], Next: -1})
	page("ends too early", 3, impl.Page{Used: true, Data: c[40:80], Next: -1})
	page("goes on to a free page", 0, impl.Page{Used: true, Data: c[80:], Next: 1})
	page("goes on to another text", 0, impl.Page{Used: true, Data: c[80:], Next: 95})
	page("goes on to none", 0, impl.Page{Used: true, Data: c[80:], Next: -2})
	page("goes on behind the end", 0, impl.Page{Used: true, Data: c[80:], Next: 96})
	page("goes on far behind", 0, impl.Page{Used: true, Data: c[80:], Next: math.MaxInt})
	page("goes on at itself", 95, impl.Page{Used: true, Data: "one page", Next: 95})
	page("round and round", 0, impl.Page{Used: true, Data: c[80:], Next: 7})
	page("a page twice", 3, impl.Page{Used: true, Data: c[40:80], Next: 7})
	page("free, used", 50, impl.Page{Used: true, Next: -1})
	page("free, used by nobody", 50, impl.Page{Used: true, Data: "x", Next: -1})
	page("free, data", 50, impl.Page{Data: "x", Next: -1})
	page("free, next 0", 50, impl.Page{})
	page("free, next free", 50, impl.Page{Next: 51})
	page("free, next below", 50, impl.Page{Next: -2})
	// Each has all pages that it needs, and each page its piece.
	out["size too great, all pages there"] = newDesk().with("a", bytesOf(3001)).pages()
	out["all pages for one text"] = newDesk().with("a", bytesOf(3840)).pages()
	change("all round", func(p *impl.Pages) {
		for at := range p.Pages {
			p.Pages[at] = impl.Page{Used: true, Data: bytesOf(40), Next: (at + 1) % 96}
		}
		p.Names = []impl.PageName{called("a", 0, 3000)}
	})
	return out
}

func TestBadPages(t *testing.T) {
	for what, p := range badPages() {
		if impl.PagesOk(p) || impl.PagesFree(p) != 0 || impl.PagesWrite(p) != "" {
			t.Errorf("%s: %v %d %q", what, impl.PagesOk(p), impl.PagesFree(p), impl.PagesWrite(p))
		}
		for _, name := range []string{"a", "b", "c", "n", "A", ""} {
			text, ok := impl.PagesGet(p, name)
			q, put := impl.PagesPut(p, name, "x")
			r, drop := impl.PagesDrop(p, name)
			if text != "" || ok || put != 1 || drop != 1 || !noPages(q) || !noPages(r) {
				t.Errorf("%s: %s: %q %v, codes %d and %d", what, name, text, ok, put, drop)
			}
		}
	}
}

// A text is as long as its line says, whatever it reads like.
func TestPageTexts(t *testing.T) {
	p, d := impl.PagesNew(), newDesk()
	for i, text := range []string{"end\n", "end", "\nend\n", "a 0\n\nend\n", "b 1", "\n", "\n\n", " ", "0", "\x00\xff\xfe", "c 3\nend", strings.Repeat("end\n", 30)} {
		p, d = keep(t, "a text that reads like a line", p, d, fmt.Sprintf("n%x", i), text, 0)
	}
	p, d = keep(t, "a name that reads like the end", p, d, "end", "", 0)
	keep(t, "a name that reads like the end", p, d, "end", "end\n", 0)
	p, d = keep(t, "one", impl.PagesNew(), newDesk(), "b", "end\nend\n", 0)
	p, _ = keep(t, "two", p, d, "a", "b 1\nx\n", 0)
	if got := impl.PagesWrite(p); got != "a 6\nb 1\nx\n\nb 8\nend\nend\n\nend\n" {
		t.Errorf("%q", got)
	}
}

// plainName is what a name is.
var plainName = regexp.MustCompile(`^[a-z0-9]{1,5}$`)

// plainRead reads what was written, another way than the program does.
func plainRead(text string) (desk, bool) {
	d, last := newDesk(), ""
	for text != "end\n" {
		m := writtenLine.FindStringSubmatch(text)
		if m == nil || m[1] <= last || len(m[2]) > 4 {
			return d, false
		}
		size := 0
		fmt.Sscan(m[2], &size)
		text = text[len(m[0]):]
		if size > 3000 || len(text) <= size || text[size] != '\n' || len(d.texts) == 16 || plainNeed(text[:size]) > d.free() {
			return d, false
		}
		d = d.with(m[1], text[:size])
		last, text = m[1], text[size+1:]
	}
	return d, true
}

var writtenLine = regexp.MustCompile(`^([a-z0-9]{1,5}) (0|[1-9][0-9]*)\n`)

func checkRead(t *testing.T, text string) bool {
	t.Helper()
	d, want := plainRead(text)
	p, ok := impl.PagesRead(text)
	if ok != want || !ok && !noPages(p) || ok && (!samePages(p, d.pages()) || impl.PagesWrite(p) != text) {
		t.Errorf("%.100q: %v, not %v: %.200v", text, ok, want, p)
	}
	return ok
}

func TestPageTextsRefused(t *testing.T) {
	taken := []string{
		"end\n", "a 0\n\nend\n", "a 1\nx\nend\n", "a 4\nend\n\nend\n", "a 0\n\nb 0\n\nend\n", "a 10\n0123456789\nend\n", "end 0\n\nend\n", "a 1\n\n\nend\n", "0 1\n0\na 1\na\nend\n",
		"a 3000\n" + bytesOf(3000) + "\nend\n", "a 3000\n" + bytesOf(3000) + "\nb 840\n" + bytesOf(840) + "\nend\n",
	}
	for _, text := range taken {
		if !checkRead(t, text) {
			t.Errorf("%.100q was refused", text)
		}
	}
	names := ""
	for i := range 16 {
		names += fmt.Sprintf("n%02d 0\n\n", i)
	}
	if !checkRead(t, names+"end\n") {
		t.Error("most names are refused")
	}
	for _, text := range []string{
		"", "\n", "end", "end\n\n", "end\nx", "end\nend\n", " end\n", "end \n", "End\n", "end\r\n", "en\n", "\nend\n", "\x00end\n", "end 0\nend\n",
		"a", "a 0", "a 0\n", "a 0\n\n", "a 0\n\nend", "a 0\nend\n", "a 0\n\n\nend\n", "a 0\nx\nend\n", "a 0\n\nend\nx", "a 0\n\nend\n\n", "a 0\n\nb", "a 0\n\nb 0\n",
		"a 00\n\nend\n", "a 01\nx\nend\n", "a +1\nx\nend\n", "a -0\n\nend\n", "a -1\nend\n", "a -1\nx\nend\n", "a 1_0\n0123456789\nend\n", "a 0x1\nx\nend\n", "a 1.0\nx\nend\n", "a x\nx\nend\n",
		"a  1\nx\nend\n", "a 1 \nx\nend\n", " a 1\nx\nend\n", "a 1 1\nx\nend\n", "a\t1\nx\nend\n", "a\n1\nx\nend\n", "a1\nx\nend\n", "a \nx\nend\n", "a 1\r\nx\nend\n",
		"a 2\nx\nend\n", "a 0\nx\nend\n", "a 5\nx\nend\n", "a 6\nx\nend\n", "a 7\nx\nend\n", "a 1000\nx\nend\n", "a 99999999999999999999\nx\nend\n", "a 9223372036854775807\nx\nend\n", "a 9223372036854775806\nx\nend\n",
		"b 0\n\na 0\n\nend\n", "a 0\n\na 0\n\nend\n", "a 1\nx\na 1\nx\nend\n", "a 0\n\nb 0\n\nb 0\n\nend\n", "aa 0\n\na 0\n\nend\n", "a 1\nx\na 0\n\nend\n",
		"A 0\n\nend\n", "abcdef 0\n\nend\n", " 0\n\nend\n", "a/b 0\n\nend\n", "\xff 0\n\nend\n", "- 0\n\nend\n",
		"a 3001\n" + bytesOf(3001) + "\nend\n", "a 3000\n" + bytesOf(3000) + "\nb 841\n" + bytesOf(841) + "\nend\n", "a 3000\n" + bytesOf(3000) + "\nb 840\n" + bytesOf(840) + "\nc 1\nx\nend\n",
		names + "o 0\n\nend\n", "a 0\n\n" + names + "end\n", names + names + "end\n", strings.Repeat("a 0\n\n", 100000) + "end\n", strings.Repeat("\n", 100000), "a " + strings.Repeat("1", 100000) + "\nend\n", strings.Repeat("a", 100000),
	} {
		if checkRead(t, text) {
			t.Errorf("%.100q was taken", text)
		}
	}
}

func TestPageTextsTampered(t *testing.T) {
	taken := 0
	for _, text := range []string{"end\n", "a 0\n\nend\n", "a 4\nend\n\nb 11\nc 0\nb 1\nx\ny\nc 0\n\nend\n"} {
		tamper(text, func(text string) {
			if checkRead(t, text) {
				taken++
			}
		})
	}
	if taken < 1000 {
		t.Errorf("%d taken", taken)
	}
}

// kept is a name that is there, or any, sometimes one that is none.
func (r maker) kept(d desk) string {
	all := slices.Sorted(maps.Keys(d.texts))
	switch {
	case r.IntN(20) == 0:
		return wrongNames()[r.IntN(len(wrongNames()))]
	case len(all) > 0 && r.IntN(2) == 0:
		return all[r.IntN(len(all))]
	}
	return fmt.Sprintf("%c%d", 'a'+rune(r.IntN(3)), r.IntN(10))
}

func TestMadeUpPages(t *testing.T) {
	r := newMaker(22)
	codes := map[string]int{}
	for i := range 60 {
		p, d := impl.PagesNew(), newDesk()
		most := []int{60, 300, 1200, 3200}[i%4]
		for range 70 {
			name := r.kept(d)
			if r.IntN(8) == 0 {
				_, code := d.drop(name)
				p, d = letGo(t, "made up", p, d, name, code)
				codes[fmt.Sprint("drop ", code)]++
			} else {
				text := bytesOf(r.size([]int{0, 1, 40, 41, 80, 3000, 3001}, most))
				_, code := d.put(name, text)
				p, d = keep(t, "made up", p, d, name, text, code)
				codes[fmt.Sprint("put ", code)]++
			}
			if t.Failed() {
				return
			}
		}
	}
	if len(codes) != 7 {
		t.Errorf("codes %v", codes)
	}
}

// Pages on which one thing was changed are ok just if each text, read by hand, has its own.
func TestSpoiltPages(t *testing.T) {
	r := newMaker(23)
	taken, refused := 0, 0
	for range 4000 {
		d := newDesk()
		for range 1 + r.IntN(5) {
			name, text := r.kept(d), bytesOf(r.size([]int{0, 40, 41, 80}, 200))
			d, _ = d.put(name, text)
		}
		p := d.pages()
		r.spoilPages(&p)
		texts, want := plainKept(p)
		if impl.PagesOk(p) != want {
			t.Fatalf("ok %v: %v %v", impl.PagesOk(p), p.Names, p.Pages)
		}
		if want {
			taken++
			checkKeeps(t, "spoilt", p, texts)
		} else {
			refused++
		}
	}
	if taken < 200 || refused < 1000 {
		t.Errorf("%d taken, %d refused", taken, refused)
	}
}

// spoilPages changes one thing, near what is used.
func (r maker) spoilPages(p *impl.Pages) {
	page, other := &p.Pages[r.IntN(12)], &p.Pages[r.IntN(12)]
	switch r.IntN(7) {
	case 0:
		page.Used = !page.Used
	case 1:
		page.Data = other.Data
	case 2:
		page.Next = r.IntN(14) - 1
	case 3:
		*page, *other = *other, *page
	case 4:
		*page = impl.Page{Next: -1}
	}
	if len(p.Names) == 0 {
		return
	}
	name := &p.Names[r.IntN(len(p.Names))]
	switch r.IntN(12) {
	case 0:
		name.First = r.IntN(14) - 1
	case 1:
		name.Size = r.IntN(200)
	case 2:
		name.Name = r.kept(newDesk())
	}
}

// plainKept is what pages keep, if they are ok.
func plainKept(p impl.Pages) (map[string]string, bool) {
	texts, seen, last := map[string]string{}, map[int]bool{}, ""
	for _, n := range p.Names {
		if plainName.FindString(n.Name) == "" || n.Name <= last || n.Size > 3000 || n.Size < 0 {
			return nil, false
		}
		text, at := "", n.First
		for range (n.Size + 39) / 40 {
			if at < 0 || at > 95 || seen[at] || !p.Pages[at].Used {
				return nil, false
			}
			seen[at] = true
			text += p.Pages[at].Data
			if len(text)%40 != 0 && len(text) != n.Size || len(p.Pages[at].Data) > 40 || p.Pages[at].Data == "" {
				return nil, false
			}
			at = p.Pages[at].Next
		}
		if at != -1 || len(text) != n.Size {
			return nil, false
		}
		texts[n.Name] = text
		last = n.Name
	}
	for at, page := range p.Pages {
		if !seen[at] && (page.Used || page.Data != "" || page.Next != -1) {
			return nil, false
		}
	}
	return texts, len(p.Pages) == 96 && len(p.Names) <= 16
}
