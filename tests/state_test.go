package tests

import (
	"fmt"
	"maps"
	"slices"
	"strings"
	"testing"

	"loop.example/changetrail/impl"
)

// story is a state told in another way than the program does: by the models that one saw, and what was kept of each step.
type story struct {
	first, sealed, seen model
	trail               track
	ids                 roll
	layers              []string
}

func storyOf(m model) story {
	return story{first: m, sealed: m, seen: m, trail: track{}, ids: rollOf(m)}
}

// state is a story as the program has it.
func (p story) state() impl.State {
	return impl.State{First: p.first.tree(""), Rows: p.sealed.rows(), Upper: p.sealed.upper(p.seen), Trail: p.trail.list(), Nodes: p.ids.nodes(), Layers: p.layers}
}

// do is a story behind a call, and the code.
func (p story) do(c impl.Call) (story, int) {
	if !isPlainCall(c) {
		return p, 2
	}
	seen, code := p.seen.do(c)
	if code != 0 {
		return p, code
	}
	ids, code := p.ids.do(p.seen, c)
	if code != 0 {
		return p, 8
	}
	p.trail = maps.Clone(p.trail)
	p.trail.mark(p.seen, c)
	p.seen, p.ids = seen, ids
	return p, 0
}

// layer is what lies between what is sealed and what one sees.
func (p story) layer() string {
	return impl.LayerWrite(p.sealed.diff(p.seen))
}

func (p story) commit() (story, int) {
	if len(p.layers) == 6 {
		return p, 4
	}
	p.layers = append(slices.Clone(p.layers), p.layer())
	p.sealed, p.trail = p.seen, track{}
	return p, 0
}

// texts is names and texts, in the order in which they are kept.
func (p story) texts() [][2]string {
	out := [][2]string{{"first", p.first.show()}, {"upper", upperText(p.sealed.upper(p.seen))}, {"trail", plainText(p.trail.list())}, {"nodes", p.ids.write()}}
	for i, layer := range p.layers {
		out = append(out, [2]string{fmt.Sprint("lay", i), layer})
	}
	return out
}

// desk keeps all texts; false, if there is one that does not fit.
func (p story) desk() (desk, bool) {
	d := newDesk()
	for _, k := range p.texts() {
		next, code := d.put(k[0], k[1])
		if code != 0 {
			return desk{}, false
		}
		d = next
	}
	return d, true
}

// need is how many pages all texts need together.
func (p story) need() int {
	count := 0
	for _, k := range p.texts() {
		count += plainNeed(k[1])
	}
	return count
}

func sameState(a, b impl.State) bool {
	return same(a.First, b.First) && sameRows(a.Rows, b.Rows) && sameUpper(a.Upper, b.Upper) && sameMarks(a.Trail, b.Trail) && sameNodes(a.Nodes, b.Nodes) && slices.Equal(a.Layers, b.Layers)
}

func noState(s impl.State) bool {
	return sameState(s, impl.State{})
}

// checkState asks for a state that is that of a story, and for all that can be asked of it.
func checkState(t *testing.T, what string, s impl.State, p story) {
	t.Helper()
	if !sameState(s, p.state()) {
		t.Errorf("%s: %+v, not %+v", what, s, p.state())
	}
	if !impl.StateOk(s) {
		t.Errorf("%s: %+v is not ok", what, s)
	}
	seen, ok := impl.UpperTree(s.Rows, s.Upper)
	sealed, is := impl.TableTree(s.Rows)
	if !ok || !is || !same(seen, p.seen.tree("")) || !same(sealed, p.sealed.tree("")) || !impl.TrailCovers(sealed, seen, s.Trail) || !impl.NodesOk(s.Nodes, seen) {
		t.Errorf("%s: %+v is not in step", what, s)
	}
	folded, ok := s.First, impl.TreeOk(s.First)
	for _, layer := range s.Layers {
		list, read := impl.LayerRead(layer)
		next, fits := impl.LayerApply(folded, list)
		folded, ok = next, ok && read && fits
	}
	if !ok || !same(folded, sealed) {
		t.Errorf("%s: the layers are %q, and not what is sealed, %q", what, s.Layers, impl.TreeShow(sealed))
	}
	checkSave(t, what, s, p)
}

// checkSave saves a state and loads it again.
func checkSave(t *testing.T, what string, s impl.State, p story) {
	t.Helper()
	d, fits := p.desk()
	pages, code := impl.StateSave(s)
	if !fits {
		if code != 6 || !noPages(pages) {
			t.Errorf("%s: it does not fit: code %d, %v", what, code, pages)
		}
		return
	}
	if code != 0 || !samePages(pages, d.pages()) {
		t.Errorf("%s: code %d, %v, not %v", what, code, pages, d.pages())
	}
	for _, k := range p.texts() {
		if text, ok := impl.PagesGet(pages, k[0]); !ok || text != k[1] {
			t.Errorf("%s: %s is %v %q, not %q", what, k[0], ok, text, k[1])
		}
	}
	loaded, ok := impl.StateLoad(pages)
	if !ok || !sameState(loaded, s) {
		t.Errorf("%s: loaded %v %+v, not %+v", what, ok, loaded, s)
	}
	read, _ := impl.PagesRead(impl.PagesWrite(pages))
	loaded, ok = impl.StateLoad(read)
	if !ok || !sameState(loaded, s) {
		t.Errorf("%s: written and read: loaded %v %+v, not %+v", what, ok, loaded, s)
	}
}

// doIn does a call in a state, and asks for what its story says.
func doIn(t *testing.T, what string, s impl.State, p story, c impl.Call, want int) (impl.State, story) {
	t.Helper()
	next, code := p.do(c)
	if code != want {
		t.Fatalf("%s: %+v: the model has the code %d, not %d", what, c, code, want)
	}
	got, code := impl.StateDo(s, c)
	if code != want {
		t.Errorf("%s: %+v: code %d, not %d", what, c, code, want)
	}
	before, _ := impl.UpperTree(s.Rows, s.Upper)
	seen, _ := impl.UpperTree(got.Rows, got.Upper)
	after, done := impl.TreeDo(before, c)
	if code != done && code != 8 || code != 8 && !same(seen, after) || code != 0 && !sameState(got, s) {
		t.Errorf("%s: %+v: code %d and %q, and in a tree %d and %q", what, c, code, impl.TreeShow(seen), done, impl.TreeShow(after))
	}
	checkState(t, what, got, next)
	return got, next
}

// commitIn commits a state, and asks for what its story says.
func commitIn(t *testing.T, what string, s impl.State, p story, want int) (impl.State, story) {
	t.Helper()
	next, code := p.commit()
	if code != want {
		t.Fatalf("%s: the model has the code %d, not %d", what, code, want)
	}
	got, layer, code := impl.StateCommit(s)
	if code != want || code == 0 && layer != p.layer() || code != 0 && layer != "" {
		t.Errorf("%s: code %d, not %d, and the layer %q, not %q", what, code, want, layer, p.layer())
	}
	checkState(t, what, got, next)
	if code != 0 {
		if !sameState(got, s) {
			t.Errorf("%s: code %d changed it", what, code)
		}
		return got, next
	}
	was, _ := impl.UpperTree(s.Rows, s.Upper)
	is, _ := impl.UpperTree(got.Rows, got.Upper)
	sealed, _ := impl.TableTree(s.Rows)
	list, ok := impl.LayerRead(layer)
	over, fits := impl.LayerApply(sealed, list)
	if !same(was, is) || !ok || !fits || !same(over, is) || !sameRows(got.Rows, impl.TableMake(is)) || len(got.Trail) != 0 || !noUpper(got.Upper) || !sameNodes(got.Nodes, s.Nodes) || layer != impl.LayerWrite(impl.DiffWalk(sealed, was)) {
		t.Errorf("%s: the layer %q over %q, and one saw %q, and sees %q", what, layer, impl.TreeShow(sealed), impl.TreeShow(was), impl.TreeShow(is))
	}
	return got, next
}

func newState(t *testing.T, what string, m model) (impl.State, story) {
	t.Helper()
	s, ok := impl.StateNew(m.tree(""))
	if !ok {
		t.Fatalf("%s: refused", what)
	}
	checkState(t, what, s, storyOf(m))
	return s, storyOf(m)
}

func TestNewStates(t *testing.T) {
	if impl.StateMaxLayers != 6 {
		t.Error("the limit is not the document's")
	}
	s, _ := newState(t, "the example", modelOf(example()))
	if len(s.Layers) != 0 || len(s.Trail) != 0 || !noUpper(s.Upper) || s.Nodes.Next != 6 {
		t.Errorf("%+v", s)
	}
	for what, x := range okTrees() {
		newState(t, what, modelOf(x))
	}
	for what, x := range badTrees() {
		if s, ok := impl.StateNew(x); ok || !noState(s) {
			t.Errorf("%s: %+v", what, s)
		}
	}
}

// What is kept, by hand.
func TestExampleState(t *testing.T) {
	s, p := newState(t, "the example", modelOf(example()))
	for _, c := range exampleCalls() {
		s, p = doIn(t, "the example", s, p, c, 0)
	}
	if text := impl.TrailShow(s.Trail); text != trailText {
		t.Errorf("the trail is %q", text)
	}
	s, p = commitIn(t, "the example", s, p, 0)
	s, _ = doIn(t, "the example", s, p, call(chmod, "/c/f", 1), 0)
	pages, code := impl.StateSave(s)
	want := "first " + fmt.Sprint(len(exampleText)) + "\n" + exampleText + "\nlay0 " + fmt.Sprint(len(layerText)) + "\n" + layerText + "\nnodes 40\nnext 7\n1 /a\n2 /a/b\n6 /c\n4 /c/f\n5 /c/f/e\n" + "\ntrail 8\nat /c/f\n\nupper 11\ndir /c/f 1\n\nend\n"
	if text := impl.PagesWrite(pages); code != 0 || text != want {
		t.Errorf("code %d, %q, not %q", code, text, want)
	}
	// The names are in order; the pages are taken in the order in which the texts are kept.
	if fmt.Sprint(pages.Names[0].First, pages.Names[4].First, pages.Names[3].First, pages.Names[2].First, pages.Names[1].First) != "0 2 3 4 5" {
		t.Errorf("%v", pages.Names)
	}
}

// stateRefused is the answers that there are of a state that is not ok.
func stateRefused(t *testing.T, what string, s impl.State) {
	t.Helper()
	if impl.StateOk(s) {
		t.Errorf("%s: ok", what)
	}
	if p, code := impl.StateSave(s); code != 1 || !noPages(p) {
		t.Errorf("%s: saved, code %d, %v", what, code, p)
	}
	for _, c := range append(noCalls(), call(mkdir, "/n", 0), call(remove, "/n", 0), call(mkdir, "/x/n", 0), renaming("/a", "/a")) {
		if got, code := impl.StateDo(s, c); code != 1 || !noState(got) {
			t.Errorf("%s: %+v: code %d, %+v", what, c, code, got)
		}
	}
	if got, layer, code := impl.StateCommit(s); code != 1 || layer != "" || !noState(got) {
		t.Errorf("%s: committed, code %d, %q, %+v", what, code, layer, got)
	}
}

// someState has layers, and something over what is sealed: a part that is gone, one that is new, and one that is other.
func someState(t *testing.T) (impl.State, story) {
	t.Helper()
	s, p := newState(t, "some", modelOf(example()))
	for _, c := range exampleCalls() {
		s, p = doIn(t, "some", s, p, c, 0)
	}
	s, p = commitIn(t, "some", s, p, 0)
	s, p = doIn(t, "some", s, p, writing("/n", 0, "x"), 0)
	s, p = doIn(t, "some", s, p, call(chmod, "/c/f", 2), 0)
	s, p = commitIn(t, "some", s, p, 0)
	for _, c := range []impl.Call{renaming("/c/f", "/f"), call(chmod, "/a/b", 3), call(remove, "/n", 0), call(mkdir, "/n", 0)} {
		s, p = doIn(t, "some", s, p, c, 0)
	}
	return s, p
}

// badStates is states that are not ok, for each of the reasons, all but for one thing the same.
func badStates(t *testing.T) map[string]impl.State {
	out := map[string]impl.State{"nothing": {}, "nothing but nodes": {Nodes: impl.Nodes{Next: 1}}}
	change := func(what string, do func(s *impl.State)) {
		s, _ := someState(t)
		do(&s)
		out[what] = s
	}
	for what, x := range badTrees() {
		change("first: "+what, func(s *impl.State) { s.First = x })
	}
	change("first, another one", func(s *impl.State) { s.First = other() })
	change("first, another mode", func(s *impl.State) { s.First.Mode = 1 })
	change("first, one that the layers fit", func(s *impl.State) { s.First.Kids[2].Mode = 7; s.First.Kids[2].Kids[0].Mode = 1; s.First.Mode = 1 })
	change("no layers", func(s *impl.State) { s.Layers = nil })
	change("a layer less", func(s *impl.State) { s.Layers = s.Layers[:1] })
	change("the first layer less", func(s *impl.State) { s.Layers = s.Layers[1:] })
	change("layers out of order", func(s *impl.State) { s.Layers = []string{s.Layers[1], s.Layers[0]} })
	change("layers out of order that fit", func(s *impl.State) { s.Layers = append(s.Layers, "mode / 0\n", "mode / 1\n") })
	change("a layer twice", func(s *impl.State) { s.Layers = append(s.Layers, s.Layers[1]) })
	change("a layer more", func(s *impl.State) { s.Layers = append(s.Layers, "mode /n 1\n") })
	change("a layer more that does not fit", func(s *impl.State) { s.Layers = append(s.Layers, "gone /m\n") })
	change("a layer that fits no more, ahead", func(s *impl.State) { s.Layers = append([]string{"gone /a\n"}, s.Layers...) })
	change("a layer that is none", func(s *impl.State) { s.Layers[0] += "\n" })
	change("a layer that is none, behind", func(s *impl.State) { s.Layers = append(s.Layers, "x") })
	change("a layer that ends too early", func(s *impl.State) { s.Layers[1] = strings.TrimSuffix(s.Layers[1], "\n") })
	change("a layer that is too long", func(s *impl.State) { s.Layers[1] += strings.Repeat("mode / 0\n", 700) })
	change("seven layers", func(s *impl.State) { s.Layers = append(s.Layers, make([]string, 5)...) })
	change("seven layers, empty ones ahead", func(s *impl.State) { s.Layers = append(make([]string, 5), s.Layers...) })
	change("far too many layers", func(s *impl.State) { s.Layers = append(s.Layers, make([]string, 100000)...) })
	change("no rows", func(s *impl.State) { s.Rows = nil })
	change("rows of the first tree", func(s *impl.State) { s.Rows = impl.TableMake(s.First) })
	change("rows of what one sees", func(s *impl.State) {
		x, _ := impl.UpperTree(s.Rows, s.Upper)
		s.Rows, s.Upper = impl.TableMake(x), impl.Upper{}
	})
	change("a row less", func(s *impl.State) { s.Rows = s.Rows[:len(s.Rows)-1] })
	change("a row twice", func(s *impl.State) { s.Rows = append(s.Rows, s.Rows[len(s.Rows)-1]) })
	change("rows out of order", func(s *impl.State) { s.Rows[1], s.Rows[2] = s.Rows[2], s.Rows[1] })
	change("an id", func(s *impl.State) { s.Rows[0].Id++ })
	change("a row's mode", func(s *impl.State) { s.Rows[1].Mode ^= 1 })
	change("no upper", func(s *impl.State) { s.Upper = impl.Upper{} })
	change("an upper that hides less", func(s *impl.State) { s.Upper.Gone = s.Upper.Gone[:1] })
	change("an upper that hides what is not there", func(s *impl.State) { s.Upper.Gone = append(s.Upper.Gone, names("/zz")) })
	change("an upper that puts less", func(s *impl.State) { s.Upper.Puts = s.Upper.Puts[:len(s.Upper.Puts)-1] })
	change("an upper that puts what has no parent", func(s *impl.State) { s.Upper.Puts = slices.Delete(s.Upper.Puts, 1, 2) })
	change("an upper that puts more", func(s *impl.State) { s.Upper.Puts = append(s.Upper.Puts, newFile("/z", 0, "")) })
	change("an upper that puts what is sealed", func(s *impl.State) {
		s.Upper.Puts = slices.Insert(s.Upper.Puts, 0, newDir("/", s.Rows[0].Mode))
	})
	change("no trail", func(s *impl.State) { s.Trail = nil })
	for i := range 4 {
		change(fmt.Sprint("without mark ", i), func(s *impl.State) { s.Trail = slices.Delete(s.Trail, i, i+1) })
		change(fmt.Sprint("mark ", i, " twice"), func(s *impl.State) { s.Trail = slices.Insert(s.Trail, i, s.Trail[i]) })
	}
	change("a trail out of order", func(s *impl.State) { s.Trail[0], s.Trail[1] = s.Trail[1], s.Trail[0] })
	change("a trail too long", func(s *impl.State) { s.Trail = append(s.Trail, marks("/w /x /y /z")...) })
	change("a trail with the root behind", func(s *impl.State) { s.Trail = append(s.Trail, sub("/")) })
	change("a mark without Sub", func(s *impl.State) { s.Trail[2].Sub = false })
	change("a mark that is none", func(s *impl.State) { s.Trail = append(s.Trail, impl.Mark{Path: []string{"zz", "A"}}) })
	change("no nodes", func(s *impl.State) { s.Nodes = impl.Nodes{} })
	change("nodes of none", func(s *impl.State) { s.Nodes = impl.Nodes{Next: 99} })
	change("nodes of what is sealed", func(s *impl.State) {
		x, _ := impl.TableTree(s.Rows)
		s.Nodes = impl.NodesStart(x)
	})
	change("nodes of the first tree", func(s *impl.State) { s.Nodes = impl.NodesStart(s.First) })
	change("a node less", func(s *impl.State) { s.Nodes.List = s.Nodes.List[1:] })
	change("an id twice", func(s *impl.State) { s.Nodes.List[1].Id = s.Nodes.List[0].Id })
	change("a next that is given", func(s *impl.State) { s.Nodes.Next-- })
	change("a next too great", func(s *impl.State) { s.Nodes.Next = 10001 })
	return out
}

func TestBadStates(t *testing.T) {
	all := badStates(t)
	for what, s := range all {
		stateRefused(t, what, s)
	}
	if len(all) < 90 {
		t.Errorf("%d states", len(all))
	}
}

// Other layers, a trail that marks more, and other ids are as good, if they go together.
func TestOtherOkStates(t *testing.T) {
	for what, do := range map[string]func(p *story){
		"as it is":                           func(p *story) {},
		"all marked":                         func(p *story) { p.trail = track{"": true} },
		"more marked":                        func(p *story) { p.trail = maps.Clone(p.trail); p.trail.add("/a", true) },
		"next greater":                       func(p *story) { p.ids.next = 10000 },
		"a layer of nothing":                 func(p *story) { p.layers = append(slices.Clone(p.layers), "") },
		"six layers":                         func(p *story) { p.layers = append(make([]string, 4), p.layers...) },
		"a layer that says what is so":       func(p *story) { p.layers = append(slices.Clone(p.layers), "mode / 0\nmode / 0\n") },
		"a layer that goes there and back":   func(p *story) { p.layers = append(slices.Clone(p.layers), "new /zz 0 -\ngone /zz\n") },
		"two layers that go there and back":  func(p *story) { p.layers = append(slices.Clone(p.layers), "mode / 1\n", "mode / 0\n") },
		"all in one layer":                   func(p *story) { p.layers = []string{p.layers[0] + p.layers[1]} },
		"nothing over it, and all is marked": func(p *story) { p.seen, p.ids, p.trail = p.sealed, rollOf(p.sealed), track{"": true} },
	} {
		_, p := someState(t)
		do(&p)
		s := p.state()
		checkState(t, what, s, p)
		s, p = doIn(t, what, s, p, call(chmod, "/a", 1), 0)
		if len(p.layers) < 6 {
			commitIn(t, what, s, p, 0)
		} else {
			commitIn(t, what, s, p, 4)
		}
	}
}

func TestStateCodes(t *testing.T) {
	s, p := newState(t, "the example", modelOf(example()))
	for _, k := range refusedCalls() {
		doIn(t, k.what, s, p, k.c, k.code)
	}
	for _, c := range noCalls() {
		doIn(t, "no call", s, p, c, 2)
	}
	s, p = someState(t)
	for code, c := range map[int]impl.Call{2: {}, 3: call(remove, "/d", 0), 4: call(mkdir, "/a/b/x", 0), 5: call(mkdir, "/n", 0), 6: writing("/a/b", 20, "12345"), 7: renaming("/f", "/f/x")} {
		doIn(t, "some", s, p, c, code)
	}
	s, p = newState(t, "full", modelOf(wide(30)))
	doIn(t, "one part too many", s, p, call(mkdir, "/n", 0), 6)
	doIn(t, "as many", s, p, renaming("/f00", "/n"), 0)
}

// The last id is given; one more is refused, but no call that needs none. TreeDo's codes come ahead.
func TestLastIdOfState(t *testing.T) {
	_, p := someState(t)
	p.ids.next = 9999
	s := p.state()
	s, p = doIn(t, "the last id", s, p, call(mkdir, "/m", 0), 0)
	if impl.NodesId(s.Nodes, names("/m")) != 9999 || s.Nodes.Next != 10000 {
		t.Errorf("%v", s.Nodes)
	}
	doIn(t, "one more", s, p, call(mkdir, "/o", 0), 8)
	doIn(t, "one more, a file", s, p, writing("/o", 0, "x"), 8)
	doIn(t, "one more, no call", s, p, call(mkdir, "/o", 8), 2)
	doIn(t, "one more, no parent", s, p, call(mkdir, "/x/o", 0), 3)
	doIn(t, "one more, parent a file", s, p, call(mkdir, "/a/b/o", 0), 4)
	doIn(t, "one more, there", s, p, call(mkdir, "/m", 0), 5)
	doIn(t, "one more, too many bytes", s, p, writing("/o", 20, "12345"), 6)
	doIn(t, "one more, within itself", s, p, renaming("/m", "/m/o"), 7)
	s, p = doIn(t, "a file that is there", s, p, writing("/a/b", 0, "x"), 0)
	s, p = doIn(t, "moved", s, p, renaming("/m", "/o"), 0)
	s, p = commitIn(t, "committed", s, p, 0)
	s, p = doIn(t, "gone", s, p, call(remove, "/o", 0), 0)
	doIn(t, "never again", s, p, call(mkdir, "/o", 0), 8)
	full := storyOf(modelOf(wide(30)))
	full.ids.next = 10000
	doIn(t, "one part too many, and no id", full.state(), full, call(mkdir, "/n", 0), 6)
}

func TestCommits(t *testing.T) {
	s, p := newState(t, "the example", modelOf(example()))
	s, p = commitIn(t, "nothing", s, p, 0)
	if !slices.Equal(s.Layers, []string{""}) {
		t.Errorf("%q", s.Layers)
	}
	for i, c := range []impl.Call{renaming("/a", "/z"), call(chmod, "/z/b", 3), call(remove, "/c", 0)} {
		s, p = doIn(t, "a call", s, p, c, 0)
		s, p = commitIn(t, "a layer", s, p, 0)
		if len(s.Layers) != i+2 {
			t.Errorf("%q", s.Layers)
		}
	}
	s, p = commitIn(t, "nothing", s, p, 0)
	s, p = doIn(t, "there", s, p, call(mkdir, "/n", 0), 0)
	s, p = doIn(t, "and back", s, p, call(remove, "/n", 0), 0)
	s, p = commitIn(t, "what leaves nothing", s, p, 0)
	want := []string{"", "gone /a\nnewdir /z 5\nnew /z/b 0 6869\n", "mode /z/b 3\n", "gone /c\n", "", ""}
	if !slices.Equal(s.Layers, want) || impl.NodesId(s.Nodes, names("/z/b")) != 2 {
		t.Errorf("%q, %v", s.Layers, s.Nodes)
	}
	commitIn(t, "a seventh layer of nothing", s, p, 4)
	s, p = doIn(t, "calls go on", s, p, writing("/d/e", 0, "x"), 0)
	s, p = doIn(t, "calls go on", s, p, renaming("/d", "/e"), 0)
	commitIn(t, "a seventh layer", s, p, 4)
	doIn(t, "and on", s, p, call(mkdir, "/n", 0), 0)
}

// The layer is what the trail leads to, also if it marks far more.
func TestCommitsOfCoarseTrails(t *testing.T) {
	s, p := newState(t, "wide", modelOf(wide(20)))
	for i := range 9 {
		s, p = doIn(t, "many marks", s, p, call(chmod, fmt.Sprintf("/f%02d", 2*i), 1+i%7), 0)
	}
	if !sameMarks(s.Trail, marks("/*")) {
		t.Errorf("%v", s.Trail)
	}
	commitIn(t, "many marks", s, p, 0)
}

// wordy is a state with a new directory, and layers of so many bytes; the first has at least 30, unless it has none.
func wordy(sizes ...int) story {
	m := modelOf(dir(0))
	p := storyOf(m)
	for _, size := range sizes {
		layer := ""
		if len(p.layers) == 0 {
			m = model{"": {dir: true}, "/a": {dir: true}}
			layer = "newdir /a 0\n"
		}
		for (size-len(layer))%9 != 0 {
			layer += "mode /a 0\n"
		}
		p.layers = append(p.layers, layer+strings.Repeat("mode / 0\n", (size-len(layer))/9))
	}
	p.sealed, p.seen, p.ids = m, m, rollOf(m)
	return p
}

func TestWhatFits(t *testing.T) {
	for _, k := range []struct {
		what  string
		sizes []int
		need  int
		code  int
	}{
		{"a text as long as can be", []int{3000}, 77, 0},
		{"a text of one byte more, though there are pages", []int{3001}, 78, 6},
		{"a text of one byte more, the second", []int{120, 3001}, 81, 6},
		{"a layer as long as can be", []int{6000}, 152, 6},
		{"all pages", []int{3000, 760}, 96, 0},
		{"all pages, the last not full", []int{3000, 721}, 96, 0},
		{"one page less", []int{3000, 720}, 95, 0},
		{"one byte too many", []int{3000, 761}, 97, 6},
		{"one page too many", []int{3000, 800}, 97, 6},
		{"all pages, six layers", []int{600, 600, 600, 600, 600, 760}, 96, 0},
		{"one byte too many, the first of six", []int{601, 600, 600, 600, 600, 760}, 97, 6},
		{"one byte too many, the last of six", []int{600, 600, 600, 600, 600, 761}, 97, 6},
	} {
		p := wordy(k.sizes...)
		s := p.state()
		pages, code := impl.StateSave(s)
		if p.need() != k.need || code != k.code {
			t.Errorf("%s: %d pages, not %d, and the code %d", k.what, p.need(), k.need, code)
		}
		if code == 0 && impl.PagesFree(pages) != 96-k.need {
			t.Errorf("%s: %d pages are free", k.what, impl.PagesFree(pages))
		}
		checkState(t, k.what, s, p)
		doIn(t, k.what, s, p, call(chmod, "/a", 0), 0)
	}
	p := wordy(6001)
	stateRefused(t, "a layer too long", p.state())
}

// Call by call a state comes to need all pages, and then one more.
func TestGrowingState(t *testing.T) {
	m := modelOf(dir(0, named{"abcde", dir(7, named{"abcde", wide(26)})}))
	s, p := newState(t, "growing", m)
	needs := map[int]bool{}
	for i := range 26 {
		s, p = doIn(t, "growing", s, p, writing(fmt.Sprintf("/abcde/abcde/f%02d", i), 23, "x"), 0)
	}
	s, p = commitIn(t, "growing", s, p, 0)
	for i := range 26 {
		path := fmt.Sprintf("/abcde/abcde/f%02d", i)
		for _, c := range []impl.Call{call(truncate, path, 0), writing(path, 9, "y"), writing(path, 19, "y"), writing(path, 23, "y")} {
			s, p = doIn(t, "growing on", s, p, c, 0)
			needs[p.need()] = true
		}
	}
	if !needs[95] || !needs[96] || !needs[97] || !needs[98] {
		t.Errorf("%v", needs)
	}
}

// An upper whose text is longer than one that can be kept is ok, but does not fit.
func TestLongestUpper(t *testing.T) {
	full := func(first string, mode int) model {
		x := dir(mode)
		for i := range 27 {
			x.Names = append(x.Names, fmt.Sprintf("%s%04d", first, i))
			x.Kids = append(x.Kids, file(mode, strings.Repeat("\xff", 24)))
		}
		return modelOf(dir(mode, named{"abcde", dir(mode, named{"abcde", dir(mode, named{"abcde", x})})}))
	}
	base, cur := full("a", 0), full("b", 7)
	p := storyOf(base)
	p.seen, p.trail, p.ids = cur, track{"": true}, rollOf(cur)
	s := p.state()
	if text := impl.UpperWrite(s.Upper); len(text) <= 3000 || len(text) > 4000 {
		t.Errorf("%d bytes", len(text))
	}
	checkState(t, "the longest upper", s, p)
	s, p = commitIn(t, "the longest upper", s, p, 0)
	if len(s.Layers[0]) <= 3000 {
		t.Errorf("%d bytes", len(s.Layers[0]))
	}
	checkState(t, "the longest layer", s, p)
}

// loadRefused asks that pages are not loaded.
func loadRefused(t *testing.T, what string, p impl.Pages) {
	t.Helper()
	if s, ok := impl.StateLoad(p); ok || !noState(s) {
		t.Errorf("%s: loaded %+v", what, s)
	}
}

func TestPagesThatAreNoState(t *testing.T) {
	for what, p := range badPages() {
		loadRefused(t, what, p)
	}
	loadRefused(t, "no texts", impl.PagesNew())
	some, _ := somePages()
	loadRefused(t, "other texts", some)
	_, p := someState(t)
	d, _ := p.desk()
	whole := d.pages()
	if _, ok := impl.StateLoad(whole); !ok {
		t.Fatal("refused")
	}
	for name := range d.texts {
		loadRefused(t, "without "+name, d.without(name).pages())
		loadRefused(t, name+" with no bytes", d.with(name, "").pages())
		loadRefused(t, name+" with a byte more", d.with(name, d.texts[name]+"\n").pages())
		loadRefused(t, name+" with a byte ahead", d.with(name, " "+d.texts[name]).pages())
		loadRefused(t, name+" with a byte less", d.with(name, d.texts[name][:len(d.texts[name])-1]).pages())
	}
	for _, name := range []string{"a", "lay", "lay2", "lay3", "lay9", "lay00", "lay01", "lay10", "rows", "zzz", "first", "next"} {
		for _, text := range []string{"", "x", "new /zz 0 -\n"} {
			// A layer more that has nothing is one that fits.
			if name == "first" || name == "lay2" && text == "" {
				continue
			}
			loadRefused(t, "one name too many, "+name, d.with(name, text).pages())
		}
	}
	one, two := d.texts["lay0"], d.texts["lay1"]
	loadRefused(t, "layers out of order", d.with("lay0", two).with("lay1", one).pages())
	loadRefused(t, "layers of other numbers", d.without("lay0").without("lay1").with("lay1", one).with("lay2", two).pages())
	loadRefused(t, "a layer that is left out", d.without("lay1").with("lay2", two).pages())
	loadRefused(t, "a layer twice", d.with("lay2", two).pages())
	many := d
	for i := range 5 {
		many = many.with(fmt.Sprint("lay", i+2), "")
	}
	loadRefused(t, "seven layers", many.pages())
	if s, ok := impl.StateLoad(many.without("lay6").pages()); !ok || len(s.Layers) != 6 {
		t.Errorf("six layers: %v %+v", ok, s)
	}
	broken := d.pages()
	broken.Pages[1].Data += "x"
	loadRefused(t, "pages that are not ok", broken)
	broken = d.pages()
	broken.Pages[95].Used = true
	loadRefused(t, "a page that is used by none", broken)
}

// Texts that are good each by itself, but do not go together.
func TestTextsThatDoNotGoTogether(t *testing.T) {
	_, p := someState(t)
	d, _ := p.desk()
	for what, k := range map[string][2]string{
		"another first tree":                  {"first", exampleText + "dir /e 0\n"},
		"a first tree that no layer fits":     {"first", "dir / 0\n"},
		"a layer of nothing":                  {"lay1", ""},
		"a layer of a line less":              {"lay1", "mode /c/f 2\n"},
		"a layer that does not fit":           {"lay1", "gone /zz\n"},
		"no upper":                            {"upper", ""},
		"another upper":                       {"upper", "dir / 1\n"},
		"an upper that hides what is not":     {"upper", "hide /zz\n"},
		"an upper that puts what is so":       {"upper", d.texts["upper"] + "file /zz 0 -\n"},
		"no marks":                            {"trail", ""},
		"a mark less":                         {"trail", "at /a/b\nsub /c/f\nat /n\n"},
		"marks out of order":                  {"trail", "at /n\nsub /c/f\nsub /f\nat /a/b\n"},
		"another mark":                        {"trail", "at /a\nsub /c/f\nsub /f\nat /n\n"},
		"a mark without Sub":                  {"trail", "at /a/b\nsub /c/f\nat /f\nat /n\n"},
		"no nodes":                            {"nodes", "next 9\n"},
		"nodes of the first tree":             {"nodes", "next 9\n1 /a\n2 /a/b\n3 /c\n4 /d\n5 /d/e\n"},
		"a node more":                         {"nodes", strings.Replace(d.texts["nodes"], "next 9\n", "next 10\n", 1) + "9 /zz\n"},
		"a next that was given":               {"nodes", strings.Replace(d.texts["nodes"], "next 9\n", "next 8\n", 1)},
		"what is one in another place, nodes": {"nodes", d.texts["trail"]},
		"what is one in another place, upper": {"upper", d.texts["first"]},
		"what is one in another place, trail": {"trail", d.texts["upper"]},
		"what is one in another place, first": {"first", d.texts["upper"]},
	} {
		if d.texts[k[0]] == k[1] {
			t.Errorf("%s: it is the same", what)
		}
		loadRefused(t, what, d.with(k[0], k[1]).pages())
	}
	for what, k := range map[string][2]string{
		"all marked":             {"trail", "sub /\n"},
		"a mark more":            {"trail", d.texts["trail"] + "at /zz\n"},
		"a greater next":         {"nodes", strings.Replace(d.texts["nodes"], "next 9\n", "next 10000\n", 1)},
		"a layer that is longer": {"lay1", d.texts["lay1"] + "mode / 0\n"},
		// What is sealed is told by these alone, so that it is other then.
		"the first tree's mode": {"first", "dir / 1\n" + strings.TrimPrefix(exampleText, "dir / 0\n")},
		"a part less that goes": {"first", strings.TrimSuffix(exampleText, "file /d/e 0 00ff\n")},
		"a layer of what goes":  {"lay1", "mode /c/f 2\nnew /n 0 79\n"},
	} {
		pages := d.with(k[0], k[1]).pages()
		s, ok := impl.StateLoad(pages)
		saved, code := impl.StateSave(s)
		if !ok || !impl.StateOk(s) || code != 0 || impl.PagesWrite(saved) != impl.PagesWrite(pages) {
			t.Errorf("%s: %v, code %d", what, ok, code)
		}
	}
}

// Pages need not stand as they are kept at first.
func TestStatesInAnyPages(t *testing.T) {
	r := newMaker(30)
	s, p := someState(t)
	d, _ := p.desk()
	for range 20 {
		pages := r.scattered(d.pages())
		loaded, ok := impl.StateLoad(pages)
		if !impl.PagesOk(pages) || !ok || !sameState(loaded, s) {
			t.Errorf("%v: loaded %v %+v", pages, ok, loaded)
		}
	}
	again := newDesk()
	for _, name := range slices.Sorted(maps.Keys(d.texts)) {
		again = again.with(name, d.texts[name])
	}
	if loaded, ok := impl.StateLoad(again.pages()); !ok || !sameState(loaded, s) {
		t.Errorf("in the order of names: loaded %v %+v", ok, loaded)
	}
}

// scattered is the same pages in other places.
func (r maker) scattered(p impl.Pages) impl.Pages {
	to := r.Perm(len(p.Pages))
	place := func(at int) int {
		if at < 0 {
			return at
		}
		return to[at]
	}
	out := impl.Pages{Pages: make([]impl.Page, len(p.Pages)), Names: slices.Clone(p.Names)}
	for i, page := range p.Pages {
		page.Next = place(page.Next)
		out.Pages[to[i]] = page
	}
	for i := range out.Names {
		out.Names[i].First = place(out.Names[i].First)
	}
	return out
}

// A text that was changed anywhere is not loaded, or it is a state that is ok, and saved as it was.
func TestStateTextsTampered(t *testing.T) {
	s, p := newState(t, "small", modelOf(dir(0, named{"a", file(0, "x")})))
	s, p = doIn(t, "small", s, p, renaming("/a", "/b"), 0)
	s, p = commitIn(t, "small", s, p, 0)
	_, p = doIn(t, "small", s, p, call(mkdir, "/c", 1), 0)
	d, _ := p.desk()
	taken := 0
	for _, name := range slices.Sorted(maps.Keys(d.texts)) {
		whole := d.texts[name]
		tamper(whole, func(text string) {
			pages := d.with(name, text).pages()
			s, ok := impl.StateLoad(pages)
			if !ok {
				if text == whole || !noState(s) {
					t.Errorf("%s %q: refused %+v", name, text, s)
				}
				return
			}
			taken++
			saved, code := impl.StateSave(s)
			if !impl.StateOk(s) || code != 0 || impl.PagesWrite(saved) != impl.PagesWrite(pages) {
				t.Errorf("%s %q: loaded %+v", name, text, s)
			}
		})
		if t.Failed() {
			return
		}
	}
	if taken < 50 {
		t.Errorf("%d taken", taken)
	}
}

// any is a call as any; of some it is one at the root.
func (r maker) any(m model) impl.Call {
	return r.touching(m, r.IntN(2) == 0)
}

func TestMadeUpStates(t *testing.T) {
	r := newMaker(31)
	codes, commits, kept := map[int]int{}, map[int]int{}, 0
	for i := range 70 {
		m := r.model(i % 31)
		s, p := newState(t, "made up", m)
		if i%7 == 0 {
			p.ids.next = 9998
			s = p.state()
		}
		for range 25 {
			if r.IntN(5) == 0 {
				_, code := p.commit()
				s, p = commitIn(t, "made up", s, p, code)
				commits[code]++
			}
			c := r.any(p.seen)
			_, code := p.do(c)
			s, p = doIn(t, "made up", s, p, c, code)
			codes[code]++
			if _, fits := p.desk(); fits && r.IntN(3) == 0 {
				pages, _ := impl.StateSave(s)
				s, _ = impl.StateLoad(r.scattered(pages))
				kept++
			}
			if t.Failed() {
				return
			}
		}
	}
	if len(codes) != 7 || commits[0] < 100 || commits[4] < 10 || kept < 200 {
		t.Errorf("codes %v, commits %v, %d kept", codes, commits, kept)
	}
}

// spoilState changes one thing of a state, or takes it from another one.
func (r maker) spoilState(s, other impl.State, m model) impl.State {
	switch r.IntN(8) {
	case 0:
		s.First = other.First
	case 1:
		s.Rows = r.spoil(s.Rows, other.Rows)
	case 2:
		s.Upper = r.spoilUpper(s.Upper, other.Upper, m)
	case 3:
		s.Trail = impl.TrailAdd(s.Trail, r.mark(true))
	case 4:
		if len(s.Trail) > 0 {
			at := r.IntN(len(s.Trail))
			s.Trail = slices.Delete(slices.Clone(s.Trail), at, at+1)
		}
	case 5:
		s.Nodes = other.Nodes
	case 6:
		s.Layers = other.Layers
	case 7:
		s.Trail = other.Trail
	}
	return s
}

// plainlyOkState asks for each thing that the document says of a state that is ok.
func plainlyOkState(s impl.State) bool {
	x := s.First
	for _, layer := range s.Layers {
		list, read := impl.LayerRead(layer)
		next, fits := impl.LayerApply(x, list)
		if !read || !fits {
			return false
		}
		x = next
	}
	sealed, ok := impl.TableTree(s.Rows)
	seen, is := impl.UpperTree(s.Rows, s.Upper)
	return impl.TreeOk(s.First) && len(s.Layers) <= 6 && ok && same(x, sealed) && is && impl.TrailCovers(sealed, seen, s.Trail) && impl.NodesOk(s.Nodes, seen)
}

func TestSpoiltStates(t *testing.T) {
	r := newMaker(32)
	taken, refused := 0, 0
	for i := range 150 {
		var some []impl.State
		m := r.model(1 + i%12)
		p := storyOf(m)
		for range 8 {
			p, _ = p.do(r.any(p.seen))
			if r.IntN(4) == 0 {
				p, _ = p.commit()
			}
			some = append(some, p.state())
		}
		for range 6 {
			s := r.spoilState(some[r.IntN(8)], some[r.IntN(8)], p.seen)
			if plainlyOkState(s) {
				taken++
				pages, code := impl.StateSave(s)
				loaded, ok := impl.StateLoad(pages)
				if !impl.StateOk(s) || code != 0 || !ok || !sameState(loaded, s) {
					t.Fatalf("refused: %+v", s)
				}
				continue
			}
			refused++
			stateRefused(t, "spoilt", s)
			if t.Failed() {
				t.Fatalf("taken: %+v", s)
			}
		}
	}
	if taken < 150 || refused < 150 {
		t.Errorf("%d taken, %d refused", taken, refused)
	}
}
