package ghost

import (
	"fmt"
	"math"
	"slices"
	"testing"
)

// is holds what was told against what should be.
func is[T comparable](t *testing.T, name string, got, want T) {
	t.Helper()
	if got != want {
		t.Errorf("%s: %v, not %v", name, got, want)
	}
}

// A deed's number is its place in the names, and in the rules.
const (
	alloc = iota
	retire
	release
	touch
	deeds
)

// names is how deeds are told.
func names() [deeds]string { return [deeds]string{"Alloc", "Retire", "Release", "Touch"} }

// do has a ghost do a deed.
func do(g *Ghost, deed, i int) bool {
	switch deed {
	case alloc:
		return g.Alloc(i)
	case retire:
		return g.Retire(i)
	case release:
		return g.Release(i)
	}
	return g.Touch(i)
}

// rule is what comes of a deed at a node with a tag: whether it may be, the tag behind it, the fault's kind.
type rule struct {
	may       bool
	tag, kind int
}

// rules is the chapter's words, written out: by deed, then by the tag ahead (0 free, 1 live, 2 retired).
func rules() [deeds][3]rule {
	return [deeds][3]rule{
		alloc:   {{true, 1, 0}, {false, 1, 1}, {false, 2, 1}},
		retire:  {{false, 0, 2}, {true, 2, 0}, {false, 2, 2}},
		release: {{false, 0, 3}, {false, 1, 3}, {true, 0, 0}},
		touch:   {{false, 0, 4}, {true, 1, 0}, {true, 2, 0}},
	}
}

// absent is numbers that no node has, whatever there is.
func absent() []int {
	return []int{math.MinInt, math.MinInt + 1, math.MinInt32, -1 << 32, -65, -64, -2, -1, 0,
		65, 66, 128, 1 << 16, 1 << 32, 1<<32 + 1, math.MaxInt32, math.MaxInt - 1, math.MaxInt}
}

// noTags is numbers that are no tag.
func noTags() []int {
	return []int{math.MinInt, math.MinInt + 1, -1 << 32, -3, -2, -1, 3, 4, 5, 6, 64, 1 << 32, 1<<32 + 1, math.MaxInt - 1, math.MaxInt}
}

// holds asks a ghost in every way that changes nothing, twice, since asking is no deed; node 1's tag is the first one.
func holds(t *testing.T, name string, g *Ghost, tags []int, first Fault) {
	t.Helper()
	for range 2 {
		var count [3]int
		for at, tag := range tags {
			count[tag]++
			is(t, fmt.Sprint(name, ", Tag of ", at+1), g.Tag(at+1), tag)
		}
		for tag, n := range count {
			is(t, fmt.Sprint(name, ", Count of ", tag), g.Count(tag), n)
		}
		for _, i := range append(absent(), len(tags)+1) {
			is(t, fmt.Sprint(name, ", Tag of ", i), g.Tag(i), 0)
		}
		for _, tag := range noTags() {
			is(t, fmt.Sprint(name, ", Count of ", tag), g.Count(tag), 0)
		}
		is(t, name+", First", g.First(), first)
	}
}

// of is a ghost whose nodes have these tags, by deeds that may be.
func of(t *testing.T, tags ...int) *Ghost {
	t.Helper()
	g := New(len(tags), 0)
	for at, tag := range tags {
		for deed := range tag {
			if !do(g, deed, at+1) {
				t.Fatalf("laying tag %d of node %d: %s is refused", tag, at+1, names()[deed])
			}
		}
	}
	holds(t, fmt.Sprint("laid ", tags), g, tags, Fault{})
	return g
}

// The chapter's example.
func TestExample(t *testing.T) {
	g := New(2, 0)
	is(t, "Alloc(1)", g.Alloc(1), true)
	is(t, "Alloc(1) again", g.Alloc(1), false)
	is(t, "First", g.First(), Fault{Kind: Twice, Node: 1})
	holds(t, "behind both", g, []int{1, 0}, Fault{1, 1})
}

// The numbers by which others name tags and faults.
func TestConstants(t *testing.T) {
	is(t, "tags", [3]int{Free, Live, Retired}, [3]int{0, 1, 2})
	is(t, "kinds", [6]int{None, Twice, Stray, Again, Touched, Outside}, [6]int{0, 1, 2, 3, 4, 5})
}

// Promises 7.1 and 7.2: an ordinary life, deed by deed, with what is told behind each.
func TestOrdinary(t *testing.T) {
	g := New(3, 1)
	holds(t, "at first", g, []int{1, 0, 0}, Fault{})
	for _, c := range []struct {
		deed, node int
		tags       []int
	}{
		{touch, 1, []int{1, 0, 0}},
		{alloc, 3, []int{1, 0, 1}},
		{touch, 3, []int{1, 0, 1}},
		{retire, 1, []int{2, 0, 1}},
		{touch, 1, []int{2, 0, 1}},
		{alloc, 2, []int{2, 1, 1}},
		{retire, 3, []int{2, 1, 2}},
		{release, 1, []int{0, 1, 2}},
		{alloc, 1, []int{1, 1, 2}},
		{release, 3, []int{1, 1, 0}},
		{retire, 2, []int{1, 2, 0}},
		{release, 2, []int{1, 0, 0}},
	} {
		name := fmt.Sprint(names()[c.deed], " of ", c.node)
		is(t, name, do(g, c.deed, c.node), true)
		holds(t, name, g, c.tags, Fault{})
	}
}

// laid is the tags that New should lay.
func laid(nodes, live int) []int {
	var l []int
	if nodes > 64 {
		return l
	}
	for i := 1; i <= nodes; i++ {
		if i <= live {
			l = append(l, 1)
		} else {
			l = append(l, 0)
		}
	}
	return l
}

// news is what is handed to New: its edges, and what is far outside them.
func news() [][2]int {
	var l [][2]int
	for _, nodes := range []int{math.MinInt, math.MinInt + 1, -1 << 32, -64, -2, -1, 0, 1, 2, 3, 7, 63, 64,
		65, 66, 128, 1 << 16, 1<<32 + 1, math.MaxInt32, math.MaxInt - 1, math.MaxInt} {
		for _, live := range []int{math.MinInt, math.MinInt + 1, math.MinInt32, -2, -1, 0, 1, 2, 63, 64, 65, 1 << 32, math.MaxInt - 1, math.MaxInt} {
			l = append(l, [2]int{nodes, live})
		}
		// Wrapping round is no matter here: the least and the greatest int are meant, too.
		l = append(l, [2]int{nodes, nodes - 1}, [2]int{nodes, nodes}, [2]int{nodes, nodes + 1})
	}
	return l
}

// Promises 7.1 and 7.2, New: at its edges, what there is behind it, for every call and every node.
func TestNew(t *testing.T) {
	for _, n := range news() {
		name := fmt.Sprintf("New(%d, %d)", n[0], n[1])
		tags := laid(n[0], n[1])
		g := New(n[0], n[1])
		if g == nil {
			t.Fatalf("%s: nil", name)
		}
		holds(t, name, g, tags, Fault{})
		for deed, row := range rules() {
			for at, tag := range tags {
				tryOne(t, name, New(n[0], n[1]), tags, deed, at+1, row[tag])
			}
			for _, i := range append(absent(), len(tags)+1) {
				tryOne(t, name, New(n[0], n[1]), tags, deed, i, rule{kind: 5})
			}
		}
	}
}

// tryOne has a ghost with these tags, and no fault yet, do one deed, and looks at all that came of it.
func tryOne(t *testing.T, name string, g *Ghost, tags []int, deed, i int, want rule) {
	t.Helper()
	name = fmt.Sprint(name, ", ", names()[deed], " of ", i)
	is(t, name, do(g, deed, i), want.may)
	var first Fault
	if !want.may {
		first = Fault{want.kind, i}
	}
	behind := slices.Clone(tags)
	if i >= 1 && i <= len(behind) {
		behind[i-1] = want.tag
	}
	if !same(g, &model{behind, first}) {
		t.Errorf("%s: %v, not %v and %v", name, *g, behind, first)
	}
	// What there isn't is asked of small ghosts alone, where it takes less long.
	if len(tags) <= 3 {
		holds(t, name, g, behind, first)
	}
}

// Promise 7.1, New: how many are live, of every number of nodes and live ones that there can be.
func TestNewOfAllSizes(t *testing.T) {
	for nodes := 1; nodes <= 64; nodes++ {
		for live := -1; live <= nodes+1; live++ {
			g, sure := New(nodes, live), max(0, min(live, nodes))
			is(t, fmt.Sprintf("New(%d, %d), live", nodes, live), g.Count(1), sure)
			is(t, fmt.Sprintf("New(%d, %d), free", nodes, live), g.Count(0), nodes-sure)
			is(t, fmt.Sprintf("New(%d, %d), the first ones", nodes, live), g.Tag(sure), min(sure, 1))
			is(t, fmt.Sprintf("New(%d, %d), the one behind", nodes, live), g.Tag(sure+1), 0)
		}
	}
}

// Promises 7.1, 7.2 and P1: a nil ghost, for every call; its deeds are refused, and it keeps no fault.
func TestNil(t *testing.T) {
	var g *Ghost
	holds(t, "nil", g, nil, Fault{})
	for deed, name := range names() {
		for _, i := range append(absent(), 1, 2, 3, 63, 64) {
			is(t, fmt.Sprint(name, " of ", i, ", of nil"), do(g, deed, i), false)
			is(t, fmt.Sprint(name, " of ", i, ", Tag"), g.Tag(i), 0)
		}
		holds(t, "nil, behind "+name, g, nil, Fault{})
	}
}

// A zero ghost is one of no nodes.
func TestZero(t *testing.T) {
	for deed := range deeds {
		for _, i := range append(absent(), 1, 2, 64) {
			tryOne(t, "a zero ghost", &Ghost{}, nil, deed, i, rule{kind: 5})
		}
	}
}

// Promises 7.1, 7.2 and 7.3: each deed at a node of each tag, wherever it stands among nodes of all tags.
func TestDeedsAtTags(t *testing.T) {
	for k := range 27 {
		tags := []int{k % 3, k / 3 % 3, k / 9}
		for deed, row := range rules() {
			for at, tag := range tags {
				tryOne(t, fmt.Sprint(tags), of(t, tags...), tags, deed, at+1, row[tag])
			}
		}
	}
}

// Promise 7.1: each deed at a node that there isn't; the fault is Outside of that node.
func TestDeedsOutside(t *testing.T) {
	for deed := range deeds {
		for _, i := range append(absent(), 4, 5, 64) {
			tags := []int{0, 1, 2}
			tryOne(t, "no such node", of(t, tags...), tags, deed, i, rule{kind: 5})
		}
	}
	for deed := range deeds {
		g := New(64, 64)
		is(t, names()[deed]+" of 65", do(g, deed, 65), false)
		is(t, names()[deed]+" of 65, First", g.First(), Fault{Outside, 65})
		is(t, names()[deed]+" of 65, live", g.Count(Live), 64)
	}
}

// Promise 7.1: each kind of fault by itself, with its node.
func TestKinds(t *testing.T) {
	for _, c := range []struct {
		name    string
		deed, i int
		want    Fault
	}{
		{"a live one is handed out", alloc, 2, Fault{Twice, 2}},
		{"a retired one is handed out", alloc, 3, Fault{Twice, 3}},
		{"a free one is retired", retire, 1, Fault{Stray, 1}},
		{"a retired one is retired", retire, 3, Fault{Stray, 3}},
		{"a free one is freed", release, 1, Fault{Again, 1}},
		{"a live one is freed", release, 2, Fault{Again, 2}},
		{"a free one is touched", touch, 1, Fault{Touched, 1}},
		{"none is handed out", alloc, 0, Fault{Outside, 0}},
		{"none is retired", retire, 4, Fault{Outside, 4}},
		{"none is freed", release, -1, Fault{Outside, -1}},
		{"none is touched", touch, math.MaxInt, Fault{Outside, math.MaxInt}},
	} {
		g := of(t, 0, 1, 2)
		is(t, c.name, do(g, c.deed, c.i), false)
		holds(t, c.name, g, []int{0, 1, 2}, c.want)
	}
}

// wrong is deeds that are refused of nodes that are free, live and retired, one of each cause.
func wrong() [][2]int {
	return [][2]int{{alloc, 2}, {alloc, 3}, {retire, 1}, {retire, 3}, {release, 1}, {release, 2}, {touch, 1},
		{alloc, 0}, {retire, 4}, {release, math.MinInt}, {touch, math.MaxInt}, {touch, 0}}
}

// Promise 7.2: the first fault stays, whatever fault comes behind it; none of them changes a tag.
func TestFirstStaysBehindFaults(t *testing.T) {
	for _, a := range wrong() {
		g := of(t, 0, 1, 2)
		do(g, a[0], a[1])
		first := g.First()
		is(t, "the first one's node", first.Node, a[1])
		for _, b := range wrong() {
			name := fmt.Sprint(names()[b[0]], " of ", b[1], " behind ", names()[a[0]], " of ", a[1])
			is(t, name, do(g, b[0], b[1]), false)
			holds(t, name, g, []int{0, 1, 2}, first)
		}
	}
}

// Promise 7.2: the first fault stays, whatever is done rightly behind it, and that is done.
func TestFirstStaysBehindRightDeeds(t *testing.T) {
	for _, a := range wrong() {
		g := of(t, 0, 1, 2)
		do(g, a[0], a[1])
		first := g.First()
		tags := []int{0, 1, 2}
		for turn := range 9 {
			for at := range tags {
				deed := tags[at]
				name := fmt.Sprint("turn ", turn, ", ", names()[deed], " of ", at+1)
				is(t, name, do(g, deed, at+1), true)
				tags[at] = (tags[at] + 1) % 3
				is(t, name+", touched", do(g, touch, at+1), tags[at] != 0)
				holds(t, name, g, tags, first)
			}
		}
	}
}

// Promise 7.3: nodes go round many times without a fault, all of them in turn, touched where they may be.
func TestRoundAndRound(t *testing.T) {
	for _, nodes := range []int{1, 2, 5, 64} {
		g := New(nodes, 0)
		for turn := range 300 {
			deed := turn % 3
			for i := 1; i <= nodes; i++ {
				name := fmt.Sprint(nodes, " nodes, turn ", turn, ", ", names()[deed], " of ", i)
				is(t, name, do(g, deed, i), true)
				if deed != release {
					is(t, name+", touched", g.Touch(i), true)
				}
				is(t, name+", Tag", g.Tag(i), (deed+1)%3)
				is(t, name+", how many went on", g.Count((deed+1)%3), i)
				is(t, name+", how many did not", g.Count(deed), nodes-i)
				is(t, name+", First", g.First(), Fault{})
			}
		}
	}
}

// Promise 7.3: nodes that go round each at a pace of its own stay out of one another's way.
func TestRoundAtUnlikePaces(t *testing.T) {
	tags := []int{1, 1, 0, 0, 0}
	g := New(5, 2)
	for turn := range 2000 {
		at := turn * turn / 3 % 5
		is(t, fmt.Sprint("turn ", turn), do(g, tags[at], at+1), true)
		tags[at] = (tags[at] + 1) % 3
		if turn%50 == 0 {
			holds(t, fmt.Sprint("turn ", turn), g, tags, Fault{})
		}
	}
	holds(t, "at the end", g, tags, Fault{})
}

// Promise 7.3: a tag is left for the next one alone, and for none by a deed that is refused or by Touch.
func TestTagsChangeOneByOne(t *testing.T) {
	for tag := range 3 {
		went := 0
		for deed := range deeds {
			g := of(t, tag)
			may := do(g, deed, 1)
			if g.Tag(1) == tag {
				continue
			}
			went++
			is(t, fmt.Sprint(names()[deed], " at tag ", tag, ", the next tag"), g.Tag(1), (tag+1)%3)
			is(t, fmt.Sprint(names()[deed], " at tag ", tag, ", done"), may, true)
		}
		is(t, fmt.Sprint("ways out of tag ", tag), went, 1)
	}
}

// Two ghosts have nothing in common: neither tags nor faults.
func TestTwoGhosts(t *testing.T) {
	a, b := New(3, 1), New(3, 1)
	if a == b || New(0, 0) == New(0, 0) {
		t.Fatal("New told one ghost twice")
	}
	a.Alloc(2)
	a.Retire(1)
	holds(t, "the one", a, []int{2, 1, 0}, Fault{})
	holds(t, "the other one", b, []int{1, 0, 0}, Fault{})
	is(t, "a fault of the one", a.Alloc(1), false)
	holds(t, "the one, at fault", a, []int{2, 1, 0}, Fault{Twice, 1})
	holds(t, "the other one, beside a fault", b, []int{1, 0, 0}, Fault{})
	is(t, "a fault of the other one", b.Touch(7), false)
	b.Alloc(3)
	holds(t, "the one, beside both", a, []int{2, 1, 0}, Fault{Twice, 1})
	holds(t, "the other one, at fault", b, []int{1, 0, 1}, Fault{Outside, 7})
	holds(t, "a new one", New(3, 1), []int{1, 0, 0}, Fault{})

	none, more := New(0, 0), New(65, 0)
	none.Alloc(1)
	holds(t, "one of no nodes", none, nil, Fault{Outside, 1})
	holds(t, "another one of none", more, nil, Fault{})
}

// model is a ghost as the rules have it.
type model struct {
	tags  []int
	first Fault
}

// do does a deed by the rules alone.
func (m *model) do(deed, i int) bool {
	r := rule{kind: 5}
	if i >= 1 && i <= len(m.tags) {
		r = rules()[deed][m.tags[i-1]]
		m.tags[i-1] = r.tag
	}
	if !r.may && m.first.Kind == 0 {
		m.first = Fault{r.kind, i}
	}
	return r.may
}

// same holds a ghost against a model, without asking for what there isn't.
func same(g *Ghost, m *model) bool {
	var count [3]int
	for at, tag := range m.tags {
		count[tag]++
		if g.Tag(at+1) != tag {
			return false
		}
	}
	return g.First() == m.first && [3]int{g.Count(0), g.Count(1), g.Count(2)} == count
}

// Promises 7.1, 7.2 and 7.3: all rows of four deeds at two nodes, and just outside of them.
func TestAllShortRows(t *testing.T) {
	for k := range 1 << 16 {
		g, m := New(2, k%3), &model{tags: laid(2, k%3)}
		for n := range 4 {
			deed, i := k>>(4*n)&3, k>>(4*n+2)&3
			if got, want := do(g, deed, i), m.do(deed, i); got != want || !same(g, m) {
				t.Fatalf("row %x, deed %d, %s of %d: %v, not %v; %v, not %v", k, n, names()[deed], i, got, want, *g, *m)
			}
		}
	}
}

// Promises 7.1, 7.2 and 7.3: long rows of deeds at any nodes, most of which may be.
func TestLongRows(t *testing.T) {
	draw := uint64(7)
	next := func(n int) int {
		draw = draw*6364136223846793005 + 1442695040888963407
		return int(draw >> 33 % uint64(n))
	}
	for row := range 60 {
		nodes := 1 + next(64)
		live := next(nodes + 2)
		g, m := New(nodes, live), &model{tags: laid(nodes, live)}
		for n := range 500 {
			i := 1 + next(nodes)
			deed := m.tags[i-1]
			// Faults come late, so that the deeds ahead of them are seen without one, too.
			if n > 250 && next(3) == 0 {
				deed, i = next(deeds), next(nodes+2)
			}
			if got, want := do(g, deed, i), m.do(deed, i); got != want || !same(g, m) {
				t.Fatalf("row %d, deed %d, %s of %d: %v, not %v; %v, not %v", row, n, names()[deed], i, got, want, *g, *m)
			}
		}
		holds(t, fmt.Sprint("row ", row), g, m.tags, m.first)
	}
}
