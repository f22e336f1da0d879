package plan

import (
	"math"
	"testing"

	"jostle/api"
)

// is holds what was told against what should be.
func is[T comparable](t *testing.T, name string, got, want T) {
	t.Helper()
	if got != want {
		t.Errorf("%s: %v, not %v", name, got, want)
	}
}

// of is a configuration by what shapes its plan; the other parts are at their least.
func of(algo, threads, nodes, level int) api.Conf {
	return api.Conf{Algo: algo, Threads: threads, Nodes: nodes, Level: level, Batch: 1, Probes: 1, Scan: 1}
}

// made is the plan of a configuration that may be.
func made(t *testing.T, c api.Conf) Plan {
	t.Helper()
	p, e := New(c)
	if e != api.OK {
		t.Fatalf("New(%v): error %d", c, e)
	}
	return p
}

// place is what Where tells.
type place struct {
	in, x, y int
}

func where(p Plan, a int) place {
	in, x, y := p.Where(a)
	return place{in, x, y}
}

// counts is what a plan tells of its numbers.
type counts struct {
	slots, width, sentinels, size int
}

func tell(p Plan) counts {
	return counts{p.Slots(), p.Width(), p.Sentinels(), p.Size()}
}

// leastNodes is each algorithm's least number of nodes.
func leastNodes(algo int) int {
	return []int{1, 3, 3}[algo]
}

// shapes is every configuration whose plan is unlike the others: what Batch, Probes and Scan say has no place in memory.
func shapes() []api.Conf {
	var l []api.Conf
	for algo := range 3 {
		for threads := 1; threads <= 6; threads++ {
			for nodes := leastNodes(algo); nodes <= 64; nodes++ {
				for level := 1; level <= 6; level++ {
					l = append(l, of(algo, threads, nodes, level))
				}
			}
		}
	}
	return l
}

// laid is a memory's places, in order, laid one by one as the chapter's words have it.
func laid(c api.Conf) []place {
	slots := []int{2, 2*c.Level + 2, 2*c.Level + 2}[c.Algo]
	width := []int{3, 5 + c.Level, 5 + c.Level}[c.Algo]
	var l []place
	for a := range 8 {
		l = append(l, place{0, a, 0})
	}
	for thread := range c.Threads {
		for slot := range slots {
			l = append(l, place{1, thread, slot})
		}
	}
	for node := 1; node <= c.Nodes; node++ {
		l = append(l, place{2, node, 0})
	}
	for node := 1; node <= c.Nodes; node++ {
		for field := range width {
			l = append(l, place{3, node, field})
		}
	}
	if c.Algo == api.Mound {
		for pos := range 1 << c.Level {
			l = append(l, place{4, pos, 0})
		}
	}
	return l
}

// The chapter's example.
func TestExample(t *testing.T) {
	p := made(t, of(api.Mound, 1, 2, 1))
	is(t, "Size", p.Size(), 20)
	is(t, "Node(2, 1)", p.Node(2, 1), 16)
}

// The numbers by which others name words, fields and areas.
func TestConstants(t *testing.T) {
	is(t, "words for all", [5]int{Free, Epoch, Depth, Tickets, Globals}, [5]int{0, 1, 2, 3, 8})
	is(t, "fields", [7]int{Order, Value, Refs, Tall, Back, Links, Then}, [7]int{0, 1, 2, 3, 4, 5, 2})
	is(t, "areas", [6]int{InGlobals, InHazards, InLinks, InNodes, InTree, Nowhere}, [6]int{0, 1, 2, 3, 4, 5})
}

// Promise 6.1: the numbers of plans of each algorithm, the smallest and the greatest among them.
func TestCounts(t *testing.T) {
	for _, c := range []struct {
		conf api.Conf
		want counts
	}{
		{of(api.Mound, 1, 1, 1), counts{2, 3, 0, 8 + 2 + 1 + 3 + 2}},
		{of(api.Mound, 1, 2, 1), counts{2, 3, 0, 20}},
		{of(api.Mound, 2, 8, 3), counts{2, 3, 0, 8 + 4 + 8 + 24 + 8}},
		{of(api.Mound, 6, 64, 6), counts{2, 3, 0, 340}},
		{of(api.Sundell, 1, 3, 1), counts{4, 6, 2, 8 + 4 + 3 + 18}},
		{of(api.Sundell, 2, 8, 3), counts{8, 8, 2, 8 + 16 + 8 + 64}},
		{of(api.Sundell, 6, 64, 6), counts{14, 11, 2, 860}},
		{of(api.Linden, 1, 3, 1), counts{4, 6, 2, 8 + 4 + 3 + 18}},
		{of(api.Linden, 3, 5, 2), counts{6, 7, 2, 8 + 18 + 5 + 35}},
		{of(api.Linden, 6, 64, 6), counts{14, 11, 2, 860}},
	} {
		p := made(t, c.conf)
		is(t, "what is told", tell(p), c.want)
		is(t, "Conf", p.Conf(), c.conf)
	}
}

// Promise 6.1: every shape there is has as many words as are laid, which a memory may have.
func TestSizeOfAllShapes(t *testing.T) {
	for _, c := range shapes() {
		n := made(t, c).Size()
		if n != len(laid(c)) || n > api.MaxWords {
			t.Fatalf("Size of %v: %d, not %d", c, n, len(laid(c)))
		}
	}
}

// part is a part of a configuration, and its limits.
type part struct {
	name        string
	at          func(c *api.Conf) *int
	least, most int
}

// parts is all of them for an algorithm; Algo's own limits are the same for each.
func parts(algo int) []part {
	return []part{
		{"Algo", func(c *api.Conf) *int { return &c.Algo }, 0, 2},
		{"Threads", func(c *api.Conf) *int { return &c.Threads }, 1, 6},
		{"Nodes", func(c *api.Conf) *int { return &c.Nodes }, leastNodes(algo), 64},
		{"Level", func(c *api.Conf) *int { return &c.Level }, 1, 6},
		{"Batch", func(c *api.Conf) *int { return &c.Batch }, 1, 16},
		{"Probes", func(c *api.Conf) *int { return &c.Probes }, 1, 16},
		{"Scan", func(c *api.Conf) *int { return &c.Scan }, 1, 64},
	}
}

// bases is configurations of an algorithm that may be: at the least, within, at the most.
func bases(algo int) []api.Conf {
	return []api.Conf{
		of(algo, 1, leastNodes(algo), 1),
		{Algo: algo, Threads: 2, Nodes: 8, Level: 3, Batch: 4, Probes: 5, Scan: 6},
		{Algo: algo, Threads: 6, Nodes: 64, Level: 6, Batch: 16, Probes: 16, Scan: 64},
	}
}

// with is c with one part changed.
func with(c api.Conf, f part, n int) api.Conf {
	*f.at(&c) = n
	return c
}

// refused holds that a configuration has no plan, and that what is told beside the error is the zero one.
func refused(t *testing.T, c api.Conf) {
	t.Helper()
	p, e := New(c)
	if e != api.ErrConfig || p != (Plan{}) {
		t.Errorf("New(%v): %v, error %d", c, p, e)
	}
	isZero(t, p)
}

// wrong is numbers that a part with these limits may not have.
func wrong(f part) []int {
	l := []int{f.least - 1, f.least - 2, -1, -2, -f.most, math.MinInt, math.MinInt + 1, math.MinInt32}
	return append(l, f.most+1, f.most+2, 2*f.most+2, 256+f.least, 1<<32+f.least, math.MaxInt32, math.MaxInt-1, math.MaxInt)
}

// Promise 6.1, New: each part at every number that it may have, whatever the others are; Conf tells all of them back.
func TestNewTakes(t *testing.T) {
	for algo := range 3 {
		for _, f := range parts(algo)[1:] {
			for _, b := range bases(algo) {
				for n := f.least; n <= f.most; n++ {
					c := with(b, f, n)
					p, e := New(c)
					if e != api.OK || p.Conf() != c {
						t.Errorf("New(%v), %s %d: %v, error %d", c, f.name, n, p.Conf(), e)
					}
				}
			}
		}
	}
}

// Promise 6.1, New: each part just outside its limits, and far outside.
func TestNewRefuses(t *testing.T) {
	for algo := range 3 {
		for _, f := range parts(algo) {
			for _, b := range bases(algo) {
				for _, n := range wrong(f) {
					refused(t, with(b, f, n))
				}
			}
		}
	}
}

// Promise 6.1, New: several parts wrong at once, any two of them and all.
func TestNewRefusesSeveral(t *testing.T) {
	for algo := range 3 {
		l := parts(algo)
		for i, f := range l {
			for _, g := range l[i+1:] {
				for _, n := range wrong(f) {
					for _, o := range []int{g.least - 1, g.most + 1, math.MinInt, math.MaxInt} {
						refused(t, with(with(bases(algo)[1], f, n), g, o))
					}
				}
			}
		}
	}
	refused(t, api.Conf{})
	refused(t, api.Conf{Algo: api.Linden})
	refused(t, api.Conf{Algo: -1, Threads: -1, Nodes: -1, Level: -1, Batch: -1, Probes: -1, Scan: -1})
	refused(t, api.Conf{Algo: 3, Threads: 7, Nodes: 65, Level: 7, Batch: 17, Probes: 17, Scan: 65})
}

// Promise 6.1, New: Nodes must be more than the sentinels are.
func TestNewAsksForMoreThanSentinels(t *testing.T) {
	for _, c := range []struct {
		algo, nodes int
		want        api.Errno
	}{
		{api.Mound, 0, api.ErrConfig},
		{api.Mound, 1, api.OK},
		{api.Mound, 2, api.OK},
		{api.Sundell, 0, api.ErrConfig},
		{api.Sundell, 1, api.ErrConfig},
		{api.Sundell, 2, api.ErrConfig},
		{api.Sundell, 3, api.OK},
		{api.Linden, 0, api.ErrConfig},
		{api.Linden, 1, api.ErrConfig},
		{api.Linden, 2, api.ErrConfig},
		{api.Linden, 3, api.OK},
		{-1, 1, api.ErrConfig},
		{3, 3, api.ErrConfig},
	} {
		p, e := New(of(c.algo, 1, c.nodes, 1))
		if e != c.want || e == api.OK && p.Sentinels() >= c.nodes {
			t.Errorf("algorithm %d, %d nodes: error %d, %d sentinels", c.algo, c.nodes, e, p.Sentinels())
		}
	}
}

// A plan is compared as a whole: plans are one, if their configurations are.
func TestPlansCompared(t *testing.T) {
	var l []api.Conf
	for algo := range 3 {
		l = append(l, bases(algo)...)
		for _, f := range parts(algo)[1:] {
			l = append(l, with(bases(algo)[1], f, f.most))
		}
	}
	for _, c := range l {
		for _, d := range l {
			if p, q := made(t, c), made(t, d); (p == q) != (c == d) {
				t.Errorf("plans of %v and %v: one is %v", c, d, p == q)
			}
		}
		if made(t, c) == (Plan{}) {
			t.Errorf("the plan of %v is zero", c)
		}
	}
}

// far is numbers that no thread, slot, node, field, pos or address has, whatever the configuration.
func far() []int {
	return []int{math.MinInt, math.MinInt + 1, math.MinInt32, -1 << 32, -1 << 62, -4096, -65, -9, -8, -2, -1,
		4096, 1 << 16, math.MaxInt32, 1 << 32, 1 << 61, 1 << 62, math.MaxInt - 1, math.MaxInt}
}

// isZero holds what every call tells of a zero plan.
func isZero(t *testing.T, p Plan) {
	t.Helper()
	is(t, "a zero plan's Conf", p.Conf(), api.Conf{})
	is(t, "what a zero plan tells", tell(p), counts{})
	for _, x := range append(far(), 0, 1, 2, 3, 7, 8, 9, 63, 64) {
		is(t, "a zero plan's Link", p.Link(x), -1)
		is(t, "a zero plan's Tree", p.Tree(x), -1)
		is(t, "a zero plan's Where", where(p, x), place{in: 5})
		for _, y := range []int{math.MinInt, -1, 0, 1, 2, math.MaxInt} {
			is(t, "a zero plan's Hazard", p.Hazard(x, y), -1)
			is(t, "a zero plan's Node", p.Node(x, y), -1)
		}
	}
}

// Promises 6.1 and 6.2: a zero plan, for every call.
func TestZeroPlan(t *testing.T) {
	var p Plan
	isZero(t, p)
}

// Promise 6.2: addresses of ordinary plans, as they are reckoned by hand.
func TestAddresses(t *testing.T) {
	m := made(t, of(api.Mound, 2, 3, 2))
	is(t, "the mound's slots", [4]int{m.Hazard(0, 0), m.Hazard(0, 1), m.Hazard(1, 0), m.Hazard(1, 1)}, [4]int{8, 9, 10, 11})
	is(t, "the mound's links", [3]int{m.Link(1), m.Link(2), m.Link(3)}, [3]int{12, 13, 14})
	is(t, "the mound's nodes", [4]int{m.Node(1, Order), m.Node(1, Then), m.Node(2, Value), m.Node(3, Then)}, [4]int{15, 17, 19, 23})
	is(t, "the mound's tree", [4]int{m.Tree(0), m.Tree(1), m.Tree(2), m.Tree(3)}, [4]int{24, 25, 26, 27})
	is(t, "the mound's size", m.Size(), 28)
	for _, algo := range []int{api.Sundell, api.Linden} {
		s := made(t, of(algo, 2, 4, 3))
		is(t, "a skip list's slots", [4]int{s.Hazard(0, 0), s.Hazard(0, 7), s.Hazard(1, 0), s.Hazard(1, 7)}, [4]int{8, 15, 16, 23})
		is(t, "a skip list's links", [2]int{s.Link(1), s.Link(4)}, [2]int{24, 27})
		is(t, "a skip list's nodes", [4]int{s.Node(1, Order), s.Node(1, Links+2), s.Node(2, Tall), s.Node(4, Links+2)}, [4]int{28, 35, 39, 59})
		is(t, "a skip list's tree", [3]int{s.Tree(0), s.Tree(1), s.Tree(7)}, [3]int{-1, -1, -1})
		is(t, "a skip list's size", s.Size(), 60)
	}
}

// Promise 6.2, Where: places of ordinary plans, as they are reckoned by hand.
func TestPlaces(t *testing.T) {
	m := made(t, of(api.Mound, 2, 3, 2))
	s := made(t, of(api.Linden, 2, 4, 3))
	for _, c := range []struct {
		p    Plan
		a    int
		want place
	}{
		{m, 0, place{InGlobals, Free, 0}},
		{m, 3, place{InGlobals, Tickets, 0}},
		{m, 7, place{InGlobals, 7, 0}},
		{m, 8, place{InHazards, 0, 0}},
		{m, 11, place{InHazards, 1, 1}},
		{m, 12, place{InLinks, 1, 0}},
		{m, 14, place{InLinks, 3, 0}},
		{m, 15, place{InNodes, 1, Order}},
		{m, 23, place{InNodes, 3, Then}},
		{m, 24, place{InTree, 0, 0}},
		{m, 27, place{InTree, 3, 0}},
		{m, 28, place{Nowhere, 0, 0}},
		{s, 7, place{InGlobals, 7, 0}},
		{s, 15, place{InHazards, 0, 7}},
		{s, 16, place{InHazards, 1, 0}},
		{s, 24, place{InLinks, 1, 0}},
		{s, 28, place{InNodes, 1, Order}},
		{s, 59, place{InNodes, 4, Links + 2}},
		{s, 60, place{Nowhere, 0, 0}},
	} {
		if got := where(c.p, c.a); got != c.want {
			t.Errorf("Where(%d) of %v: %v, not %v", c.a, c.p.Conf(), got, c.want)
		}
	}
}

// addressOf is what a plan tells of a place's address; the words for all are told by none of its calls.
func addressOf(p Plan, w place) int {
	switch w.in {
	case InHazards:
		return p.Hazard(w.x, w.y)
	case InLinks:
		return p.Link(w.x)
	case InNodes:
		return p.Node(w.x, w.y)
	case InTree:
		return p.Tree(w.x)
	}
	return w.x
}

// Promises 6.2 and 6.3: of every shape there is, each thing lies where it is laid, and Where tells it back.
func TestAllShapes(t *testing.T) {
	for _, c := range shapes() {
		p := made(t, c)
		for a, w := range laid(c) {
			if got := addressOf(p, w); got != a {
				t.Fatalf("the address of %v of %v: %d, not %d", w, c, got, a)
			}
			if got := where(p, a); got != w {
				t.Fatalf("Where(%d) of %v: %v, not %v", a, c, got, w)
			}
		}
	}
}

// Promise 6.3: by the plan's own words alone, no two things have one address, and each address is something's.
func TestEachAddressOnce(t *testing.T) {
	for _, c := range shapes() {
		p := made(t, c)
		owners := make([]int, p.Size())
		take := func(a int) {
			if a < 0 || a >= len(owners) {
				t.Fatalf("%v: an address %d, of %d words", c, a, len(owners))
			}
			owners[a]++
		}
		for a := range Globals {
			take(a)
		}
		for thread := range c.Threads {
			for slot := range p.Slots() {
				take(p.Hazard(thread, slot))
			}
		}
		for node := 1; node <= c.Nodes; node++ {
			take(p.Link(node))
			for field := range p.Width() {
				take(p.Node(node, field))
			}
		}
		for pos := range 1 << c.Level {
			if c.Algo == api.Mound {
				take(p.Tree(pos))
			}
		}
		for a, n := range owners {
			if n != 1 {
				t.Fatalf("%v: %d things at address %d", c, n, a)
			}
		}
	}
}

// Promise 6.2: what Hazard, Link, Node and Tree tell at any small numbers is an address whose place it is, or -1.
func TestSmallNumbers(t *testing.T) {
	for algo := range 3 {
		for _, c := range bases(algo) {
			p := made(t, c)
			things := map[place]int{}
			for a, w := range laid(c) {
				things[w] = a
			}
			hold := func(w place) {
				want, ok := things[w]
				if !ok {
					want = -1
				}
				if got := addressOf(p, w); got != want {
					t.Errorf("the address of %v of %v: %d, not %d", w, c, got, want)
				}
			}
			for x := -70; x < 140; x++ {
				hold(place{InLinks, x, 0})
				hold(place{InTree, x, 0})
				for y := -20; y < 40; y++ {
					hold(place{InHazards, x, y})
					hold(place{InNodes, x, y})
				}
			}
		}
	}
}

// outside is places just past both ends of every area, each beside a number that there is.
func outside(p Plan) []place {
	c := p.Conf()
	var l []place
	for thread := range c.Threads {
		l = append(l, place{InHazards, thread, -1}, place{InHazards, thread, p.Slots()})
	}
	for slot := range p.Slots() {
		l = append(l, place{InHazards, -1, slot}, place{InHazards, c.Threads, slot})
	}
	for node := 1; node <= c.Nodes; node++ {
		l = append(l, place{InNodes, node, -1}, place{InNodes, node, p.Width()})
	}
	for field := range p.Width() {
		l = append(l, place{InNodes, -1, field}, place{InNodes, 0, field}, place{InNodes, c.Nodes + 1, field})
	}
	l = append(l, place{InLinks, -1, 0}, place{InLinks, 0, 0}, place{InLinks, c.Nodes + 1, 0})
	l = append(l, place{InTree, -1, 0}, place{InTree, 1 << c.Level, 0})
	for pos := range 1 << c.Level {
		if c.Algo != api.Mound {
			l = append(l, place{InTree, pos, 0})
		}
	}
	return l
}

// Promise 6.2: of every shape there is, just outside at both ends there is no address.
func TestJustOutside(t *testing.T) {
	for _, c := range shapes() {
		p := made(t, c)
		for _, w := range outside(p) {
			if got := addressOf(p, w); got != -1 {
				t.Fatalf("the address of %v of %v: %d", w, c, got)
			}
		}
		for _, a := range []int{-1, p.Size(), p.Size() + 1} {
			if got := where(p, a); got != (place{in: Nowhere}) {
				t.Fatalf("Where(%d) of %v: %v", a, c, got)
			}
		}
	}
}

// Promise 6.2: the least and greatest int, and others far outside, in either place and in both.
func TestFarOutside(t *testing.T) {
	for algo := range 3 {
		for _, c := range bases(algo) {
			p := made(t, c)
			for _, x := range far() {
				is(t, "Link, far outside", p.Link(x), -1)
				is(t, "Tree, far outside", p.Tree(x), -1)
				is(t, "Where, far outside", where(p, x), place{in: Nowhere})
				for _, y := range append(far(), 0, 1) {
					is(t, "Hazard, far outside", p.Hazard(x, y), -1)
					is(t, "Hazard, far outside", p.Hazard(y, x), -1)
					is(t, "Node, far outside", p.Node(x, y), -1)
					is(t, "Node, far outside", p.Node(y, x), -1)
				}
			}
		}
	}
}

// What a plan tells hangs on its configuration alone: Batch, Probes and Scan move nothing, and a copy tells the same.
func TestCopiesTellTheSame(t *testing.T) {
	for algo := range 3 {
		p := made(t, of(algo, 2, 8, 3))
		q := made(t, api.Conf{Algo: algo, Threads: 2, Nodes: 8, Level: 3, Batch: 16, Probes: 16, Scan: 64})
		r := p
		is(t, "what a plan of other parts tells", tell(q), tell(p))
		for a := -1; a <= p.Size(); a++ {
			is(t, "Where of a plan of other parts", where(q, a), where(p, a))
			is(t, "Where of a copy", where(r, a), where(p, a))
			is(t, "an address of a plan of other parts", addressOf(q, where(p, a)), addressOf(p, where(p, a)))
		}
		is(t, "a copy", r, p)
	}
}
