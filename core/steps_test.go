package core

import (
	"fmt"
	"math"
	"reflect"
	"testing"

	"jostle/api"
	"jostle/ghost"
	"jostle/mem"
)

// deed is a step of memory, with all that any of them is handed.
type deed struct {
	kind int
	a    int
	o, n uint64
	b    int
	p, q uint64
}

// told is what came of a deed: a number (of Load and Add), or whether it was done.
type told struct {
	number uint64
	done   bool
}

// two tells whether a deed has two addresses.
func (d deed) two() bool { return d.kind == mem.Dcas || d.kind == mem.Dcss }

// does has a machine do a deed.
func does(m *Machine, d deed) told {
	switch d.kind {
	case mem.Load:
		return told{number: m.Load(d.a)}
	case mem.Store:
		m.Store(d.a, d.n)
		return told{}
	case mem.Cas:
		return told{done: m.Cas(d.a, d.o, d.n)}
	case mem.Add:
		return told{number: m.Add(d.a, d.n)}
	case mem.Dcas:
		return told{done: m.Dcas(d.a, d.o, d.n, d.b, d.p, d.q)}
	}
	return told{done: m.Dcss(d.a, d.o, d.n, d.b, d.p)}
}

// twinDoes has a memory of layer 5 do a deed.
func twinDoes(w *mem.Mem, d deed) (told, api.Errno) {
	var x told
	var e api.Errno
	switch d.kind {
	case mem.Load:
		x.number, e = w.Load(d.a)
	case mem.Store:
		e = w.Store(d.a, d.n)
	case mem.Cas:
		x.done, e = w.Cas(d.a, d.o, d.n)
	case mem.Add:
		x.number, e = w.Add(d.a, d.n)
	case mem.Dcas:
		x.done, e = w.Dcas(d.a, d.o, d.n, d.b, d.p, d.q)
	default:
		x.done, e = w.Dcss(d.a, d.o, d.n, d.b, d.p)
	}
	return x, e
}

// twin is a memory of layer 5 with the words that a machine has at first.
func twin(t *testing.T, c api.Conf) *mem.Mem {
	t.Helper()
	words := atFirst(c)
	w, e := mem.New(len(words))
	is(t, "the twin's error", e, api.OK)
	for a, v := range words {
		w.Store(a, v)
	}
	return w
}

// small is configurations with few words.
func small() []api.Conf {
	return []api.Conf{of(api.Mound, 1, 2, 1), of(api.Sundell, 1, 3, 1), of(api.Linden, 2, 3, 1)}
}

// places is all addresses of a configuration, and some that it hasn't.
func places(c api.Conf) []int {
	size := shapeOf(c).size
	l := append(far(), size, size+1)
	for a := range size {
		l = append(l, a)
	}
	return l
}

// pair is a machine and its twin, all deeds of which should be alike.
type pair struct {
	t    *testing.T
	m    *Machine
	w    *mem.Mem
	fail bool // the twin told an error
}

// pairOf is a machine as at first and its twin, both watched from here on.
func pairOf(t *testing.T, c api.Conf, ghosts bool) *pair {
	t.Helper()
	p := &pair{t: t, m: made(t, c, ghosts), w: twin(t, c)}
	p.m.Mem().Watch(true)
	p.w.Watch(true)
	return p
}

// do has both do a deed.
func (p *pair) do(d deed) {
	p.t.Helper()
	before := p.m.Mem().Steps()
	want, e := twinDoes(p.w, d)
	is(p.t, fmt.Sprint(d), does(p.m, d), want)
	p.fail = p.fail || e != api.OK
	counted := 1
	if e != api.OK {
		counted = 0
	}
	is(p.t, fmt.Sprint(d, ": steps counted"), p.m.Mem().Steps()-before, counted)
	same(p.t, fmt.Sprint("words behind ", d), p.m.Mem().Words(), p.w.Words())
}

// right is a deed that finds at both addresses what is there, by the twin's words.
func (p *pair) right(kind, a, b int, n, q uint64) deed {
	return deed{kind, a, p.at(a), n, b, p.at(b), q}
}

// at is the twin's word; of no address, any.
func (p *pair) at(a int) uint64 {
	l := p.w.Words()
	if a < 0 || a >= len(l) {
		return 5
	}
	return l[a]
}

// Promise 16.2: each step on one word, at each address and at those that aren't there: found, and missed.
func TestOneWordSteps(t *testing.T) {
	for _, c := range small() {
		for _, ghosts := range []bool{false, true} {
			p := pairOf(t, c, ghosts)
			n := uint64(1000)
			for _, a := range places(c) {
				for kind := mem.Load; kind <= mem.Add; kind++ {
					n++
					d := p.right(kind, a, 0, n, 0)
					p.do(d)
					p.do(deed{kind: mem.Load, a: a})
					d.o, d.n = d.o+1<<40, math.MaxUint64
					p.do(d)
					p.do(p.right(kind, a, 0, 0, 0))
				}
			}
			same(t, "what was logged", p.m.Mem().Log(), p.w.Log())
			is(t, "Fault", p.m.Fault(), true)
		}
	}
}

// Promise 16.2: each step on two words, at each two addresses, like ones and ones that aren't there among them: both found, and one or both missed.
func TestTwoWordSteps(t *testing.T) {
	for _, c := range small() {
		p := pairOf(t, c, true)
		n := uint64(1000)
		for _, a := range places(c) {
			for _, b := range places(c) {
				for _, kind := range []int{mem.Dcas, mem.Dcss} {
					n += 2
					d := p.right(kind, a, b, n, n+1)
					d.o++
					p.do(d)
					d.p++
					p.do(d)
					d.o--
					p.do(d)
					d.p--
					p.do(d)
				}
			}
		}
		same(t, "what was logged", p.m.Mem().Log(), p.w.Log())
	}
}

// anyDeed is a deed by chance, that mostly finds what is there and mostly has no error.
func (p *pair) anyDeed(c *chance) deed {
	size := p.w.Len()
	place := func() int {
		if c.next(50) == 0 {
			return []int{-1, size, size + 1, math.MinInt, math.MaxInt}[c.next(5)]
		}
		return c.next(size)
	}
	d := p.right(c.next(6), place(), place(), uint64(c.next(9)), uint64(c.next(9)))
	if c.next(3) == 0 {
		d.o = uint64(c.next(9))
	}
	if c.next(3) == 0 {
		d.p = uint64(c.next(9))
	}
	return d
}

// Promise 16.2: long rows of steps by chance, on machines of all kinds, are as those of a memory.
func TestLongRows(t *testing.T) {
	draws := chance(16)
	for _, c := range []api.Conf{of(api.Mound, 1, 1, 1), of(api.Mound, 6, 64, 6), of(api.Sundell, 3, 9, 4), of(api.Sundell, 6, 64, 6), of(api.Linden, 2, 7, 2), of(api.Linden, 6, 64, 6)} {
		p := pairOf(t, c, true)
		for range 1500 {
			p.do(p.anyDeed(&draws))
			is(t, "Fault", p.m.Fault(), p.fail || p.m.Ghost().First() != ghost.Fault{})
		}
		same(t, "what was logged", p.m.Mem().Log(), p.w.Log())
	}
}

// tagged is a mound whose first node is live, whose second one is retired, and whose third one is free.
func tagged(t *testing.T, c api.Conf) *Machine {
	t.Helper()
	m := made(t, c, true)
	live := shapeOf(c).sentinels + 1
	if live <= c.Nodes {
		m.Took(live)
	}
	if live+1 <= c.Nodes {
		m.Took(live + 1)
		m.Gone(live + 1)
	}
	is(t, "at fault ahead of all", m.Fault(), false)
	return m
}

// firstTouch is the fault that a deed's touches make, by the chapter's words: the first address of a free node's word.
func firstTouch(g *ghost.Ghost, c api.Conf, d deed) ghost.Fault {
	for i, a := range []int{d.a, d.b} {
		if i == 1 && !d.two() {
			break
		}
		if node := owner(c, a); node != 0 && g.Tag(node) == ghost.Free {
			return ghost.Fault{Kind: ghost.Touched, Node: node}
		}
	}
	return ghost.Fault{}
}

// tags is all tags of a machine's nodes.
func tags(m *Machine) []int {
	var l []int
	for node := range m.Plan().Conf().Nodes {
		l = append(l, m.Ghost().Tag(node+1))
	}
	return l
}

// touches holds one deed of a fresh machine against what its touches should tell.
func touches(t *testing.T, c api.Conf, d deed, size int) {
	t.Helper()
	m := tagged(t, c)
	before := tags(m)
	want := firstTouch(m.Ghost(), c, d)
	wrong := d.a < 0 || d.a >= size || d.two() && (d.b < 0 || d.b >= size) || d.kind == mem.Dcas && d.a == d.b
	does(m, d)
	is(t, fmt.Sprint(d, ": the fault"), m.Ghost().First(), want)
	is(t, fmt.Sprint(d, ": Fault"), m.Fault(), wrong || want != ghost.Fault{})
	same(t, fmt.Sprint(d, ": the tags"), tags(m), before)
}

// Promise 16.2: a step touches the nodes whose words it is on, and no other ones, ahead of it: whether it has an error, writes, or misses;
// of two nodes the one of the first address is touched first.
func TestTouches(t *testing.T) {
	for _, c := range []api.Conf{of(api.Mound, 1, 4, 1), of(api.Linden, 1, 6, 1)} {
		size := shapeOf(c).size
		first := atFirst(c)
		for _, a := range places(c) {
			o := uint64(0)
			if a >= 0 && a < size {
				o = first[a]
			}
			for kind := mem.Load; kind <= mem.Add; kind++ {
				touches(t, c, deed{kind: kind, a: a, o: o, n: 8}, size)
				touches(t, c, deed{kind: kind, a: a, o: o + 1, n: 8}, size)
			}
		}
		l := []int{-1, size, math.MinInt, math.MaxInt}
		for a := range size {
			l = append(l, a)
		}
		for _, a := range l {
			for _, b := range l {
				touches(t, c, deed{kind: mem.Dcas, a: a, n: 8, b: b, q: 8}, size)
				touches(t, c, deed{kind: mem.Dcss, a: a, n: 8, b: b}, size)
				touches(t, c, deed{kind: mem.Dcss, a: a, o: 77, n: 8, b: b}, size)
			}
		}
	}
}

// Promise 16.2: the same by hand, of words inside nodes that are live, retired and free.
func TestTouchesByHand(t *testing.T) {
	c := of(api.Mound, 1, 4, 1) // links from 10 on, nodes from 14 on: 1 is live, 2 is retired, 3 and 4 are free
	none := ghost.Fault{}
	free := func(node int) ghost.Fault { return ghost.Fault{Kind: ghost.Touched, Node: node} }
	for _, row := range []struct {
		name  string
		do    func(m *Machine)
		first ghost.Fault
		fault bool
	}{
		{"nothing", func(m *Machine) {}, none, false},
		{"all words but the nodes'", func(m *Machine) {
			for _, a := range []int{0, 1, 2, 3, 7, 8, 9, 10, 11, 12, 13, 26, 27} {
				m.Store(a, 6)
				m.Load(a)
			}
		}, none, false},
		{"a live node's words", func(m *Machine) { m.Store(14, 1); m.Store(15, 1); m.Store(16, 1) }, none, false},
		{"a retired node's words", func(m *Machine) { m.Add(17, 1); m.Load(18); m.Cas(19, 0, 1) }, none, false},
		{"a free node's first word", func(m *Machine) { m.Load(20) }, free(3), true},
		{"a free node's last word", func(m *Machine) { m.Store(22, 0) }, free(3), true},
		{"the last node's first word", func(m *Machine) { m.Add(23, 0) }, free(4), true},
		{"the last node's last word", func(m *Machine) { m.Load(25) }, free(4), true},
		{"a missed Cas", func(m *Machine) { m.Cas(21, 5, 6) }, free(3), true},
		{"Dcas, the first one free", func(m *Machine) { m.Dcas(20, 0, 1, 14, 0, 1) }, free(3), true},
		{"Dcas, the second one free", func(m *Machine) { m.Dcas(14, 0, 1, 20, 0, 1) }, free(3), true},
		{"Dcas, both free", func(m *Machine) { m.Dcas(23, 0, 1, 20, 0, 1) }, free(4), true},
		{"Dcas of none", func(m *Machine) { m.Dcas(14, 0, 1, 17, 0, 1) }, none, false},
		{"a missed Dcas, the second one free", func(m *Machine) { m.Dcas(14, 9, 1, 25, 0, 1) }, free(4), true},
		{"Dcss, the second one free", func(m *Machine) { m.Dcss(14, 0, 1, 21, 0) }, free(3), true},
		{"Dcss, both free", func(m *Machine) { m.Dcss(21, 0, 1, 24, 0) }, free(3), true},
		{"Dcss of none", func(m *Machine) { m.Dcss(17, 0, 1, 0, 2) }, none, false},
		{"Dcas with an error, the second one free", func(m *Machine) { m.Dcas(-1, 0, 1, 21, 0, 1) }, free(3), true},
		{"Dcas with an error, the first one free", func(m *Machine) { m.Dcas(24, 0, 1, 28, 0, 1) }, free(4), true},
		{"Dcas of one free word", func(m *Machine) { m.Dcas(24, 0, 1, 24, 0, 1) }, free(4), true},
		{"Dcas of one live word", func(m *Machine) { m.Dcas(14, 0, 1, 14, 0, 1) }, none, true},
		{"one past the last", func(m *Machine) { m.Load(28) }, none, true},
		{"-1", func(m *Machine) { m.Store(-1, 0) }, none, true},
		{"the last one", func(m *Machine) { m.Load(27) }, none, false},
		{"a node that was freed", func(m *Machine) { m.Load(17); m.Freed(2); m.Load(17) }, free(2), true},
		{"a node that was taken", func(m *Machine) { m.Took(3); m.Load(20); m.Gone(3); m.Load(20) }, none, false},
		{"of several the first one", func(m *Machine) { m.Load(25); m.Load(20); m.Took(1); m.Load(-1) }, free(4), true},
		{"an error ahead of it", func(m *Machine) { m.Load(-1); m.Load(20) }, free(3), true},
	} {
		m := tagged(t, c)
		row.do(m)
		is(t, row.name+": the first fault", m.Ghost().First(), row.first)
		is(t, row.name+": Fault", m.Fault(), row.fault)
	}
}

// Promises 16.2, 16.4: a step on a free node's word is done, and told, as any other one.
func TestTouchedIsDone(t *testing.T) {
	m := made(t, of(api.Mound, 1, 2, 1), true) // nodes from 12 on
	m.Store(12, 7)
	is(t, "Load", m.Load(12), 7)
	is(t, "Cas", m.Cas(12, 7, 8), true)
	is(t, "Add", m.Add(12, 2), 8)
	is(t, "Dcas", m.Dcas(12, 10, 11, 15, 0, 3), true)
	is(t, "Dcss", m.Dcss(15, 3, 4, 12, 11), true)
	same(t, "words", m.Mem().Words()[12:18], []uint64{11, 0, 0, 4, 0, 0})
	is(t, "the fault", m.Ghost().First(), ghost.Fault{Kind: ghost.Touched, Node: 1})
}

// news is the three ways of telling the ghosts of a node.
func news() []string { return []string{"Took", "Gone", "Freed"} }

// tell tells a machine.
func tell(m *Machine, what, node int) {
	switch what {
	case 0:
		m.Took(node)
	case 1:
		m.Gone(node)
	default:
		m.Freed(node)
	}
}

// twinTell tells ghosts of layer 7.
func twinTell(g *ghost.Ghost, what, node int) {
	switch what {
	case 0:
		g.Alloc(node)
	case 1:
		g.Retire(node)
	default:
		g.Release(node)
	}
}

// Promise 16.2: Took, Gone and Freed by hand: what is right, and each fault.
func TestNewsByHand(t *testing.T) {
	for _, row := range []struct {
		algo  int
		news  []int // what and node, one behind the other
		first ghost.Fault
	}{
		{api.Mound, []int{0, 1, 1, 1, 2, 1, 0, 1}, ghost.Fault{}},
		{api.Mound, []int{0, 1, 0, 2, 1, 2, 1, 1, 2, 1, 2, 2}, ghost.Fault{}},
		{api.Mound, []int{0, 1, 0, 1}, ghost.Fault{Kind: ghost.Twice, Node: 1}},
		{api.Mound, []int{1, 2}, ghost.Fault{Kind: ghost.Stray, Node: 2}},
		{api.Mound, []int{2, 3}, ghost.Fault{Kind: ghost.Again, Node: 3}},
		{api.Mound, []int{0, 1, 2, 1}, ghost.Fault{Kind: ghost.Again, Node: 1}},
		{api.Mound, []int{0, 4}, ghost.Fault{Kind: ghost.Outside, Node: 4}},
		{api.Mound, []int{1, 0}, ghost.Fault{Kind: ghost.Outside, Node: 0}},
		{api.Mound, []int{2, -1}, ghost.Fault{Kind: ghost.Outside, Node: -1}},
		{api.Mound, []int{0, 1, 2, 1, 1, 9, 0, 1}, ghost.Fault{Kind: ghost.Again, Node: 1}},
		{api.Sundell, []int{0, 1}, ghost.Fault{Kind: ghost.Twice, Node: 1}},
		{api.Sundell, []int{0, 3, 1, 3, 2, 3}, ghost.Fault{}},
		{api.Linden, []int{1, 2, 2, 2}, ghost.Fault{}},
		{api.Linden, []int{1, 3}, ghost.Fault{Kind: ghost.Stray, Node: 3}},
	} {
		m := made(t, of(row.algo, 1, 3, 1), true)
		for at := 0; at < len(row.news); at += 2 {
			tell(m, row.news[at], row.news[at+1])
		}
		is(t, fmt.Sprint(row.news, ": the first fault"), m.Ghost().First(), row.first)
		is(t, fmt.Sprint(row.news, ": Fault"), m.Fault(), row.first != ghost.Fault{})
	}
}

// Promise 16.2: all rows of three of Took, Gone and Freed, of nodes that are there and that aren't, are as layer 7's; no word changes, and no step is counted.
func TestNewsRows(t *testing.T) {
	nodes := append(far(), 0, 1, 2, 3, 4)
	c := of(api.Sundell, 1, 3, 1)
	kinds := len(nodes) * len(news())
	for row := range kinds * kinds * kinds {
		m, g := made(t, c, true), ghost.New(3, 2)
		steps := m.Mem().Steps()
		name := ""
		for rest, n := row, 0; n < 3; n++ {
			what, node := rest%kinds%3, nodes[rest%kinds/3]
			rest /= kinds
			tell(m, what, node)
			twinTell(g, what, node)
			name += fmt.Sprint(news()[what], " of ", node, ", ")
			is(t, name+"the first fault", m.Ghost().First(), g.First())
			is(t, name+"Fault", m.Fault(), g.First() != ghost.Fault{})
			for i := range 3 {
				is(t, name+"a tag", m.Ghost().Tag(i+1), g.Tag(i+1))
			}
		}
		is(t, name+"steps", m.Mem().Steps(), steps)
		if row%97 == 0 {
			same(t, name+"words", m.Mem().Words(), atFirst(c))
		}
	}
}

// Promise 16.2: a step's error is a fault without ghosts, too, and stays one; a step that misses isn't one, nor is anything that the ghosts aren't told.
func TestFault(t *testing.T) {
	for _, row := range []struct {
		name          string
		do            func(m *Machine)
		alone, beside bool // without ghosts, with them
	}{
		{"nothing", func(m *Machine) {}, false, false},
		{"Load of -1", func(m *Machine) { m.Load(-1) }, true, true},
		{"Store at one past the last", func(m *Machine) { m.Store(20, 1) }, true, true},
		{"Store at the last one", func(m *Machine) { m.Store(19, 1) }, false, false},
		{"Cas of far more", func(m *Machine) { m.Cas(math.MaxInt, 0, 0) }, true, true},
		{"Add to far less", func(m *Machine) { m.Add(math.MinInt, 0) }, true, true},
		{"Dcas of one word twice", func(m *Machine) { m.Dcas(3, 0, 1, 3, 0, 1) }, true, true},
		{"Dcas with a second word of none", func(m *Machine) { m.Dcas(3, 0, 1, 20, 0, 1) }, true, true},
		{"Dcas with a first word of none", func(m *Machine) { m.Dcas(-1, 0, 1, 3, 0, 1) }, true, true},
		{"Dcss of one word twice", func(m *Machine) { m.Dcss(3, 0, 1, 3, 0) }, false, false},
		{"Dcss with a second word of none", func(m *Machine) { m.Dcss(3, 0, 1, -1, 0) }, true, true},
		{"Dcss with a first word of none", func(m *Machine) { m.Dcss(20, 0, 1, 3, 0) }, true, true},
		{"missed ones", func(m *Machine) { m.Cas(3, 1, 2); m.Dcas(3, 1, 2, 4, 0, 0); m.Dcss(3, 0, 2, 4, 9) }, false, false},
		{"a right one behind a wrong one", func(m *Machine) { m.Load(-1); m.Load(0); m.Store(3, 1) }, true, true},
		{"a free node's word", func(m *Machine) { m.Load(12) }, false, true},
		{"a node taken twice", func(m *Machine) { m.Took(1); m.Took(1) }, false, true},
		{"no node taken", func(m *Machine) { m.Took(0) }, false, true},
		{"a free node retired", func(m *Machine) { m.Gone(2) }, false, true},
		{"a free node freed", func(m *Machine) { m.Freed(2) }, false, true},
		{"a fault, and then what is right", func(m *Machine) { m.Freed(2); m.Took(2); m.Load(15) }, false, true},
		{"all in order", func(m *Machine) { m.Took(2); m.Load(15); m.Gone(2); m.Load(15); m.Freed(2) }, false, false},
		{"told by its ghosts themselves", func(m *Machine) { m.Ghost().Touch(1) }, false, true},
	} {
		for _, ghosts := range []bool{false, true} {
			m := made(t, of(api.Mound, 1, 2, 1), ghosts)
			row.do(m)
			want := row.alone
			if ghosts {
				want = row.beside
			}
			for range 2 { // asking changes nothing
				is(t, fmt.Sprint(row.name, ", ghosts ", ghosts), m.Fault(), want)
			}
		}
	}
}

// counter is a routine that adds to a word as long as its first register says, and frees and takes nodes as it goes: some rightly, some not.
func counter(m *Machine, t *Thread) {
	f := t.Top()
	if f.R[0] == 0 {
		t.Pop(f.R[1], uint64(f.PC))
		return
	}
	f.R[0]--
	f.PC++
	f.R[1] += m.Add(f.PC%m.Mem().Len(), uint64(m.Feed().Next(100)))
	tell(m, f.PC%3, f.PC%5)
	if f.PC%7 == 0 {
		t.Push(1, 2)
	}
}

// Promise 16.4: the same deeds tell the same, and leave the same words and threads, with ghosts and without.
func TestGhostsChangeNothing(t *testing.T) {
	draws := chance(4)
	for _, c := range []api.Conf{of(api.Mound, 1, 2, 1), of(api.Mound, 3, 9, 3), of(api.Sundell, 2, 6, 2), of(api.Linden, 6, 64, 6)} {
		bytes := make([]byte, 300)
		for i := range bytes {
			bytes[i] = byte(draws.next(256))
		}
		a, ea := New(c, bytes, true)
		b, eb := New(c, bytes, false)
		is(t, "the errors", ea, eb)
		p := &pair{t: t, m: a, w: twin(t, c)}
		for range 2000 {
			d := p.anyDeed(&draws)
			want, _ := twinDoes(p.w, d)
			is(t, fmt.Sprint("with ghosts ", d), does(a, d), want)
			is(t, fmt.Sprint("without ", d), does(b, d), want)
			what, node := draws.next(3), draws.next(c.Nodes+3)-1
			tell(a, what, node)
			tell(b, what, node)
		}
		for range 1000 {
			i, r := draws.next(c.Threads), uint64(draws.next(9))
			if draws.next(4) == 0 {
				a.Thread(i).Push(0, r)
				b.Thread(i).Push(0, r)
			}
			is(t, "Step", a.Step(i, counter), b.Step(i, counter))
		}
		same(t, "words", a.Mem().Words(), b.Mem().Words())
		is(t, "steps", a.Mem().Steps(), b.Mem().Steps())
		is(t, "draws", a.Feed().Used(), b.Feed().Used())
		for i := range c.Threads {
			if !reflect.DeepEqual(a.Thread(i), b.Thread(i)) {
				t.Fatalf("thread %d: %v, %v", i, a.Thread(i), b.Thread(i))
			}
		}
		is(t, "Ghost", b.Ghost() != nil, false)
		is(t, "Fault with ghosts", a.Fault(), true)
	}
}
