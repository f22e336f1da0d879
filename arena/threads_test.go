package arena

import (
	"slices"
	"testing"

	"jostle/api"
	"jostle/core"
	"jostle/ghost"
	"jostle/mem"
	"jostle/plan"
)

// hand is what a thread is doing at a desk: a routine, how many of its steps are done, and what it has read.
type hand struct {
	fn, done   int
	node       uint64
	free, link uint64
	told       [3]uint64
	has        []int
}

// desk is a free list with threads at it, by the chapter's words alone: words as numbers, and the nodes' tags.
type desk struct {
	free  uint64
	links []uint64 // by node, from 1 on
	tags  []int
	hands []hand
}

// deskOf is the desk of a machine as at first.
func deskOf(nodes, sentinels, threads int) *desk {
	d := &desk{free: uint64(sentinels+1) * 2, links: make([]uint64, nodes+1), tags: make([]int, nodes+1), hands: make([]hand, threads)}
	for node := 1; node <= sentinels; node++ {
		d.tags[node] = 1
	}
	for node := sentinels + 1; node < nodes; node++ {
		d.links[node] = uint64(node + 1)
	}
	return d
}

// cas has the word Free point to a node, if it is still the one that was read.
func (d *desk) cas(was, node uint64) bool {
	if d.free != was {
		return false
	}
	d.free = (was/131072+1)*131072 + node*2
	return true
}

// tell ends a routine.
func (h *hand) tell(n uint64) {
	h.fn, h.done, h.told = 0, 0, [3]uint64{n}
}

// take is the next step of a hand that takes a node; at which thing the step is, the link of a node or (0) the word Free.
func (d *desk) take(h *hand) (at uint64, kind int, wrote bool) {
	first := h.free / 2 % 65536
	h.done++
	switch h.done {
	case 1:
		h.free = d.free
		if h.free/2%65536 == 0 {
			h.tell(0)
		}
		return 0, mem.Load, false
	case 2:
		h.link = d.links[first]
		return first, mem.Load, false
	}
	h.done = 0
	if !d.cas(h.free, h.link) {
		return 0, mem.Cas, false
	}
	d.tags[first] = 1
	h.tell(first)
	h.has = append(h.has, int(first))
	return 0, mem.Cas, true
}

// put is the next step of a hand that puts a node back.
func (d *desk) put(h *hand) (at uint64, kind int, wrote bool) {
	h.done++
	switch h.done {
	case 1:
		h.free = d.free
		return 0, mem.Load, false
	case 2:
		d.links[h.node] = h.free / 2 % 65536
		return h.node, mem.Store, true
	}
	h.done = 0
	if !d.cas(h.free, h.node) {
		return 0, mem.Cas, false
	}
	d.tags[h.node] = 0
	h.tell(h.node)
	return 0, mem.Cas, true
}

// list is the nodes in the free list.
func (d *desk) list() []int {
	var l []int
	for node := d.free / 2 % 65536; node != 0; node = d.links[node] {
		l = append(l, int(node))
	}
	return l
}

// room is a machine, and a desk that does the same.
type room struct {
	t      *testing.T
	m      *core.Machine
	d      *desk
	ghosts bool
	first  []uint64     // all words at first
	log    []mem.Access // as it should be
}

// open is a room with so many free nodes.
func open(t *testing.T, algo, threads, free int, ghosts bool) *room {
	t.Helper()
	m := made(t, algo, threads, free, ghosts)
	m.Mem().Watch(true)
	return &room{t: t, m: m, d: deskOf(sentinels(algo)+free, sentinels(algo), threads), ghosts: ghosts, first: m.Mem().Words()}
}

// take lays a frame of Alloc.
func (r *room) take(i int) {
	r.m.Thread(i).Push(Alloc)
	r.d.hands[i].fn = Alloc
}

// put lays a frame of Release, of the node that a thread has had so long: 0 is the longest. It tells whether there is such a one.
func (r *room) put(i, place int) bool {
	h := &r.d.hands[i]
	if place >= len(h.has) {
		return false
	}
	node := h.has[place]
	h.has = slices.Delete(h.has, place, place+1)
	h.fn, h.node = Release, uint64(node)
	r.d.tags[node] = 2
	r.m.Gone(node)
	r.m.Thread(i).Push(Release, uint64(node))
	return true
}

// step has a thread do a step, here and there, and holds both against each other.
func (r *room) step(i int) {
	h := &r.d.hands[i]
	do := r.d.take
	if h.fn == Release {
		do = r.d.put
	}
	at, kind, wrote := do(h)
	want := mem.Access{Kind: kind, A: plan.Free, B: -1, Done: wrote}
	if at != 0 {
		want.A = r.m.Plan().Link(int(at))
	}
	before := r.m.Mem().Steps()
	is(r.t, "whether a frame is left", step(r.m, i), h.fn != 0)
	is(r.t, "steps", r.m.Mem().Steps(), before+1)
	r.log = append(r.log, want)
	if h.fn == 0 {
		is(r.t, "what is told", r.m.Thread(i).Ret, h.told)
	}
	r.look()
}

// look holds the words, the tags and the list of both against each other.
func (r *room) look() {
	words, p := r.m.Mem().Words(), r.m.Plan()
	is(r.t, "Free", words[plan.Free], r.d.free)
	for node := 1; node < len(r.d.links); node++ {
		is(r.t, "a link", words[p.Link(node)], r.d.links[node])
		if r.ghosts {
			is(r.t, "a tag", r.m.Ghost().Tag(node), r.d.tags[node])
		}
	}
	same(r.t, "Chain", Chain(r.m), r.d.list())
	is(r.t, "Fault", r.m.Fault(), false)
}

// rest holds the list against what the threads have, as nobody is within a routine: each node is in one place.
func (r *room) rest() {
	p := r.m.Plan()
	places := make([]int, p.Conf().Nodes+1)
	for node := range p.Sentinels() {
		places[node+1]++
	}
	for _, node := range Chain(r.m) {
		places[node]++
	}
	for _, h := range r.d.hands {
		for _, node := range h.has {
			places[node]++
		}
	}
	for node, n := range places[1:] {
		is(r.t, "how many places a node is in", n, 1)
		free := r.m.Ghost().Tag(node+1) == ghost.Free
		if r.ghosts {
			is(r.t, "whether it is free", free, slices.Contains(Chain(r.m), node+1))
		}
	}
	words, links := r.m.Mem().Words(), p.Link(1)
	same(r.t, "the words ahead of the links", words[plan.Free+1:links], r.first[plan.Free+1:links])
	behind := links + p.Conf().Nodes
	same(r.t, "the words behind the links", words[behind:], r.first[behind:])
	same(r.t, "all steps", r.m.Mem().Log(), r.log)
}

// choose is rows of choices, one row behind another, till all were taken.
type choose struct {
	taken, of []int
	at        int
}

// next is the next choice of this row, below n.
func (c *choose) next(n int) int {
	if c.at == len(c.taken) {
		c.taken, c.of = append(c.taken, 0), append(c.of, n)
	}
	c.at++
	return c.taken[c.at-1]
}

// more goes on to the next row; false, if there is none.
func (c *choose) more() bool {
	for k := len(c.taken) - 1; k >= 0; k-- {
		c.taken, c.of = c.taken[:k+1], c.of[:k+1]
		c.taken[k]++
		if c.taken[k] < c.of[k] {
			c.at = 0
			return true
		}
	}
	return false
}

// Deeds of a row.
const (
	take   = iota
	oldest // is put back
	newest
)

// begin begins a thread's next deed that can be done; the deeds that are left behind it. Whether there was one.
func (r *room) begin(i int, row []int) ([]int, bool) {
	for len(row) > 0 {
		next := row[0]
		row = row[1:]
		if next == take {
			r.take(i)
			return row, true
		}
		place := 0
		if next == newest {
			place = len(r.d.hands[i].has) - 1
		}
		if place >= 0 && r.put(i, place) {
			return row, true
		}
	}
	return nil, false
}

// play has threads do their rows of deeds, the next one's step as it is chosen.
func (r *room) play(rows [][]int, pick func(n int) int) {
	left := slices.Clone(rows)
	for {
		var ready []int
		for i := range left {
			if r.d.hands[i].fn == 0 {
				rest, ok := r.begin(i, left[i])
				left[i] = rest
				if !ok {
					continue
				}
			}
			ready = append(ready, i)
		}
		if len(ready) == 0 {
			return
		}
		r.step(ready[pick(len(ready))])
	}
}

// Promise 17.2: two and three threads take and put back by turns, step by step, in all orders.
func TestAllOrders(t *testing.T) {
	for _, x := range []struct {
		name    string
		algo    int
		free    int
		ahead   [][]int // done one by one, ahead of the rows
		rows    [][]int
		atLeast int // orders, reckoned as if no Cas failed
	}{
		{"one node, two takers", api.Mound, 1, nil, [][]int{{take}, {take}}, 6},
		{"three nodes, two takers", api.Sundell, 3, nil, [][]int{{take}, {take}}, 20},
		{"no node, two takers", api.Linden, 1, [][]int{{}, {}, {take}}, [][]int{{take}, {take}}, 2},
		{"no node, a taker and one that puts back", api.Mound, 1, [][]int{{}, {take}}, [][]int{{take}, {oldest}}, 4},
		{"both put back", api.Mound, 3, [][]int{{take}, {take}}, [][]int{{oldest}, {oldest}}, 20},
		{"both put back, of all", api.Linden, 2, [][]int{{take}, {take}}, [][]int{{oldest}, {oldest}}, 20},
		{"the first one again", api.Mound, 3, nil, [][]int{{take}, {take, take, oldest}}, 220},
		{"by turns, one node", api.Mound, 1, nil, [][]int{{take, oldest}, {take, oldest}}, 240},
		{"by turns, two nodes", api.Sundell, 2, nil, [][]int{{take, oldest}, {take, oldest}}, 924},
		{"both have one and take one", api.Mound, 3, [][]int{{take}, {take}}, [][]int{{oldest, take}, {take, newest}}, 924},
		{"three takers", api.Mound, 3, nil, [][]int{{take}, {take}, {take}}, 1680},
		{"three takers, two nodes", api.Linden, 2, nil, [][]int{{take}, {take}, {take}}, 1680},
		{"three put back", api.Mound, 3, [][]int{{take}, {take}, {take}}, [][]int{{oldest}, {oldest}, {oldest}}, 1680},
		{"a taker, and two that put back", api.Mound, 3, [][]int{{}, {take}, {take}}, [][]int{{take}, {oldest}, {oldest}}, 1680},
	} {
		t.Run(x.name, func(t *testing.T) {
			t.Parallel()
			var c choose
			orders := 0
			for goes := true; goes; goes = c.more() {
				r := open(t, x.algo, 3, x.free, true)
				for i, row := range x.ahead {
					alone := slices.Repeat([][]int{nil}, 3)
					alone[i] = row
					r.play(alone, func(int) int { return 0 })
				}
				r.play(x.rows, c.next)
				r.rest()
				orders++
			}
			is(t, "whether all orders were tried", orders >= x.atLeast, true)
		})
	}
}

// Promise 17.2: six threads at the greatest list and at small ones, many steps by chance.
func TestByChance(t *testing.T) {
	each(t, func(t *testing.T, algo int, ghosts bool) {
		for _, free := range []int{1, 2, 5, 64 - sentinels(algo)} {
			c := chance(free*100 + algo)
			for range 12 {
				r := open(t, algo, 6, free, ghosts)
				rows := make([][]int, 6)
				for i := range rows {
					for range 30 {
						rows[i] = append(rows[i], []int{take, take, oldest, newest}[c.next(4)])
					}
				}
				// Some stand still for long while others go on, and then come back with what they read.
				busy, turns := 0, 0
				r.play(rows, func(n int) int {
					if turns == 0 {
						busy, turns = c.next(6), c.next(12)+1
					}
					turns--
					if c.next(3) == 0 {
						return c.next(n)
					}
					return busy % n
				})
				r.rest()
			}
		}
	})
}

// Promise 17.2: a thread that stopped amid a routine keeps nobody from a node but from the one that it has itself.
func TestOneThatStops(t *testing.T) {
	for done := range 3 {
		for _, fn := range []int{Alloc, Release} {
			m := made(t, api.Mound, 2, 3, true)
			alone(m, 0, Alloc, 0)
			begin(m, 0, fn, 1)
			for range done {
				step(m, 0)
			}
			for range 20 {
				is(t, "steps", alone(m, 1, Alloc, 0), 3)
				told(t, m, 1, 2)
				is(t, "steps", alone(m, 1, Alloc, 0), 3)
				told(t, m, 1, 3)
				is(t, "steps of an empty list", alone(m, 1, Alloc, 0), 1)
				is(t, "steps", alone(m, 1, Release, 3), 3)
				is(t, "steps", alone(m, 1, Release, 2), 3)
			}
			finish(m, 0)
			is(t, "Fault", m.Fault(), false)
			want := []int{3}
			if fn == Release {
				want = []int{1, 2, 3}
			}
			same(t, "Chain", Chain(m), want)
		}
	}
}
