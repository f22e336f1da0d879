package hazard

import (
	"fmt"
	"slices"
	"testing"

	"jostle/api"
	"jostle/arena"
	"jostle/core"
	"jostle/ghost"
	"jostle/mem"
	"jostle/plan"
)

// Things that a thread may do. It has nodes: fresh ones, which nobody else ever saw since it took them, and old ones, which it has unlinked.
const (
	toProtect = iota // in a slot, what a place points to
	toLook           // at the node that is protected in a slot
	toClear
	toUnlink // what a place points to
	toLink   // to a place a fresh node
	toRetire // an old node, or a fresh one
	toScan
	toTake
	toPut // a fresh node
)

// deed is one of them.
type deed struct{ what, slot, place int }

// layout is what there is at first.
type layout struct {
	conf   api.Conf
	free   []int   // nodes in the free list, from its end on
	linked []int   // by place: a node, or 0
	fresh  [][]int // by thread
}

// shelf is what a thread has, and is about.
type shelf struct {
	rows       []deed // that are left
	at         deed   // that it is doing
	busy       bool
	fresh, old []int
	node       int // that it has handed on
}

// guard is a slot of a thread that names a node which isn't to be freed.
type guard struct{ thread, slot, node int }

// room is a machine, and a desk that does the same.
type room struct {
	t       *testing.T
	m       *core.Machine
	d       *desk
	ghosts  bool
	shelves []shelf
	guards  []guard
	quiet   int            // steps that were done ahead
	log     []mem.Access   // the steps as they should be
	count   [toPut + 1]int // how often each was done to its end, and not in vain
}

// open is a room at first.
func open(t *testing.T, l layout, ghosts bool) *room {
	m := made(t, l.conf, ghosts)
	for _, node := range l.free {
		m.Gone(node)
		alone(m, 0, arena.Release, uint64(node))
	}
	for at, node := range l.linked {
		m.Store(place+at, points(node, 0))
	}
	r := &room{t: t, m: m, d: deskOf(m), ghosts: ghosts, shelves: make([]shelf, l.conf.Threads)}
	for _, node := range l.free {
		r.d.tags[node] = ghost.Free
	}
	for i, nodes := range l.fresh {
		r.shelves[i].fresh = slices.Clone(nodes)
	}
	r.quiet = len(m.Mem().Log())
	r.look()
	return r
}

// close holds the steps of both against each other (at the end, since a log that is told is a copy each time), and lets go of what stands amid a routine.
func (r *room) close() {
	same(r.t, "the steps", r.m.Mem().Log()[r.quiet:], r.log)
	for _, h := range r.d.hands {
		if h.stop != nil {
			h.stop()
		}
	}
}

// guarded is the node that a thread's slot guards, or 0.
func (r *room) guarded(i, slot int) int {
	for _, g := range r.guards {
		if g.thread == i && g.slot == slot {
			return g.node
		}
	}
	return 0
}

// shift takes the first node out of a list.
func shift(l *[]int) int {
	node := (*l)[0]
	*l = (*l)[1:]
	return node
}

// begin has a thread begin a deed here and there, if it can be done.
func (r *room) begin(i int, x deed) bool {
	s := &r.shelves[i]
	fn, regs := 0, []uint64(nil)
	switch a := uint64(place + x.place); x.what {
	case toProtect:
		fn, regs = Protect, []uint64{uint64(x.slot), a}
	case toLook:
		fn, regs = look, []uint64{uint64(r.guarded(i, x.slot))}
	case toClear:
		fn = Clear
	case toUnlink:
		fn, regs = unlink, []uint64{a}
	case toScan:
		fn = Scan
	case toTake:
		fn = arena.Alloc
	default:
		from := &s.fresh
		if x.what == toRetire && len(s.old) > 0 {
			from = &s.old
		}
		if len(*from) == 0 {
			return false
		}
		s.node = shift(from)
		fn, regs = Retire, []uint64{uint64(s.node)}
		switch x.what {
		case toLink:
			fn, regs = link, []uint64{a, uint64(s.node)}
		case toPut:
			fn = arena.Release
			r.m.Gone(s.node)
			r.d.tags[s.node] = ghost.Retired
		}
	}
	if x.what == toLook && regs[0] == 0 {
		return false
	}
	s.at, s.busy = x, true
	r.m.Thread(i).Push(fn, regs...)
	r.d.hands[i].begin(fn, regs)
	return true
}

// end is what a thread knows when its deed is done.
func (r *room) end(i int) {
	s, told := &r.shelves[i], r.d.hands[i].told
	is(r.t, "what is told", r.m.Thread(i).Ret, [3]uint64{told})
	s.busy = false
	switch node := int(told); s.at.what {
	case toTake:
		if node != 0 {
			s.fresh = append(s.fresh, node)
		}
	case toUnlink:
		if node != 0 {
			s.old = append(s.old, node)
		}
	case toLink:
		if node == 0 {
			s.fresh = append(s.fresh, s.node)
		}
	case toProtect:
		// Its last step was the second reading, up to which the node may not have been retired.
		node = int(pointer(told))
		if node != 0 && r.d.tags[node] == ghost.Live {
			r.guards = append(r.guards, guard{i, s.at.slot, node})
			r.count[toProtect]++
		}
		return
	}
	if told != 0 || !slices.Contains([]int{toUnlink, toLink, toTake}, s.at.what) {
		r.count[s.at.what]++
	}
}

// turn has a thread do a step, of its next deed that can be done, here and there.
func (r *room) turn(i int) {
	s := &r.shelves[i]
	for !s.busy {
		if len(s.rows) == 0 {
			return
		}
		x := s.rows[0]
		s.rows = s.rows[1:]
		r.begin(i, x)
	}
	before := r.m.Mem().Steps()
	did, left := r.d.hands[i].do()
	bits := 0
	got := r.m.Step(i, func(m *core.Machine, x *core.Thread) {
		if bits++; bits > many {
			panic("a routine that does no step")
		}
		act(m, x)
	})
	is(r.t, "whether a frame is left", got, left)
	is(r.t, "whether a step was done", r.m.Mem().Steps() > before, did)
	if did {
		is(r.t, "steps", r.m.Mem().Steps(), before+1)
		r.log = append(r.log, r.d.last)
	}
	if !left {
		r.end(i)
	}
	r.look()
}

// look holds both against each other, and the guards against the tags (18.2).
func (r *room) look() {
	same(r.t, "words", r.m.Mem().Words(), r.d.words)
	if r.ghosts {
		same(r.t, "tags", tags(r.m), r.d.tags[1:])
	}
	for i, h := range r.d.hands {
		same(r.t, "Retired", waiting(r.m, i), h.retired)
	}
	r.guards = slices.DeleteFunc(r.guards, func(g guard) bool {
		return r.d.words[r.d.slot(g.thread, g.slot)] != uint64(g.node)
	})
	for _, g := range r.guards {
		is(r.t, "whether a node that a slot guards is free", r.d.tags[g.node] == ghost.Free, false)
	}
	is(r.t, "Fault", r.m.Fault(), false)
}

// ready is the threads that aren't at the end of their rows.
func (r *room) ready() []int {
	var l []int
	for i, s := range r.shelves {
		if s.busy || len(s.rows) > 0 {
			l = append(l, i)
		}
	}
	return l
}

// rest holds all places of nodes together, as nobody is within a routine: each node is in one of them.
func (r *room) rest() {
	p := r.m.Plan()
	places := make([]int, p.Conf().Nodes+1)
	all := arena.Chain(r.m)
	for node := range p.Sentinels() {
		all = append(all, node+1)
	}
	for _, w := range r.d.words[place:plan.Globals] {
		if node := int(pointer(w)); node != 0 {
			all = append(all, node)
		}
	}
	for i, s := range r.shelves {
		all = slices.Concat(all, s.fresh, s.old, waiting(r.m, i))
	}
	for _, node := range all {
		places[node]++
	}
	for _, n := range places[1:] {
		is(r.t, "how many places a node is in", n, 1)
	}
}

// key tells one state of all that there is from every other.
func (r *room) key() string {
	var b []byte
	for i, h := range r.d.hands {
		x := r.m.Thread(i)
		b = fmt.Append(b, x.Frames, x.Ret, x.Found, h.begun, h.reads, h.retired, r.shelves[i])
	}
	return string(fmt.Append(b, r.d.words, r.d.tags, r.guards))
}

// orders has threads do their rows step by step in all orders; what was met by one order already isn't gone on with by another. How many states were met, and how often deeds were done.
func orders(t *testing.T, l layout, rows [][]deed, ghosts bool) (int, [toPut + 1]int) {
	t.Helper()
	seen := map[string]int{}
	var count [toPut + 1]int
	for left := [][]int{nil}; len(left) > 0; {
		picks := left[len(left)-1]
		left = left[:len(left)-1]
		r := open(t, l, ghosts)
		for i, row := range rows {
			r.shelves[i].rows = row
		}
		for _, i := range picks {
			r.turn(i)
		}
		for {
			k := r.key()
			if seen[k]++; seen[k] > 1 {
				break
			}
			next := r.ready()
			if len(next) == 0 {
				r.rest()
				break
			}
			for _, i := range next[1:] {
				left = append(left, append(slices.Clone(picks), i))
			}
			picks = append(slices.Clone(picks), next[0])
			r.turn(next[0])
		}
		r.close()
		for what, n := range r.count {
			count[what] += n
		}
	}
	return len(seen), count
}

// flat is a layout of a mound, with two slots a thread.
func flat(threads, nodes, scan int) layout {
	return layout{conf: api.Conf{Algo: api.Mound, Threads: threads, Nodes: nodes, Level: 1, Batch: 1, Probes: 1, Scan: scan}}
}

// tall is one of a skip list, with four slots a thread, and two sentinels.
func tall(algo, threads, nodes, scan int) layout {
	return layout{conf: api.Conf{Algo: algo, Threads: threads, Nodes: nodes, Level: 1, Batch: 1, Probes: 1, Scan: scan}}
}

// with is a layout with these free nodes, nodes that places point to, and nodes of threads.
func (l layout) with(free, linked []int, fresh ...[]int) layout {
	l.free, l.linked, l.fresh = free, linked, fresh
	return l
}

// Rows that come again and again.
var (
	reads     = []deed{{what: toProtect}, {what: toLook}, {what: toClear}}
	removes   = []deed{{what: toUnlink}, {what: toRetire}}
	toLinks   = []deed{{what: toLink}}
	toTakes   = []deed{{what: toTake}}
	toRetires = []deed{{what: toRetire}}
	both      = []deed{{what: toProtect}, {what: toLook}, {what: toUnlink}, {what: toRetire}, {what: toLook}}
)

// Promise 18.2: two and three threads protect, retire and scan by turns, step by step, in all orders.
func TestAllOrders(t *testing.T) {
	for _, x := range []struct {
		name    string
		l       layout
		rows    [][]deed
		atLeast int // states, some less than there are
	}{
		{"one reads, one removes", flat(2, 1, 1).with(nil, []int{1}), [][]deed{reads, removes}, 100},
		{"one reads, one removes, Sundell", tall(api.Sundell, 2, 3, 1).with(nil, []int{3}), [][]deed{reads, removes}, 200},
		{"one reads, one removes, Linden", tall(api.Linden, 2, 3, 1).with(nil, []int{3}), [][]deed{reads, removes}, 200},
		{"one reads twice, one removes and links another one", flat(2, 2, 1).with(nil, []int{1}, nil, []int{2}),
			[][]deed{slices.Concat(reads[:2], reads), slices.Concat(removes, toLinks)}, 200},
		{"one reads, one removes, takes and links the same one", flat(2, 1, 1).with(nil, []int{1}),
			[][]deed{slices.Concat(reads[:2], reads[:2]), slices.Concat(removes, toTakes, toLinks)}, 200},
		{"both read and remove", flat(2, 1, 1).with(nil, []int{1}), [][]deed{both, both}, 250},
		{"both remove, and link what they took", flat(2, 2, 1).with([]int{2}, []int{1}),
			[][]deed{slices.Concat(both, toTakes, toLinks), slices.Concat(toTakes, toLinks, both)}, 800},
		{"one scans, one protects and clears in both slots", flat(2, 2, 2).with(nil, []int{1, 2}),
			[][]deed{{{what: toUnlink}, {what: toRetire}, {what: toUnlink, place: 1}, {what: toRetire}},
				{{what: toProtect}, {what: toProtect, slot: 1, place: 1}, {what: toLook}, {what: toLook, slot: 1}, {what: toClear}, {what: toScan}}}, 450},
		{"one scans late, one protects in the other slot", flat(2, 2, 9).with(nil, []int{1, 2}),
			[][]deed{{{what: toUnlink}, {what: toRetire}, {what: toScan}},
				{{what: toProtect, slot: 1}, {what: toProtect, place: 1}, {what: toLook, slot: 1}, {what: toProtect, slot: 1, place: 1}}}, 220},
		{"both retire and scan", flat(2, 4, 2).with(nil, nil, []int{1, 2}, []int{3, 4}),
			[][]deed{{{what: toRetire}, {what: toRetire}}, {{what: toRetire}, {what: toRetire}}}, 400},
		{"one scans, one takes and puts back", flat(2, 4, 2).with([]int{4}, nil, []int{1, 2}, []int{3}),
			[][]deed{{{what: toRetire}, {what: toRetire}}, {{what: toTake}, {what: toPut}, {what: toPut}}}, 900},
		{"two read, one removes", flat(3, 1, 1).with(nil, []int{1}), [][]deed{reads, reads, removes}, 1200},
		{"two read, one removes, Linden", tall(api.Linden, 3, 3, 1).with(nil, []int{3}), [][]deed{reads, reads, removes}, 5000},
		{"one reads, one removes, one takes and links", flat(3, 2, 1).with([]int{2}, []int{1}),
			[][]deed{reads, removes, slices.Concat(toTakes, toLinks)}, 1100},
		{"one reads, two remove", flat(3, 1, 1).with(nil, []int{1}), [][]deed{reads, removes, removes}, 1200},
		{"one reads, two remove two", flat(3, 2, 2).with(nil, []int{1, 2}),
			[][]deed{{{what: toProtect}, {what: toProtect, slot: 1, place: 1}, {what: toLook}, {what: toLook, slot: 1}},
				slices.Concat(removes, []deed{{what: toUnlink, place: 1}, {what: toRetire}, {what: toScan}}), {{what: toUnlink, place: 1}, {what: toRetire}, {what: toScan}}}, 15000},
		{"all read and remove", flat(3, 1, 1).with(nil, []int{1}), [][]deed{both[:4], both[:4], both[:4]}, 13000},
		{"one scans, one reads, one takes and puts back", flat(3, 4, 2).with([]int{4}, []int{1}, []int{2}, nil, []int{3}),
			[][]deed{slices.Concat(removes, toRetires), reads, slices.Concat(toTakes, []deed{{what: toPut}, {what: toPut}})}, 9000},
	} {
		t.Run(x.name, func(t *testing.T) {
			t.Parallel()
			states, count := orders(t, x.l, x.rows, true)
			without, _ := orders(t, x.l, x.rows, false)
			is(t, "how many states there are without ghosts", without, states)
			is(t, "whether all orders were tried", states >= x.atLeast, true)
			for _, row := range x.rows {
				for _, y := range row {
					is(t, "whether a deed was done at all", count[y.what] > 0, true)
				}
			}
		})
	}
}

// Promise 18.2: six threads at few nodes and at many, many steps by chance, each slot and three places.
func TestByChance(t *testing.T) {
	each(t, func(t *testing.T, algo int, ghosts bool) {
		t.Parallel()
		var count [toPut + 1]int
		for _, nodes := range []int{1, 3, 8, 20} {
			for _, scan := range []int{1, 2, 5} {
				c := chance(nodes*100 + scan*10 + algo)
				l := layout{conf: conf(algo, 6, nodes, scan)}
				for node := range nodes {
					l.free = append(l.free, l.conf.Nodes-node)
				}
				r := open(t, l, ghosts)
				for i := range r.shelves {
					for range 300 {
						what := []int{toProtect, toProtect, toProtect, toLook, toLook, toClear, toUnlink, toUnlink,
							toLink, toLink, toRetire, toScan, toTake, toTake, toPut}[c.next(15)]
						r.shelves[i].rows = append(r.shelves[i].rows, deed{what, c.next(r.d.slots), c.next(3)})
					}
				}
				r.playByChance(&c)
				r.rest()
				for what, n := range r.count {
					count[what] += n
				}
				r.freeAll()
				r.close()
			}
		}
		for _, n := range count {
			is(t, "whether a deed was done at all", n > 100, true)
		}
	})
}

// freeAll has all threads clear their slots, and then scan: nothing waits any more.
func (r *room) freeAll() {
	for _, what := range []int{toClear, toScan} {
		for i := range r.shelves {
			for r.shelves[i].rows = []deed{{what: what}}; len(r.ready()) > 0; {
				r.turn(i)
			}
		}
	}
	for i := range r.shelves {
		same(r.t, "Retired at the end", waiting(r.m, i), nil)
	}
	r.rest()
}

// playByChance has threads do their rows. Some stand still for long while others go on, and then come back with what they read.
func (r *room) playByChance(c *chance) {
	busy, turns := 0, 0
	for next := r.ready(); len(next) > 0; next = r.ready() {
		if turns == 0 {
			busy, turns = c.next(6), c.next(20)+1
		}
		turns--
		i := next[busy%len(next)]
		if c.next(3) == 0 {
			i = next[c.next(len(next))]
		}
		r.turn(i)
	}
}

// Promise 18.2: a node that a slot guards stays, whoever scans how often, till the slot is cleared, or is another one.
func TestGuardedNodeStays(t *testing.T) {
	each(t, func(t *testing.T, algo int, ghosts bool) {
		for _, leave := range []string{"clear", "another", "nothing"} {
			m := made(t, conf(algo, 3, 4, 1), ghosts)
			s := m.Plan().Sentinels()
			first, second := points(s+1, 0), points(s+2, 0)
			m.Store(place, first)
			m.Store(place+1, second)
			alone(m, 2, Protect, 1, place)
			told(t, m, 2, first)
			m.Store(place, points(0, 1)) // nothing points to it any more
			alone(m, 0, Retire, uint64(s+1))
			for range 5 {
				alone(m, 1, Scan)
				alone(m, 0, Scan)
				alone(m, 2, Scan)
				alone(m, 0, Clear)
				same(t, "Chain", arena.Chain(m), nil)
				same(t, "Retired", waiting(m, 0), []int{s + 1})
				m.Load(m.Plan().Node(s+1, plan.Value))
			}
			is(t, "Fault", m.Fault(), false)
			switch leave {
			case "clear":
				alone(m, 2, Clear)
			case "another":
				alone(m, 2, Protect, 1, place+1)
			default:
				alone(m, 2, Protect, 1, place)
				told(t, m, 2, points(0, 1))
				alone(m, 0, Scan)
				same(t, "Retired, as the slot stays", waiting(m, 0), []int{s + 1})
				m.Store(m.Plan().Hazard(2, 1), 0)
			}
			alone(m, 1, Scan) // it isn't this one's
			same(t, "Chain", arena.Chain(m), nil)
			alone(m, 0, Scan)
			same(t, "Chain", arena.Chain(m), []int{s + 1})
			is(t, "Fault", m.Fault(), false)
		}
	})
}

// Promise 18.2: at each step of a Protect, its node is unlinked, retired and scanned for by another thread: it is told only if it stays.
func TestRemovedDuringAProtect(t *testing.T) {
	for _, ghosts := range []bool{true, false} {
		for done := range 4 {
			for _, relinked := range []bool{false, true} {
				m := made(t, conf(api.Mound, 2, 1, 1), ghosts)
				m.Store(place, points(1, 0))
				m.Thread(0).Push(Protect, 0, place)
				for range done {
					step(m, 0)
				}
				m.Store(place, points(0, 1))
				alone(m, 1, Retire, 1)
				free := done < 2 // the slot names it since the second step
				is(t, "whether it is free", len(arena.Chain(m)) == 1, free)
				if free && relinked {
					is(t, "steps", alone(m, 1, arena.Alloc), 3)
					m.Store(place, points(1, 2)) // the same node again, but it isn't what it was
				}
				finish(m, 0)
				switch {
				case done == 3:
					told(t, m, 0, points(1, 0))
				case free && relinked:
					told(t, m, 0, points(1, 2))
				default:
					told(t, m, 0, points(0, 1))
				}
				is(t, "Fault", m.Fault(), false)
			}
		}
	}
}
