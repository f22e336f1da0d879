package hazard

import (
	"iter"
	"slices"

	"jostle/api"
	"jostle/arena"
	"jostle/core"
	"jostle/ghost"
	"jostle/mem"
	"jostle/plan"
)

// Routines of these tests' own, which queues have of some kind.
const (
	unlink = 100 + iota // registers: an address: what its word points to is told, and no longer pointed to, unless the word changed meanwhile: then 0 is told
	link                // registers: an address, a node: the word points to it, if it pointed to nothing
	look                // register: a node: a word of it is read
)

// act does a bit of the top frame, also of these tests' own routines.
func act(m *core.Machine, t *core.Thread) {
	f := t.Top()
	switch f.Fn {
	case unlink, link:
		a := int(f.R[0])
		if f.PC == 0 {
			f.R[2] = m.Load(a)
			f.PC = 1
			if (f.R[2]/2%65536 == 0) == (f.Fn == unlink) {
				t.Pop(0)
			}
			return
		}
		node, told := uint64(0), f.R[2]/2%65536
		if f.Fn == link {
			node, told = f.R[1], f.R[1]
		}
		if !m.Cas(a, f.R[2], (f.R[2]>>17+1)<<17+node*2) {
			told = 0
		}
		t.Pop(told)
	case look:
		m.Load(m.Plan().Node(int(f.R[0]), plan.Order))
		t.Pop()
	default:
		Do(m, t)
	}
}

// hand is a thread at a desk: what it does, and what it knows.
type hand struct {
	d       *desk
	id      int
	turn    func() (struct{}, bool) // goes on up to where it stands ahead of a step; false, if the routine is at its end
	stop    func()
	begun   bool // it stands ahead of a step
	wait    func(struct{}) bool
	reads   []uint64 // what it has read in this routine: all that it can know
	told    uint64
	retired []int
}

// desk is threads, words and tags that do what the chapters' words say, one after another, as they say it.
type desk struct {
	slots, scan, threads, nodes, width int
	words                              []uint64
	tags                               []int
	hands                              []*hand
	last                               mem.Access
}

// deskOf is a desk with a machine's words, whose thread 0 has taken all nodes.
func deskOf(m *core.Machine) *desk {
	c := m.Plan().Conf()
	d := &desk{slots: 2, scan: c.Scan, threads: c.Threads, nodes: c.Nodes, width: 3, words: m.Mem().Words()}
	if c.Algo != api.Mound {
		d.slots, d.width = 2*c.Level+2, 5+c.Level
	}
	d.tags = slices.Repeat([]int{ghost.Live}, c.Nodes+1)
	for i := range c.Threads {
		d.hands = append(d.hands, &hand{d: d, id: i})
	}
	return d
}

// Addresses, as chapter 6 lays them.
func (d *desk) slot(thread, slot int) int { return 8 + thread*d.slots + slot }
func (d *desk) link(node int) int         { return 8 + d.threads*d.slots + node - 1 }
func (d *desk) order(node int) int        { return d.link(1) + d.nodes + (node-1)*d.width }

// ended is how a hand that is stopped amid a routine gets out of it.
type ended struct{}

// step has a hand stand till it is its turn.
func (h *hand) step() {
	if !h.wait(struct{}{}) {
		panic(ended{})
	}
}

// The steps of memory.
func (h *hand) load(a int) uint64 {
	h.step()
	h.d.last = load(a)
	h.reads = append(h.reads, h.d.words[a])
	return h.d.words[a]
}

func (h *hand) store(a int, v uint64) {
	h.step()
	h.d.last = store(a)
	h.reads = append(h.reads, v)
	h.d.words[a] = v
}

func (h *hand) cas(a int, o, n uint64) bool {
	h.step()
	h.reads = append(h.reads, h.d.words[a])
	done := h.d.words[a] == o
	if done {
		h.d.words[a] = n
	}
	h.d.last = cas(a, done)
	return done
}

// pointer is what a word points to.
func pointer(w uint64) uint64 { return w / 2 % 65536 }

// next is a word's next one, unmarked.
func next(w, node uint64) uint64 { return (w/131072+1)*131072 + node*2 }

// The routines, as chapters 17 and 18 say them.
func (h *hand) protect(slot, a int) uint64 {
	w := h.load(a)
	for pointer(w) != 0 {
		h.store(h.d.slot(h.id, slot), pointer(w))
		v := h.load(a)
		if v == w {
			return w
		}
		w = v
	}
	return w
}

func (h *hand) clear() uint64 {
	for slot := range h.d.slots {
		h.store(h.d.slot(h.id, slot), 0)
	}
	return 0
}

func (h *hand) retire(node int) uint64 {
	h.d.tags[node] = ghost.Retired
	h.retired = append(h.retired, node)
	if len(h.retired) >= h.d.scan {
		h.scan()
	}
	return 0
}

func (h *hand) scan() uint64 {
	named := map[uint64]int{}
	for thread := range h.d.threads {
		for slot := range h.d.slots {
			named[h.load(h.d.slot(thread, slot))]++
		}
	}
	var stay, free []int
	for _, node := range h.retired {
		if named[uint64(node)] > 0 {
			stay = append(stay, node)
		} else {
			free = append(free, node)
		}
	}
	h.retired = stay
	for _, node := range free {
		h.release(node)
	}
	return 0
}

func (h *hand) alloc() uint64 {
	for {
		w := h.load(plan.Free)
		node := pointer(w)
		if node == 0 {
			return 0
		}
		n := h.load(h.d.link(int(node)))
		if h.cas(plan.Free, w, next(w, n)) {
			h.d.tags[node] = ghost.Live
			return node
		}
	}
}

func (h *hand) release(node int) uint64 {
	for {
		w := h.load(plan.Free)
		h.store(h.d.link(node), pointer(w))
		if h.cas(plan.Free, w, next(w, uint64(node))) {
			h.d.tags[node] = ghost.Free
			return uint64(node)
		}
	}
}

// The routines of these tests' own.
func (h *hand) unlink(a int) uint64 {
	w := h.load(a)
	if pointer(w) != 0 && h.cas(a, w, next(w, 0)) {
		return pointer(w)
	}
	return 0
}

func (h *hand) join(a int, node uint64) uint64 {
	w := h.load(a)
	if pointer(w) == 0 && h.cas(a, w, next(w, node)) {
		return node
	}
	return 0
}

// routine is what a hand does, by its number and registers.
func (h *hand) routine(fn int, r []uint64) uint64 {
	switch fn {
	case Protect:
		return h.protect(int(r[0]), int(r[1]))
	case Clear:
		return h.clear()
	case Retire:
		return h.retire(int(r[0]))
	case Scan:
		return h.scan()
	case arena.Alloc:
		return h.alloc()
	case arena.Release:
		return h.release(int(r[0]))
	case unlink:
		return h.unlink(int(r[0]))
	case link:
		return h.join(int(r[0]), r[1])
	case look:
		h.load(h.d.order(int(r[0])))
	}
	return 0
}

// begin has a hand begin a routine, no step being done.
func (h *hand) begin(fn int, r []uint64) {
	h.begun, h.reads = false, nil
	h.turn, h.stop = iter.Pull(func(yield func(struct{}) bool) {
		defer func() {
			if x := recover(); x != nil && x != any(ended{}) {
				panic(x)
			}
		}()
		h.wait = yield
		h.told = h.routine(fn, r)
	})
}

// do has a hand do a step: whether there was one, and whether the routine isn't at its end.
func (h *hand) do() (did, left bool) {
	if !h.begun {
		if _, h.begun = h.turn(); !h.begun {
			return false, false
		}
	}
	_, left = h.turn()
	return true, left
}
