package hazard

import (
	"math"
	"slices"
	"testing"

	"jostle/api"
	"jostle/arena"
	"jostle/core"
	"jostle/ghost"
	"jostle/mem"
	"jostle/plan"
)

// is holds what was told against what should be. It ends the test, since what is wrong at all is mostly wrong of many machines.
func is[T comparable](t *testing.T, name string, got, want T) {
	if got != want {
		t.Helper() // not ahead of it, as that takes most of the time
		t.Fatalf("%s: %v, not %v", name, got, want)
	}
}

// same holds a list that was told against the one that should be; a nil one is as an empty one.
func same[T comparable](t *testing.T, name string, got, want []T) {
	if !slices.Equal(got, want) {
		t.Helper()
		t.Fatalf("%s: %v, not %v", name, got, want)
	}
}

// chance is numbers that look like chance, and are the same each time.
type chance uint64

// next is the next one, below n.
func (c *chance) next(n int) int {
	*c = *c*6364136223846793005 + 1442695040888963407
	return int(uint64(*c)>>33) % n
}

// far is numbers at the edges of an int and of what an int may be cut down to: none is a number of anything here.
func far() []int {
	return []int{math.MinInt, math.MinInt + 1, math.MinInt32 - 1, math.MinInt32, -1 << 16, -64, -2, -1,
		1 << 16, 1<<16 + 1, math.MaxInt32, math.MaxInt32 + 1, 1 << 32, 1<<32 + 1, math.MaxInt - 1, math.MaxInt}
}

// unseen is more nodes than can wait: Retire never scans by itself, but where 64 wait.
const unseen = api.MaxScan

// place is the address of a word that no queue uses, which points here and there in these tests.
const place = 5

// conf is a configuration with as many nodes in its free list.
func conf(algo, threads, free, scan int) api.Conf {
	c := api.Conf{Algo: algo, Threads: threads, Nodes: free, Level: 2, Batch: 1, Probes: 1, Scan: scan}
	if algo != api.Mound {
		c.Nodes += 2
	}
	return c
}

// made is a machine of a configuration, of which thread 0 took all nodes out of the free list; its steps are logged from now on.
func made(t *testing.T, c api.Conf, ghosts bool) *core.Machine {
	t.Helper()
	m, e := core.New(c, nil, ghosts)
	if e != api.OK {
		t.Fatalf("New of %v: error %d", c, e)
	}
	for range m.Plan().Conf().Nodes - m.Plan().Sentinels() {
		alone(m, 0, arena.Alloc)
	}
	same(t, "Chain of an emptied list", arena.Chain(m), nil)
	m.Thread(0).Ret = [3]uint64{}
	m.Mem().Watch(true)
	return m
}

// alone has a thread do a routine, with nobody else, and tells how many steps it took.
func alone(m *core.Machine, i, fn int, r ...uint64) int {
	m.Thread(i).Push(fn, r...)
	return finish(m, i)
}

// finish has a thread do all that it has begun, and tells how many steps it took.
func finish(m *core.Machine, i int) int {
	before := m.Mem().Steps()
	for step(m, i) {
		if m.Mem().Steps() > before+many {
			panic("a routine that has no end")
		}
	}
	return m.Mem().Steps() - before
}

// many is more than any routine needs here, of steps and of bits a step: a wrong one should fail, and not go on for ever.
const many = 1000

// step has a thread do a step; true, if a frame is left.
func step(m *core.Machine, i int) bool {
	bits := 0
	return m.Step(i, func(m *core.Machine, x *core.Thread) {
		if bits++; bits > many {
			panic("a routine that does no step")
		}
		Do(m, x)
	})
}

// each calls a function for each algorithm, with ghosts and without.
func each(t *testing.T, f func(t *testing.T, algo int, ghosts bool)) {
	for algo, name := range []string{"mound", "sundell", "linden"} {
		t.Run(name+" with ghosts", func(t *testing.T) { f(t, algo, true) })
		t.Run(name+" without", func(t *testing.T) { f(t, algo, false) })
	}
}

// points is a word by its parts, with no mark.
func points(node, version int) uint64 { return uint64(version)*(1<<17) + uint64(node)*2 }

// Accesses, as they are logged.
func load(a int) mem.Access           { return mem.Access{Kind: mem.Load, A: a, B: -1} }
func store(a int) mem.Access          { return mem.Access{Kind: mem.Store, A: a, B: -1, Done: true} }
func cas(a int, done bool) mem.Access { return mem.Access{Kind: mem.Cas, A: a, B: -1, Done: done} }

// logged is the last accesses, so many of them.
func logged(m *core.Machine, n int) []mem.Access {
	l := m.Mem().Log()
	return l[len(l)-n:]
}

// slots is all hazard slots' words, thread by thread.
func slots(m *core.Machine) []uint64 {
	p := m.Plan()
	return m.Mem().Words()[plan.Globals : plan.Globals+p.Conf().Threads*p.Slots()]
}

// looks is the accesses by which a Scan reads all slots.
func looks(m *core.Machine) []mem.Access {
	var l []mem.Access
	for k := range slots(m) {
		l = append(l, load(plan.Globals+k))
	}
	return l
}

// frees is the accesses by which a node is put back, with nobody else.
func frees(m *core.Machine, node int) []mem.Access {
	return []mem.Access{load(plan.Free), store(m.Plan().Link(node)), cas(plan.Free, true)}
}

// tags is what the ghosts say of all nodes.
func tags(m *core.Machine) []int {
	var l []int
	for node := 1; node <= m.Plan().Conf().Nodes; node++ {
		l = append(l, m.Ghost().Tag(node))
	}
	return l
}

// tagged is tags that are to be: of these nodes this one, of the others what they were.
func tagged(was []int, tag int, nodes ...int) []int {
	l := slices.Clone(was)
	for _, node := range nodes {
		l[node-1] = tag
	}
	return l
}

// waiting is the nodes that a thread has retired.
func waiting(m *core.Machine, i int) []int { return m.Thread(i).Retired.List() }

// bit has a thread do one bit, that must be one step of memory: this access, after which the words are these.
func bit(t *testing.T, m *core.Machine, i int, access mem.Access, words []uint64) {
	t.Helper()
	before, logs := m.Mem().Steps(), len(m.Mem().Log())
	Do(m, m.Thread(i))
	is(t, "steps", m.Mem().Steps(), before+1)
	is(t, "steps that are logged", len(m.Mem().Log()), logs+1)
	same(t, "the step", logged(m, 1), []mem.Access{access})
	same(t, "words", m.Mem().Words(), words)
}

// quiet fails, if a function does a step, changes a word, or tells ghosts anything.
func quiet(t *testing.T, name string, m *core.Machine, f func()) {
	t.Helper()
	words, steps, logs, first, tagsThen := m.Mem().Words(), m.Mem().Steps(), m.Mem().Log(), m.Ghost().First(), tags(m)
	f()
	same(t, name+": words", m.Mem().Words(), words)
	is(t, name+": steps", m.Mem().Steps(), steps)
	same(t, name+": log", m.Mem().Log(), logs)
	is(t, name+": the first fault", m.Ghost().First(), first)
	same(t, name+": tags", tags(m), tagsThen)
}

// told is what the last routine told, and nothing beside it.
func told(t *testing.T, m *core.Machine, i int, want uint64) {
	t.Helper()
	is(t, "what is told", m.Thread(i).Ret, [3]uint64{want})
}

// The chapter's example.
func TestExample(t *testing.T) {
	m := made(t, conf(api.Mound, 1, 2, 1), true)
	m.Store(m.Plan().Hazard(0, 1), 1)
	alone(m, 0, Retire, 1)
	same(t, "Retired", waiting(m, 0), []int{1})
	same(t, "Chain", arena.Chain(m), nil)
	is(t, "the tag", m.Ghost().Tag(1), ghost.Retired)
	alone(m, 0, Clear)
	same(t, "Chain behind Clear", arena.Chain(m), nil)
	alone(m, 0, Scan)
	same(t, "Retired", waiting(m, 0), nil)
	same(t, "Chain", arena.Chain(m), []int{1})
	is(t, "the tag", m.Ghost().Tag(1), ghost.Free)
	is(t, "Fault", m.Fault(), false)
}

// fill writes all slots of all threads, each another number, and tells them.
func fill(m *core.Machine) []uint64 {
	for k := range slots(m) {
		m.Store(plan.Globals+k, uint64(1000+k))
	}
	return slots(m)
}

// Promise 18.1: Protect of a word that points to nothing reads it once, and tells it; no slot is written.
func TestProtectOfNothing(t *testing.T) {
	each(t, func(t *testing.T, algo int, ghosts bool) {
		for _, w := range []uint64{0, 1, points(0, 1), points(0, 1) + 1, points(0, 1<<47-1) + 1} {
			m := made(t, conf(algo, 2, 2, 1), ghosts)
			fill(m)
			m.Store(place, w)
			x, words := m.Thread(1), m.Mem().Words()
			x.Ret = [3]uint64{9, 8, 7}
			x.Push(Protect, 1, place)
			bit(t, m, 1, load(place), words)
			is(t, "frames", len(x.Frames), 0)
			told(t, m, 1, w)
			is(t, "Fault", m.Fault(), false)
		}
	})
}

// pointers is words that point to something, a node or not, with marks and versions.
func pointers() []uint64 {
	return []uint64{points(1, 0), points(1, 0) + 1, points(2, 1), points(3, 77) + 1, points(64, 1<<47-1),
		points(65535, 1<<46) + 1, points(256, 3), points(1<<15, 0)}
}

// Promise 18.1: Protect alone, in each slot of each thread: the word is read, the slot is written, the word is read again; then it tells.
func TestProtectAlone(t *testing.T) {
	each(t, func(t *testing.T, algo int, ghosts bool) {
		for _, threads := range []int{1, 3, 6} {
			m := made(t, conf(algo, threads, 2, 1), ghosts)
			words, k := m.Mem().Words(), 0
			for i := range threads {
				for slot := range m.Plan().Slots() {
					k++
					w := pointers()[k%len(pointers())]
					m.Store(place, w)
					words[place] = w
					protects(t, m, i, slot, place, w, words)
				}
			}
			is(t, "how many slots", k, len(slots(m)))
			is(t, "Fault", m.Fault(), false)
		}
	})
}

// protects has a thread protect what a word points to, and looks at each step; words is all words ahead of it, and behind.
func protects(t *testing.T, m *core.Machine, i, slot, a int, w uint64, words []uint64) {
	t.Helper()
	x := m.Thread(i)
	x.Ret = [3]uint64{9, 8, 7}
	x.Push(Protect, uint64(slot), uint64(a))
	bit(t, m, i, load(a), words)
	is(t, "frames", len(x.Frames), 1)
	words[m.Plan().Hazard(i, slot)] = w / 2 % 65536
	bit(t, m, i, store(m.Plan().Hazard(i, slot)), words)
	is(t, "frames", len(x.Frames), 1)
	is(t, "what was told ahead", x.Ret, [3]uint64{9, 8, 7})
	bit(t, m, i, load(a), words)
	is(t, "frames", len(x.Frames), 0)
	told(t, m, i, w)
}

// Promise 18.1: each slot at the greatest number of them.
func TestProtectInManySlots(t *testing.T) {
	for _, algo := range []int{api.Sundell, api.Linden} {
		c := conf(algo, api.MaxThreads, 2, 1)
		c.Level = api.MaxLevel
		m := made(t, c, true)
		words := m.Mem().Words()
		for i := range api.MaxThreads {
			for slot := range 14 {
				w := points(slot+1, i) + uint64(i%2)
				m.Store(place, w)
				words[place] = w
				protects(t, m, i, slot, place, w, words)
			}
		}
		is(t, "Fault", m.Fault(), false)
	}
}

// Promise 18.1: the word may be any: of the globals, a link, a node's, a place of the tree's, a slot.
func TestProtectAtEachAddress(t *testing.T) {
	m := made(t, conf(api.Mound, 2, 3, 1), true)
	for a := range m.Plan().Size() {
		if a == m.Plan().Hazard(1, 0) {
			continue
		}
		m.Store(a, points(2, a))
		protects(t, m, 1, 0, a, points(2, a), m.Mem().Words())
		m.Store(m.Plan().Hazard(1, 0), 0)
	}
	is(t, "Fault", m.Fault(), false)
}

// A word that is the slot itself changes by being protected.
func TestProtectOfTheSlotItself(t *testing.T) {
	m := made(t, conf(api.Mound, 1, 2, 1), true)
	a := m.Plan().Hazard(0, 1)
	m.Store(a, points(3, 5)+1)
	is(t, "steps", alone(m, 0, Protect, 1, uint64(a)), 5)
	same(t, "the steps", logged(m, 5), []mem.Access{load(a), store(a), load(a), store(a), load(a)})
	told(t, m, 0, 1) // 3 is a word that points to 1, and 1 one that points to nothing
	same(t, "slots", slots(m), []uint64{0, 1})
}

// Promise 18.1: a word of a free node is told, but the ghosts see that it is touched.
func TestProtectTouches(t *testing.T) {
	for _, ghosts := range []bool{true, false} {
		m := made(t, conf(api.Mound, 1, 3, 1), ghosts)
		a := m.Plan().Node(2, plan.Then)
		m.Store(a, points(3, 0))
		alone(m, 0, Retire, 2) // no slot names it: it is free
		same(t, "Chain", arena.Chain(m), []int{2})
		is(t, "Fault", m.Fault(), false)
		is(t, "steps", alone(m, 0, Protect, 0, uint64(a)), 3)
		told(t, m, 0, points(3, 0))
		is(t, "Fault", m.Fault(), ghosts)
	}
}

// Promise 18.1: Clear writes each slot of the thread, from 0 on, a step each; the others' slots stay.
func TestClear(t *testing.T) {
	each(t, func(t *testing.T, algo int, ghosts bool) {
		const threads = 3
		own := made(t, conf(algo, threads, 2, 1), ghosts).Plan().Slots()
		for set := range 1 << own {
			for i := range threads {
				m := made(t, conf(algo, threads, 2, 1), ghosts)
				fill(m)
				for slot := range own {
					if set>>slot&1 == 0 {
						m.Store(m.Plan().Hazard(i, slot), 0)
					}
				}
				clears(t, m, i)
				is(t, "Fault", m.Fault(), false)
			}
		}
	})
}

// clears has a thread clear its slots, and looks at each step.
func clears(t *testing.T, m *core.Machine, i int) {
	t.Helper()
	x, words := m.Thread(i), m.Mem().Words()
	x.Ret = [3]uint64{9, 8, 7}
	x.Push(Clear)
	for slot := range m.Plan().Slots() {
		is(t, "frames", len(x.Frames), 1)
		is(t, "what was told ahead", x.Ret, [3]uint64{9, 8, 7})
		a := m.Plan().Hazard(i, slot)
		words[a] = 0
		bit(t, m, i, store(a), words)
	}
	is(t, "frames", len(x.Frames), 0)
	told(t, m, i, 0)
}

// Promise 18.1: Clear of fourteen slots.
func TestClearManySlots(t *testing.T) {
	c := conf(api.Sundell, api.MaxThreads, 2, 1)
	c.Level = api.MaxLevel
	for i := range api.MaxThreads {
		m := made(t, c, true)
		fill(m)
		clears(t, m, i)
	}
}

// Numbers that a frame has beyond its registers play no part.
func TestMoreRegisters(t *testing.T) {
	m := made(t, conf(api.Mound, 2, 3, 2), true)
	fill(m)
	more := slices.Repeat([]uint64{3}, 10)
	m.Thread(1).Push(Clear, more...)
	is(t, "steps", finish(m, 1), 2)
	same(t, "slots", slots(m), []uint64{1000, 1001, 0, 0})
	m.Store(place, points(3, 3))
	m.Thread(1).Push(Protect, append([]uint64{1, place, points(3, 3)}, more[:7]...)...)
	is(t, "steps", finish(m, 1), 3)
	m.Thread(1).Push(Retire, append([]uint64{2}, more...)...)
	is(t, "steps", finish(m, 1), 0)
	same(t, "Retired", waiting(m, 1), []int{2})
	m.Thread(1).Push(Scan, more...)
	is(t, "steps", finish(m, 1), 4+3)
	same(t, "slots", slots(m), []uint64{1000, 1001, 0, 3})
	same(t, "Chain", arena.Chain(m), []int{2})
	m.Thread(1).Retired.Push(1)
	m.Gone(1)
	m.Thread(1).Push(Retire, append([]uint64{3}, more...)...)
	is(t, "steps", finish(m, 1), 4+3)
	same(t, "Retired", waiting(m, 1), []int{3})
	is(t, "Fault", m.Fault(), false)
}

// Promise 18.1: Retire of fewer nodes than Scan says does no step; of just as many, and of more, Scan follows.
func TestRetire(t *testing.T) {
	each(t, func(t *testing.T, algo int, ghosts bool) {
		for _, scan := range []int{1, 2, 3, 5} {
			m := made(t, conf(algo, 2, 6, scan), ghosts)
			s := m.Plan().Sentinels()
			// All stay, so that the more there are, the more wait.
			for k := range 4 {
				m.Store(m.Plan().Hazard(k%2, k/2), uint64(s+1+k))
			}
			var want []int
			for k := range 4 {
				want = append(want, s+1+k)
				retires(t, m, 1, s+1+k, len(want) >= scan)
				same(t, "Retired", waiting(m, 1), want)
			}
			same(t, "Retired of the other thread", waiting(m, 0), nil)
			same(t, "Chain", arena.Chain(m), nil)
			is(t, "Fault", m.Fault(), false)
		}
	})
}

// retires has a thread retire a node that a slot names, and looks at each step.
func retires(t *testing.T, m *core.Machine, i, node int, scans bool) {
	t.Helper()
	x, words, tag := m.Thread(i), m.Mem().Words(), tags(m)
	x.Ret = [3]uint64{9, 8, 7}
	x.Push(Retire, uint64(node))
	before := m.Mem().Steps()
	Do(m, x)
	if m.Ghost() != nil {
		tag = tagged(tag, ghost.Retired, node)
	}
	same(t, "tags", tags(m), tag)
	is(t, "whether it waits", slices.Contains(waiting(m, i), node), true)
	if scans {
		// A bit goes up to the next step, which is the Scan's first one.
		is(t, "steps of a bit", m.Mem().Steps(), before+1)
		is(t, "frames", len(x.Frames), 1)
		finish(m, i)
		same(t, "the steps", logged(m, len(looks(m))), looks(m))
		is(t, "steps", m.Mem().Steps(), before+len(looks(m)))
		same(t, "tags", tags(m), tag)
	}
	is(t, "steps", m.Mem().Steps() > before, scans)
	is(t, "frames", len(x.Frames), 0)
	told(t, m, i, 0)
	same(t, "words", m.Mem().Words(), words)
}

// Promise 18.1: nodes that no slot names are free as soon as so many wait; those of other threads don't count.
func TestRetireThenFree(t *testing.T) {
	each(t, func(t *testing.T, algo int, ghosts bool) {
		m := made(t, conf(algo, 2, 6, 3), ghosts)
		s := m.Plan().Sentinels()
		all := len(slots(m))
		is(t, "steps", alone(m, 0, Retire, uint64(s+6)), 0)
		is(t, "steps", alone(m, 0, Retire, uint64(s+5)), 0)
		is(t, "steps", alone(m, 1, Retire, uint64(s+2)), 0)
		is(t, "steps", alone(m, 1, Retire, uint64(s+4)), 0)
		is(t, "steps", alone(m, 1, Retire, uint64(s+1)), all+3*3)
		same(t, "Chain", arena.Chain(m), []int{s + 1, s + 4, s + 2})
		same(t, "Retired", waiting(m, 1), nil)
		same(t, "Retired of the other thread", waiting(m, 0), []int{s + 6, s + 5})
		is(t, "steps", alone(m, 1, Retire, uint64(s+3)), 0)
		told(t, m, 1, 0)
		is(t, "Fault", m.Fault(), false)
	})
}

// Promise 18.1: at the greatest number Scan says, the last of 64 nodes has all be free.
func TestRetireManyNodes(t *testing.T) {
	for _, ghosts := range []bool{true, false} {
		m := made(t, conf(api.Mound, 6, 64, 64), ghosts)
		var want []int
		for node := 1; node <= 63; node++ {
			is(t, "steps", alone(m, 5, Retire, uint64(node)), 0)
			want = append(want, 65-node)
		}
		is(t, "steps", alone(m, 5, Retire, 64), 12+64*3)
		same(t, "Chain", arena.Chain(m), append(want, 1))
		same(t, "Retired", waiting(m, 5), nil)
		is(t, "Fault", m.Fault(), false)
	}
}

// Promise 18.1: the ghosts hear of a node that is retired though it isn't live.
func TestRetireAtFault(t *testing.T) {
	m := made(t, conf(api.Mound, 1, 3, unseen), true)
	alone(m, 0, Retire, 2)
	is(t, "Fault", m.Fault(), false)
	alone(m, 0, Retire, 2)
	is(t, "the fault", m.Ghost().First(), ghost.Fault{Kind: ghost.Stray, Node: 2})
	same(t, "Retired", waiting(m, 0), []int{2, 2})
	is(t, "steps", alone(m, 0, Scan), 2+6)
	same(t, "Retired", waiting(m, 0), nil)
}

// P1: Retire of what is no node ends; the machine is at fault.
func TestRetireOfNoNode(t *testing.T) {
	for _, ghosts := range []bool{true, false} {
		for _, scan := range []int{1, 2} {
			for _, node := range append(far(), 4, 64, 65, 65535) {
				m := made(t, conf(api.Mound, 1, 3, scan), ghosts)
				alone(m, 0, Retire, uint64(node))
				is(t, "Fault", m.Fault(), ghosts || scan == 1)
				if scan == 2 {
					same(t, "Retired", waiting(m, 0), []int{node})
					continue
				}
				same(t, "Retired", waiting(m, 0), nil)
				told(t, m, 0, 0)
			}
		}
	}
	// Slots that name nothing are 0: what stands in one stays.
	m := made(t, conf(api.Mound, 1, 3, 1), true)
	is(t, "steps", alone(m, 0, Retire, 0), 2)
	same(t, "Retired", waiting(m, 0), []int{0})
	fill(m)
	alone(m, 0, Scan)
	same(t, "Retired", waiting(m, 0), nil)
}

// scanned is a Scan to be: who waits, what slots name (by place among all slots), and who should stay.
type scanned struct {
	name  string
	wait  []int
	named map[int]int
	stay  []int
}

// scans is Scans of thread 1 of three, each of at least two slots; nodes are numbered from 1 on behind the sentinels.
func scans(own int) []scanned {
	return []scanned{
		{"none waits", nil, nil, nil},
		{"none waits, some are named", nil, map[int]int{0: 1, own: 2, 3*own - 1: 3}, nil},
		{"one, not named", []int{3}, nil, nil},
		{"one, named by another node's slot", []int{3}, map[int]int{own: 2}, nil},
		{"one, named by the own first slot", []int{3}, map[int]int{own: 3}, []int{3}},
		{"one, named by the own last slot", []int{3}, map[int]int{2*own - 1: 3}, []int{3}},
		{"one, named by the first slot", []int{3}, map[int]int{0: 3}, []int{3}},
		{"one, named by the last slot", []int{3}, map[int]int{3*own - 1: 3}, []int{3}},
		{"one, named by all slots' threads", []int{3}, map[int]int{0: 3, own: 3, 2 * own: 3}, []int{3}},
		{"many, none named", []int{4, 1, 5, 2}, nil, nil},
		{"many, all named", []int{4, 1, 5, 2}, map[int]int{0: 1, own: 2, 2 * own: 4, 3*own - 1: 5}, []int{4, 1, 5, 2}},
		{"many, the first named", []int{4, 1, 5, 2}, map[int]int{2 * own: 4}, []int{4}},
		{"many, the last named", []int{4, 1, 5, 2}, map[int]int{own + 1: 2}, []int{2}},
		{"many, those amid named", []int{4, 1, 5, 2}, map[int]int{own: 5, own - 1: 1}, []int{1, 5}},
		{"many, all but one named", []int{4, 1, 5, 2}, map[int]int{own: 2, 0: 4, own - 1: 1}, []int{4, 1, 2}},
		{"many, one that isn't retired named", []int{4, 1, 5, 2}, map[int]int{0: 3, 2 * own: 6}, nil},
		{"many, one that is and one that isn't", []int{6, 5, 4, 3, 2}, map[int]int{0: 1, 2 * own: 5}, []int{5}},
		{"all wait", []int{1, 2, 3, 4, 5, 6}, map[int]int{own: 3}, []int{3}},
		{"what is no node named", []int{1, 2}, map[int]int{0: 65535, own: 7, 2 * own: 100}, nil},
		{"numbers too great named, whose ends are nodes'", []int{1, 2}, map[int]int{0: 1<<8 + 1, own: 1<<16 + 1, 2 * own: 1<<32 + 2}, nil},
	}
}

// shifted is nodes' numbers behind the sentinels.
func shifted(nodes []int, sentinels int) []int {
	l := slices.Clone(nodes)
	for k := range l {
		l[k] += sentinels
	}
	return l
}

// Promise 18.1: each step of Scan: all slots are read in their order; who isn't named is released, in order; who is stays, in order.
func TestScan(t *testing.T) {
	each(t, func(t *testing.T, algo int, ghosts bool) {
		own := made(t, conf(algo, 3, 6, unseen), ghosts).Plan().Slots()
		for _, x := range scans(own) {
			t.Run(x.name, func(t *testing.T) {
				m := made(t, conf(algo, 3, 6, unseen), ghosts)
				s := m.Plan().Sentinels()
				for _, node := range shifted(x.wait, s) {
					alone(m, 1, Retire, uint64(node))
				}
				for k, node := range x.named {
					m.Store(plan.Globals+k, uint64(s+node))
				}
				scansThrough(t, m, 1, shifted(x.stay, s))
				is(t, "Fault", m.Fault(), false)
			})
		}
	})
}

// scansThrough has a thread scan, and looks at each step; those who should stay are given.
func scansThrough(t *testing.T, m *core.Machine, i int, stay []int) {
	t.Helper()
	x, words, tag, was := m.Thread(i), m.Mem().Words(), tags(m), waiting(m, i)
	x.Ret = [3]uint64{9, 8, 7}
	x.Push(Scan)
	for k, look := range looks(m) {
		is(t, "frames", len(x.Frames), 1)
		is(t, "what was told ahead", x.Ret, [3]uint64{9, 8, 7})
		same(t, "Retired amid", waiting(m, i), was)
		bit(t, m, i, look, words)
		same(t, "tags amid", tags(m), tag)
		if k == 0 {
			same(t, "Retired behind the first slot", waiting(m, i), was)
		}
	}
	same(t, "Retired behind the last slot", waiting(m, i), stay)
	for _, node := range was {
		if slices.Contains(stay, node) {
			continue
		}
		is(t, "whether a frame is left", len(x.Frames) > 0, true)
		bit(t, m, i, load(plan.Free), words)
		first, version := words[plan.Free]/2%65536, words[plan.Free]>>17
		words[m.Plan().Link(node)] = first
		bit(t, m, i, store(m.Plan().Link(node)), words)
		same(t, "tags ahead of its end", tags(m), tag)
		words[plan.Free] = points(node, int(version)+1)
		bit(t, m, i, cas(plan.Free, true), words)
		if m.Ghost() != nil {
			tag = tagged(tag, ghost.Free, node)
		}
		same(t, "tags", tags(m), tag)
		same(t, "Retired", waiting(m, i), stay)
		is(t, "the first free node", arena.Chain(m)[0], node)
	}
	is(t, "frames", len(x.Frames), 0)
	told(t, m, i, 0)
}

// Promise 18.1: Retire with a Scan that follows does the same steps as Scan alone.
func TestRetireScans(t *testing.T) {
	each(t, func(t *testing.T, algo int, ghosts bool) {
		m := made(t, conf(algo, 2, 5, 4), ghosts)
		s := m.Plan().Sentinels()
		for _, k := range []int{5, 2, 4} {
			alone(m, 1, Retire, uint64(s+k))
		}
		m.Store(m.Plan().Hazard(0, 1), uint64(s+2))
		x := m.Thread(1)
		x.Push(Retire, uint64(s+1))
		want := slices.Concat(looks(m), frees(m, s+5), frees(m, s+4), frees(m, s+1))
		for k := range want {
			is(t, "whether a frame is left", step(m, 1), k < len(want)-1)
		}
		same(t, "the steps", logged(m, len(want)), want)
		same(t, "Retired", waiting(m, 1), []int{s + 2})
		same(t, "Chain", arena.Chain(m), []int{s + 1, s + 4, s + 5})
		told(t, m, 1, 0)
		is(t, "Fault", m.Fault(), false)
	})
}

// Promise 18.1: a Scan knows nothing any more of what an earlier one found.
func TestScanAgain(t *testing.T) {
	m := made(t, conf(api.Mound, 2, 4, unseen), true)
	for node := range 4 {
		alone(m, 1, Retire, uint64(node+1))
	}
	for node := range 4 {
		m.Store(plan.Globals+node, uint64(node+1))
	}
	is(t, "steps", alone(m, 1, Scan), 4)
	same(t, "Retired", waiting(m, 1), []int{1, 2, 3, 4})
	for node := range 4 {
		m.Store(plan.Globals+3-node, 0)
		is(t, "steps", alone(m, 1, Scan), 4+3)
		same(t, "Retired", waiting(m, 1), []int{1, 2, 3, 4}[:3-node])
		is(t, "steps of another one", alone(m, 1, Scan), 4)
	}
	same(t, "Chain", arena.Chain(m), []int{1, 2, 3, 4})
	is(t, "Fault", m.Fault(), false)
}

// Promise 18.1: a Scan whose frame went amid leaves nothing to a later one.
func TestScanBehindOneThatWasLeft(t *testing.T) {
	for done := range 8 {
		m := made(t, conf(api.Mound, 2, 4, unseen), false)
		for _, node := range []int{1, 2, 3} {
			alone(m, 0, Retire, uint64(node))
		}
		m.Store(plan.Globals, 1)
		m.Thread(0).Push(Scan)
		for range done {
			step(m, 0)
		}
		m.Thread(0).Frames = nil
		m.Store(plan.Globals, 0)
		m.Thread(0).Push(Scan)
		left := len(waiting(m, 0))
		is(t, "steps", finish(m, 0), 4+left*3)
		same(t, "Retired", waiting(m, 0), nil)
	}
}

// Promise 18.1: layer 17's routines, bit by bit as that layer does them.
func TestArena(t *testing.T) {
	each(t, func(t *testing.T, algo int, ghosts bool) {
		a, e := core.New(conf(algo, 2, 3, 1), nil, ghosts)
		is(t, "error", e, api.OK)
		b, e := core.New(conf(algo, 2, 3, 1), nil, ghosts)
		is(t, "error", e, api.OK)
		a.Mem().Watch(true)
		b.Mem().Watch(true)
		c := chance(algo)
		var has []uint64
		for range 400 {
			i := c.next(2)
			if x := a.Thread(i); len(x.Frames) == 0 {
				fn, node := arena.Alloc, uint64(0)
				if len(has) > 0 && c.next(2) == 0 {
					fn, node = arena.Release, has[0]
					has = has[1:]
					a.Gone(int(node))
					b.Gone(int(node))
				}
				x.Push(fn, node)
				b.Thread(i).Push(fn, node)
			}
			alloc := a.Thread(i).Top().Fn == arena.Alloc
			Do(a, a.Thread(i))
			arena.Do(b, b.Thread(i))
			same(t, "words", a.Mem().Words(), b.Mem().Words())
			same(t, "log", a.Mem().Log(), b.Mem().Log())
			same(t, "tags", tags(a), tags(b))
			same(t, "frames", a.Thread(i).Frames, b.Thread(i).Frames)
			is(t, "what is told", a.Thread(i).Ret, b.Thread(i).Ret)
			if told := a.Thread(i).Ret[0]; alloc && len(a.Thread(i).Frames) == 0 && told != 0 {
				has = append(has, told)
			}
		}
		is(t, "Fault", a.Fault(), false)
	})
}

// Promise 18.1: a Scan goes on with its next node, also if layer 17 itself did the steps of a Release.
func TestScanByLayer17(t *testing.T) {
	m := made(t, conf(api.Mound, 2, 4, unseen), true)
	for _, node := range []int{3, 1, 2} {
		alone(m, 0, Retire, uint64(node))
	}
	m.Store(plan.Globals+3, 1)
	x := m.Thread(0)
	x.Push(Scan)
	want := slices.Concat(looks(m), frees(m, 3), frees(m, 2))
	for range want {
		m.Step(0, func(m *core.Machine, x *core.Thread) {
			if x.Top().Fn == arena.Release {
				arena.Do(m, x)
				return
			}
			Do(m, x)
		})
	}
	same(t, "the steps", logged(m, len(want)), want)
	same(t, "Chain", arena.Chain(m), []int{2, 3})
	same(t, "Retired", waiting(m, 0), []int{1})
	is(t, "steps that are left", finish(m, 0), 0)
	is(t, "frames", len(x.Frames), 0)
	told(t, m, 0, 0)
	is(t, "Fault", m.Fault(), false)
}

// others is routines that aren't of this layer, nor of layer 17.
func others() []int {
	return append(far(), 0, 7, 8, 11, 20, 30, 63, 65, 255, 256, 257, 259, 260, 261, 262)
}

// Promise 18.1: a frame of another routine is taken off, and tells nothing; no step is done.
func TestOtherRoutines(t *testing.T) {
	for _, fn := range others() {
		m := made(t, conf(api.Sundell, 2, 4, 2), true)
		x := m.Thread(1)
		x.Retired.Push(4)
		m.Gone(4)
		for _, pc := range []int{0, 1, 2, 3, -1} {
			x.Push(fn, 3, 4)
			x.Top().PC, x.Ret = pc, [3]uint64{9, 8, 7}
			quiet(t, "Do", m, func() { Do(m, x) })
			is(t, "frames", len(x.Frames), 0)
			told(t, m, 1, 0)
		}
		same(t, "Retired", waiting(m, 1), []int{4})
		is(t, "frames of the other thread", len(m.Thread(0).Frames), 0)
	}
}

// Promise 18.1: likewise with a frame beneath it, which stays as it is, and goes on.
func TestOtherRoutineOnTop(t *testing.T) {
	for _, fn := range others() {
		for _, x := range []struct {
			fn    int
			r     []uint64
			steps int
		}{{Protect, []uint64{1, place}, 3}, {Clear, nil, 6}, {Retire, []uint64{5}, 12 + 6}, {Scan, nil, 12 + 3},
			{arena.Alloc, nil, 1}, {arena.Release, []uint64{4}, 3}} {
			for done := range x.steps {
				m := made(t, conf(api.Sundell, 2, 4, 2), true)
				m.Store(place, points(3, 3))
				alone(m, 1, Retire, 4)
				y := m.Thread(1)
				y.Push(x.fn, x.r...)
				for range done {
					step(m, 1)
				}
				beneath := slices.Clone(y.Frames)
				y.Push(fn, 6)
				y.Ret = [3]uint64{9, 8, 7}
				quiet(t, "Do", m, func() { Do(m, y) })
				same(t, "the frames beneath", y.Frames, beneath)
				told(t, m, 1, 0)
				is(t, "steps that are left", finish(m, 1), x.steps-done)
				is(t, "Fault", m.Fault(), false)
			}
		}
	}
}

// Promise 18.1: what is beneath a routine of this layer stays as it is, and is on top when that is at its end.
func TestFrameBeneath(t *testing.T) {
	for _, x := range []struct {
		fn    int
		r     []uint64
		steps int
	}{{Protect, []uint64{1, place}, 3}, {Clear, nil, 2}, {Retire, []uint64{1}, 4 + 3}, {Retire, []uint64{2}, 4}, {Scan, nil, 4 + 0}} {
		m := made(t, conf(api.Mound, 2, 4, 1), true)
		m.Store(place, points(3, 3))
		m.Store(m.Plan().Hazard(1, 1), 2)
		y := m.Thread(0)
		y.Push(77, 1, 2, 3, 4, 5, 6, 7, 8, 9, 10)
		y.Top().PC = 5
		beneath := *y.Top()
		y.Push(x.fn, x.r...)
		for range x.steps {
			is(t, "whether a frame is on top", len(y.Frames) > 1, true)
			is(t, "Step", step(m, 0), true)
			is(t, "the frame beneath", y.Frames[0], beneath)
		}
		is(t, "frames behind it", len(y.Frames), 1)
		is(t, "steps that are left", finish(m, 0), 0)
		is(t, "Fault", m.Fault(), false)
	}
}

// Promise 18.1: Retire without a Scan has no step: the frame beneath goes on.
func TestRetireThenFrameBeneath(t *testing.T) {
	m := made(t, conf(api.Mound, 1, 4, 3), true)
	x := m.Thread(0)
	x.Push(Clear)
	x.Push(Retire, 3)
	x.Push(Retire, 1)
	is(t, "Step", step(m, 0), true)
	same(t, "Retired", waiting(m, 0), []int{1, 3})
	same(t, "the step", logged(m, 1), []mem.Access{store(plan.Globals)})
	is(t, "Step", step(m, 0), false)
	x.Push(Retire, 2)
	x.Frames = slices.Insert(x.Frames, 0, core.Frame{Fn: Retire, R: [10]uint64{4}})
	is(t, "steps", finish(m, 0), 2+9)
	same(t, "Retired", waiting(m, 0), []int{4})
	same(t, "Chain", arena.Chain(m), []int{2, 3, 1})
	is(t, "Fault", m.Fault(), false)
}

// Promise 18.1: of no thread, or without a frame, nothing.
func TestNothingToDo(t *testing.T) {
	m := made(t, conf(api.Mound, 1, 2, 1), true)
	x := m.Thread(0)
	x.Ret = [3]uint64{9, 8, 7}
	quiet(t, "Do", m, func() {
		Do(m, nil)
		Do(m, x)
		Do(nil, x)
		Do(nil, nil)
		Do(m, &core.Thread{})
	})
	is(t, "what was told", x.Ret, [3]uint64{9, 8, 7})
	is(t, "frames", len(x.Frames), 0)
	is(t, "Step", step(m, 0), false)
	is(t, "what was told", x.Ret, [3]uint64{9, 8, 7})
}

// P1: of a nil machine, or of a zero one, each bit ends. Its words are 0, and it has no slots.
func TestNoMachine(t *testing.T) {
	for _, m := range []*core.Machine{nil, {}} {
		var x core.Thread
		x.Push(Protect, 0, place)
		Do(m, &x)
		is(t, "frames of Protect", len(x.Frames), 0)
		x.Push(Clear)
		Do(m, &x)
		is(t, "frames of Clear", len(x.Frames), 0)
		x.Push(Scan)
		Do(m, &x)
		is(t, "frames of Scan", len(x.Frames), 0)
		is(t, "what is told", x.Ret, [3]uint64{})
		x.Push(Retire, 1)
		for range 20 {
			Do(m, &x)
		}
		is(t, "how many wait", x.Retired.Len(), 0)
		for _, fn := range []int{Protect, Clear, Retire, Scan, arena.Alloc, arena.Release, 0} {
			for _, pc := range append(far(), 0, 1, 2, 3) {
				x.Push(fn, 1, 2, 3)
				x.Top().PC = pc
				Do(m, &x)
			}
		}
	}
}

// P1: Protect of no such address, or in no such slot, ends; the machine is at fault.
func TestProtectNowhere(t *testing.T) {
	for _, ghosts := range []bool{true, false} {
		m := made(t, conf(api.Mound, 2, 2, 1), ghosts)
		size := m.Plan().Size()
		for _, a := range append(far(), size, size+1, 4096) {
			m := made(t, conf(api.Mound, 2, 2, 1), ghosts)
			fill(m)
			words := m.Mem().Words()
			is(t, "steps", alone(m, 1, Protect, 0, uint64(a)), 0)
			told(t, m, 1, 0)
			same(t, "words", m.Mem().Words(), words)
			is(t, "Fault", m.Fault(), true)
		}
		for _, slot := range append(far(), 2, 3, 64) {
			m := made(t, conf(api.Mound, 2, 2, 1), ghosts)
			fill(m)
			m.Store(place, points(1, 4))
			words := m.Mem().Words()
			is(t, "steps", alone(m, 1, Protect, uint64(slot), place), 2)
			told(t, m, 1, points(1, 4))
			same(t, "words", m.Mem().Words(), words)
			is(t, "Fault", m.Fault(), true)
		}
	}
}

// P1: a frame that is nowhere in its routine ends, too.
func TestNowhereInARoutine(t *testing.T) {
	for _, fn := range []int{Protect, Clear, Retire, Scan} {
		for _, pc := range append(far(), 3, 4, 5, 100, 255, 256, 257, 258) {
			m := made(t, conf(api.Mound, 2, 2, 1), false)
			m.Store(place, points(1, 4))
			m.Thread(0).Push(fn, 1, place, 1)
			m.Thread(0).Top().PC = pc
			is(t, "whether it ends soon", finish(m, 0) < 20, true)
			is(t, "frames", len(m.Thread(0).Frames), 0)
		}
	}
}
