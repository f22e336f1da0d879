package arena

import (
	"math"
	"slices"
	"testing"

	"jostle/api"
	"jostle/core"
	"jostle/ghost"
	"jostle/plan"
)

// is holds what was told against what should be. It ends the test, since what is wrong at all is mostly wrong of many machines.
func is[T comparable](t *testing.T, name string, got, want T) {
	if got != want {
		t.Helper() // not ahead of it, as that takes most of the time
		t.Fatalf("%s: %v, not %v", name, got, want)
	}
}

// same holds a list that was told against the one that should be; a nil one is as an empty one.
func same[T comparable](t *testing.T, name string, got, want []T) {
	if !slices.Equal(got, want) {
		t.Helper()
		t.Fatalf("%s: %v, not %v", name, got, want)
	}
}

// chance is numbers that look like chance, and are the same each time.
type chance uint64

// next is the next one, below n.
func (c *chance) next(n int) int {
	*c = *c*6364136223846793005 + 1442695040888963407
	return int(uint64(*c)>>33) % n
}

// far is numbers at the edges of an int and of what an int may be cut down to: none is a number of anything here.
func far() []int {
	return []int{math.MinInt, math.MinInt + 1, math.MinInt32 - 1, math.MinInt32, -1 << 16, -64, -2, -1,
		1 << 16, 1<<16 + 1, math.MaxInt32, math.MaxInt32 + 1, 1 << 32, 1<<32 + 1, math.MaxInt - 1, math.MaxInt}
}

// sentinels is how many nodes of an algorithm never are in the free list.
func sentinels(algo int) int {
	if algo == api.Mound {
		return 0
	}
	return 2
}

// made is a machine of an algorithm, with as many nodes in its free list.
func made(t *testing.T, algo, threads, free int, ghosts bool) *core.Machine {
	t.Helper()
	c := api.Conf{Algo: algo, Threads: threads, Nodes: sentinels(algo) + free, Level: 2, Batch: 1, Probes: 1, Scan: 1}
	m, e := core.New(c, nil, ghosts)
	if e != api.OK {
		t.Fatalf("New of %v: error %d", c, e)
	}
	return m
}

// emptied is a machine as made, of which thread 0 took all nodes out of the free list.
func emptied(t *testing.T, algo, threads, nodes int, ghosts bool) *core.Machine {
	t.Helper()
	m := made(t, algo, threads, nodes, ghosts)
	for range nodes {
		alone(m, 0, Alloc, 0)
	}
	same(t, "Chain of an emptied list", Chain(m), nil)
	return m
}

// alone has a thread do a routine, with nobody else, and tells how many steps it took.
func alone(m *core.Machine, i, fn, node int) int {
	begin(m, i, fn, node)
	return finish(m, i)
}

// begin lays a routine's frame; a node that is to be put back was retired.
func begin(m *core.Machine, i, fn, node int) {
	if fn == Alloc {
		m.Thread(i).Push(fn)
		return
	}
	m.Gone(node)
	m.Thread(i).Push(fn, uint64(node))
}

// finish has a thread do all that it has begun, and tells how many steps it took.
func finish(m *core.Machine, i int) int {
	before := m.Mem().Steps()
	for step(m, i) {
		if m.Mem().Steps() > before+many {
			panic("a routine that has no end")
		}
	}
	return m.Mem().Steps() - before
}

// many is more than any routine needs here, of steps and of bits a step: a wrong one should fail, and not go on for ever.
const many = 100

// step has a thread do a step; true, if a frame is left.
func step(m *core.Machine, i int) bool {
	bits := 0
	return m.Step(i, func(m *core.Machine, x *core.Thread) {
		if bits++; bits > many {
			panic("a routine that does no step")
		}
		Do(m, x)
	})
}

// told is what the last routine told, and nothing beside it.
func told(t *testing.T, m *core.Machine, i int, want uint64) {
	t.Helper()
	is(t, "what is told", m.Thread(i).Ret, [3]uint64{want})
}

// The chapter's example.
func TestExample(t *testing.T) {
	m := made(t, api.Mound, 1, 2, true)
	for _, want := range []uint64{1, 2, 0} {
		alone(m, 0, Alloc, 0)
		told(t, m, 0, want)
	}
	alone(m, 0, Release, 1)
	told(t, m, 0, 1)
	same(t, "Chain", Chain(m), []int{1})
	is(t, "Fault", m.Fault(), false)
}

// each calls a function for each algorithm, with ghosts and without.
func each(t *testing.T, f func(t *testing.T, algo int, ghosts bool)) {
	for algo, name := range []string{"mound", "sundell", "linden"} {
		t.Run(name+" with ghosts", func(t *testing.T) { f(t, algo, true) })
		t.Run(name+" without", func(t *testing.T) { f(t, algo, false) })
	}
}

// Promise 17.1: Alloc tells the first node, and takes it off; of no node it tells 0, by one step.
func TestAllocAlone(t *testing.T) {
	each(t, func(t *testing.T, algo int, ghosts bool) {
		for _, free := range []int{1, 2, 3, 62 - sentinels(algo), 64 - sentinels(algo)} {
			m := made(t, algo, 1, free, ghosts)
			want := Chain(m)
			is(t, "how many are free", len(want), free)
			for k, node := range want {
				is(t, "the first ones", node, sentinels(algo)+1+k)
				m.Thread(0).Ret = [3]uint64{9, 8, 7}
				is(t, "steps", alone(m, 0, Alloc, 0), 3)
				told(t, m, 0, uint64(node))
				same(t, "Chain", Chain(m), want[k+1:])
			}
			for range 2 {
				before := m.Mem().Words()
				m.Thread(0).Ret = [3]uint64{9, 8, 7}
				is(t, "steps of an empty list", alone(m, 0, Alloc, 0), 1)
				told(t, m, 0, 0)
				same(t, "words", m.Mem().Words(), before)
			}
			is(t, "Fault", m.Fault(), false)
			if ghosts {
				is(t, "how many are live", m.Ghost().Count(ghost.Live), sentinels(algo)+free)
			}
		}
	})
}

// permute calls a function with each order of the numbers from 0 to n - 1.
func permute(n int, f func(order []int)) {
	order := make([]int, 0, n)
	var more func()
	more = func() {
		if len(order) == n {
			f(slices.Clone(order))
			return
		}
		for k := range n {
			if !slices.Contains(order, k) {
				order = append(order, k)
				more()
				order = order[:len(order)-1]
			}
		}
	}
	more()
}

// Promises 17.1 and 17.2: nodes are put back in each order; the last one comes first, and is taken first.
func TestReleaseInEachOrder(t *testing.T) {
	each(t, func(t *testing.T, algo int, ghosts bool) {
		permute(4, func(order []int) {
			m := emptied(t, algo, 1, 4, ghosts)
			var want []int
			for _, k := range order {
				node := sentinels(algo) + 1 + k
				m.Thread(0).Ret = [3]uint64{9, 8, 7}
				is(t, "steps", alone(m, 0, Release, node), 3)
				told(t, m, 0, uint64(node))
				want = slices.Insert(want, 0, node)
				same(t, "Chain", Chain(m), want)
			}
			for _, node := range want {
				alone(m, 0, Alloc, 0)
				told(t, m, 0, uint64(node))
			}
			same(t, "Chain at the end", Chain(m), nil)
			is(t, "Fault", m.Fault(), false)
		})
	})
}

// quiet fails, if a function does a step, changes a word, or tells ghosts anything.
func quiet(t *testing.T, name string, m *core.Machine, f func()) {
	t.Helper()
	words, steps, logged, first := m.Mem().Words(), m.Mem().Steps(), m.Mem().Log(), m.Ghost().First()
	f()
	same(t, name+": words", m.Mem().Words(), words)
	is(t, name+": steps", m.Mem().Steps(), steps)
	same(t, name+": log", m.Mem().Log(), logged)
	is(t, name+": the first fault", m.Ghost().First(), first)
}

// Promise 17.1: Chain of a full list, of an empty one, and amid routines; it counts no step, changes and touches nothing.
func TestChain(t *testing.T) {
	each(t, func(t *testing.T, algo int, ghosts bool) {
		m := made(t, algo, 2, 3, ghosts)
		m.Mem().Watch(true)
		s := sentinels(algo)
		chain := func(want ...int) {
			t.Helper()
			for k := range want {
				want[k] += s
			}
			frames := slices.Clone(m.Thread(0).Frames)
			quiet(t, "Chain", m, func() { same(t, "Chain", Chain(m), want) })
			same(t, "frames", m.Thread(0).Frames, frames)
			is(t, "Fault", m.Fault(), false)
		}
		chain(1, 2, 3)
		begin(m, 0, Alloc, 0)
		chain(1, 2, 3)
		step(m, 0)
		chain(1, 2, 3)
		step(m, 0)
		chain(1, 2, 3)
		alone(m, 1, Alloc, 0) // another thread changes the list
		chain(2, 3)
		step(m, 0) // in vain
		chain(2, 3)
		finish(m, 0)
		chain(3)
		begin(m, 0, Release, s+1)
		step(m, 0)
		step(m, 0) // the link is written, and the node isn't in the list yet
		chain(3)
		step(m, 0)
		chain(1, 3)
		alone(m, 0, Alloc, 0)
		alone(m, 0, Alloc, 0)
		chain()
	})
}

// Promise 17.1: Chain tells at most as many as there are nodes, though the list run back into itself.
func TestChainHasAnEnd(t *testing.T) {
	each(t, func(t *testing.T, algo int, ghosts bool) {
		for _, free := range []int{1, 2, 3, 64 - sentinels(algo)} {
			m := made(t, algo, 1, free, ghosts)
			s := sentinels(algo)
			m.Store(m.Plan().Link(s+free), uint64(s+1))
			var want []int
			for k := range s + free {
				want = append(want, s+1+k%free)
			}
			same(t, "a ring", Chain(m), want)
			alone(m, 0, Release, s+1) // its link is itself
			same(t, "the least ring", Chain(m), slices.Repeat([]int{s + 1}, s+free))
		}
	})
}

// Promise 17.1: all of the longest list is told, also if the sentinels were put into it.
func TestChainOfAllNodes(t *testing.T) {
	m := made(t, api.Linden, 1, 62, false)
	alone(m, 0, Release, 2)
	alone(m, 0, Release, 1)
	l := Chain(m)
	is(t, "how many", len(l), 64)
	for k, node := range l {
		is(t, "a node", node, k+1)
	}
}

// Chain is of nodes: where a word was laid that is no node's number, the list ends.
func TestChainOfNoNodes(t *testing.T) {
	for _, link := range []uint64{0, 4, 65, 1 << 16, 1<<16 + 1, 1 << 32, 1<<32 + 1, 1<<63 + 1, math.MaxUint64} {
		m := made(t, api.Mound, 1, 3, true)
		m.Store(m.Plan().Link(2), link)
		same(t, "Chain", Chain(m), []int{1, 2})
	}
	for _, free := range []uint64{0, 1, 4 << 1, 64 << 1, 65535 << 1, 5<<17 | 0, math.MaxUint64} {
		m := made(t, api.Mound, 1, 3, true)
		m.Store(plan.Free, free)
		same(t, "Chain", Chain(m), nil)
	}
	m := made(t, api.Mound, 1, 3, true)
	m.Store(plan.Free, 77<<17|2<<1|1)
	same(t, "Chain by a mark and a version", Chain(m), []int{2, 3})
}

// Promise 17.1: of a nil machine Chain tells none.
func TestChainOfNoMachine(t *testing.T) {
	same(t, "Chain", Chain(nil), nil)
	same(t, "Chain of a zero machine", Chain(&core.Machine{}), nil)
}

// Lists that were told are new ones: that they are changed plays no part.
func TestToldLists(t *testing.T) {
	m := made(t, api.Mound, 1, 3, true)
	a, b := Chain(m), Chain(m)
	for k := range a {
		a[k] = 9
	}
	_ = append(a[:0], 7, 7, 7)
	same(t, "another one", b, []int{1, 2, 3})
	same(t, "Chain", Chain(m), []int{1, 2, 3})
	alone(m, 0, Alloc, 0)
	told(t, m, 0, 1)
	same(t, "the other one later", b, []int{1, 2, 3})
	w := m.Mem().Words()
	clear(w)
	same(t, "Chain", Chain(m), []int{2, 3})
}

// others is routines that aren't of this layer.
func others() []int {
	return append(far(), 0, 3, 4, 5, 6, 7, 10, 63, 65, 255, 256, 257, 258)
}

// Promise 17.1: a frame of another routine is taken off, and tells nothing; no step is done.
func TestOtherRoutines(t *testing.T) {
	for _, fn := range others() {
		m := made(t, api.Sundell, 2, 2, true)
		m.Mem().Watch(true)
		x := m.Thread(1)
		for _, pc := range []int{0, 1, 2, 3, -1} {
			x.Push(fn, 3, 4)
			x.Top().PC, x.Ret = pc, [3]uint64{9, 8, 7}
			quiet(t, "Do", m, func() { Do(m, x) })
			is(t, "frames", len(x.Frames), 0)
			told(t, m, 1, 0)
		}
		x.Push(Release, 3, 5)
		x.Top().PC = 1
		beneath := *x.Top()
		x.Push(fn, 6)
		x.Ret = [3]uint64{9, 8, 7}
		quiet(t, "Do with a frame beneath", m, func() { Do(m, x) })
		is(t, "frames", len(x.Frames), 1)
		is(t, "the frame beneath", *x.Top(), beneath)
		told(t, m, 1, 0)
		is(t, "frames of the other thread", len(m.Thread(0).Frames), 0)
	}
}

// Promise 17.1: Step goes on with the frame beneath, since no step was done.
func TestOtherRoutineThenStep(t *testing.T) {
	m := made(t, api.Mound, 1, 2, true)
	x := m.Thread(0)
	x.Push(Alloc)
	x.Push(3)
	x.Push(-1, 1)
	is(t, "steps", finish(m, 0), 3)
	told(t, m, 0, 1)
	x.Push(0)
	is(t, "steps of no routine", finish(m, 0), 0)
	told(t, m, 0, 0)
	same(t, "Chain", Chain(m), []int{2})
}

// Promise 17.1: what is beneath a routine of this layer stays as it is, and goes on when that has told.
func TestFrameBeneath(t *testing.T) {
	m := made(t, api.Mound, 1, 2, true)
	x := m.Thread(0)
	x.Push(77, 1, 2, 3, 4, 5, 6, 7, 8, 9, 10)
	x.Top().PC = 5
	beneath := *x.Top()
	for _, fn := range []int{Alloc, Alloc, Release} {
		if fn == Release {
			m.Gone(2)
		}
		x.Push(fn, 2)
		for range 3 {
			is(t, "frames", len(x.Frames), 2)
			is(t, "Step", step(m, 0), true)
			is(t, "the frame beneath", x.Frames[0], beneath)
		}
		is(t, "frames behind it", len(x.Frames), 1)
	}
	same(t, "Chain", Chain(m), []int{2})
	is(t, "Fault", m.Fault(), false)
}

// Promise 17.1: of no thread, or without a frame, nothing.
func TestNothingToDo(t *testing.T) {
	m := made(t, api.Mound, 1, 2, true)
	m.Mem().Watch(true)
	x := m.Thread(0)
	x.Ret = [3]uint64{9, 8, 7}
	quiet(t, "Do", m, func() {
		Do(m, nil)
		Do(m, x)
		Do(nil, x)
		Do(nil, nil)
		Do(m, &core.Thread{})
	})
	is(t, "what was told", x.Ret, [3]uint64{9, 8, 7})
	is(t, "frames", len(x.Frames), 0)
	is(t, "Step", step(m, 0), false)
	is(t, "what was told", x.Ret, [3]uint64{9, 8, 7})
}

// P1: of a nil machine, or of a zero one, each bit ends. Its words are 0, so that nothing can be taken.
func TestNoMachine(t *testing.T) {
	for _, m := range []*core.Machine{nil, {}} {
		var x core.Thread
		x.Push(Alloc)
		Do(m, &x)
		is(t, "frames of Alloc", len(x.Frames), 0)
		is(t, "what Alloc tells", x.Ret, [3]uint64{})
		x.Push(Release, 1)
		for range 20 {
			Do(m, &x)
		}
		is(t, "frames of Release", len(x.Frames), 1)
		is(t, "the node", x.Top().R[0], 1)
		x.Push(3)
		Do(m, &x)
		is(t, "frames", len(x.Frames), 1)
		for _, fn := range []int{Alloc, Release} {
			for _, pc := range append(far(), 0, 1, 2, 3) {
				x.Push(fn, 1, 2, 3)
				x.Top().PC = pc
				Do(m, &x)
			}
		}
	}
}

// P1: Release of what is no node ends; the machine is at fault, as there is no such link.
func TestReleaseOfNoNode(t *testing.T) {
	for _, ghosts := range []bool{true, false} {
		for _, node := range append(far(), 0, 3, 64, 65, 65535) {
			m := made(t, api.Mound, 1, 2, ghosts)
			links := slices.Clone(m.Mem().Words()[m.Plan().Link(1):])
			m.Thread(0).Push(Release, uint64(node))
			is(t, "steps", finish(m, 0), 2)
			told(t, m, 0, uint64(node))
			is(t, "Fault", m.Fault(), true)
			free := m.Load(plan.Free)
			is(t, "Free", free, 1<<17|uint64(node)&0xffff<<1)
			same(t, "all behind the hazard slots", m.Mem().Words()[m.Plan().Link(1):], links)
			is(t, "a list of no more than all", len(Chain(m)) <= 2, true)
		}
	}
}

// P1: Alloc of what was laid and is no node ends, too, and the next word points to nothing.
func TestAllocOfNoNode(t *testing.T) {
	for _, node := range []uint64{3, 64, 65535} {
		m := made(t, api.Mound, 1, 2, true)
		m.Store(plan.Free, 5<<17|node<<1)
		is(t, "steps", alone(m, 0, Alloc, 0), 2)
		told(t, m, 0, node)
		is(t, "Fault", m.Fault(), true)
		is(t, "Free", m.Load(plan.Free), 6<<17)
	}
}

// P1: a frame that is nowhere in its routine ends, too: it begins anew.
func TestNowhereInARoutine(t *testing.T) {
	for _, fn := range []int{Alloc, Release} {
		for _, pc := range append(far(), 3, 4, 255, 256, 257, 258) {
			m := made(t, api.Mound, 1, 2, false)
			m.Thread(0).Push(fn, 2)
			m.Thread(0).Top().PC = pc
			is(t, "steps", finish(m, 0), 3)
		}
	}
}
