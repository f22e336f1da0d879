package arena

import (
	"slices"
	"testing"

	"jostle/api"
	"jostle/core"
	"jostle/ghost"
	"jostle/mem"
	"jostle/plan"
)

// points is a word by its parts, with no mark.
func points(node, version int) uint64 { return uint64(version)*(1<<17) + uint64(node)*2 }

// Accesses, as they are logged.
func load(a int) mem.Access             { return mem.Access{Kind: mem.Load, A: a, B: -1} }
func store(a int) mem.Access            { return mem.Access{Kind: mem.Store, A: a, B: -1, Done: true} }
func cas(a int, done bool) mem.Access   { return mem.Access{Kind: mem.Cas, A: a, B: -1, Done: done} }
func logged(m *core.Machine) mem.Access { l := m.Mem().Log(); return l[len(l)-1] }

// tags is what the ghosts say of all nodes.
func tags(m *core.Machine) []int {
	var l []int
	for node := 1; node <= m.Plan().Conf().Nodes; node++ {
		l = append(l, m.Ghost().Tag(node))
	}
	return l
}

// bit has a thread do one bit, that must be one step of memory: this access, after which the words are these.
func bit(t *testing.T, m *core.Machine, i int, access mem.Access, words []uint64) {
	t.Helper()
	before, logs := m.Mem().Steps(), len(m.Mem().Log())
	Do(m, m.Thread(i))
	is(t, "steps", m.Mem().Steps(), before+1)
	is(t, "steps that are logged", len(m.Mem().Log()), logs+1)
	is(t, "the step", logged(m), access)
	same(t, "words", m.Mem().Words(), words)
}

// Promise 17.1: each step of Alloc, on its own: Free is read, the link is read, Free is written; then it tells.
func TestStepsOfAlloc(t *testing.T) {
	each(t, func(t *testing.T, algo int, ghosts bool) {
		m := made(t, algo, 2, 3, ghosts)
		m.Mem().Watch(true)
		x, s := m.Thread(1), sentinels(algo)
		words := m.Mem().Words()
		is(t, "Free at first", words[plan.Free], points(s+1, 0))
		for k := range 3 {
			node, next := s+1+k, s+2+k
			if k == 2 {
				next = 0
			}
			x.Ret = [3]uint64{9, 8, 7}
			x.Push(Alloc)
			free := tags(m)
			bit(t, m, 1, load(plan.Free), words)
			is(t, "frames", len(x.Frames), 1)
			bit(t, m, 1, load(m.Plan().Link(node)), words)
			is(t, "frames", len(x.Frames), 1)
			is(t, "what was told ahead", x.Ret, [3]uint64{9, 8, 7})
			same(t, "tags amid", tags(m), free)
			words[plan.Free] = points(next, k+1)
			bit(t, m, 1, cas(plan.Free, true), words)
			is(t, "frames", len(x.Frames), 0)
			told(t, m, 1, uint64(node))
			if ghosts {
				free[node-1] = ghost.Live
			}
			same(t, "tags", tags(m), free)
		}
		x.Ret = [3]uint64{9, 8, 7}
		x.Push(Alloc)
		free := tags(m)
		bit(t, m, 1, load(plan.Free), words)
		is(t, "frames", len(x.Frames), 0)
		told(t, m, 1, 0)
		same(t, "tags", tags(m), free)
		is(t, "Fault", m.Fault(), false)
		is(t, "frames of the other thread", len(m.Thread(0).Frames), 0)
	})
}

// Promise 17.1: each step of Release, on its own: Free is read, the link is written, Free is written; then it tells.
func TestStepsOfRelease(t *testing.T) {
	each(t, func(t *testing.T, algo int, ghosts bool) {
		m := emptied(t, algo, 2, 3, ghosts)
		m.Mem().Watch(true)
		x, s := m.Thread(1), sentinels(algo)
		words := m.Mem().Words()
		first := 0
		for k, node := range []int{s + 2, s + 3, s + 1} {
			x.Ret = [3]uint64{9, 8, 7}
			begin(m, 1, Release, node)
			retired := tags(m)
			bit(t, m, 1, load(plan.Free), words)
			is(t, "frames", len(x.Frames), 1)
			words[m.Plan().Link(node)] = uint64(first)
			bit(t, m, 1, store(m.Plan().Link(node)), words)
			is(t, "frames", len(x.Frames), 1)
			is(t, "what was told ahead", x.Ret, [3]uint64{9, 8, 7})
			same(t, "tags amid", tags(m), retired)
			words[plan.Free] = points(node, 3+k+1)
			bit(t, m, 1, cas(plan.Free, true), words)
			is(t, "frames", len(x.Frames), 0)
			told(t, m, 1, uint64(node))
			if ghosts {
				is(t, "the tag ahead", retired[node-1], ghost.Retired)
				retired[node-1] = ghost.Free
			}
			same(t, "tags", tags(m), retired)
			first = node
		}
		is(t, "Fault", m.Fault(), false)
	})
}

// deed is a routine with its node.
type deed struct {
	name     string
	fn, node int
}

// between is what another thread may do while a routine is being done. Thread 1 has nodes 1 and 2; 3, 4, 5 are in the list.
func between() []deed {
	return []deed{{"takes one", Alloc, 0}, {"puts back 1", Release, 1}, {"puts back 2", Release, 2}}
}

// atFirst is a machine whose thread 1 has nodes 1 and 2, and thread 0 has 6.
func atFirst(t *testing.T, ghosts bool) *core.Machine {
	m := made(t, api.Mound, 3, 6, ghosts)
	alone(m, 1, Alloc, 0)
	alone(m, 1, Alloc, 0)
	for range 4 {
		alone(m, 0, Alloc, 0)
	}
	for node := 5; node >= 3; node-- {
		alone(m, 0, Release, node)
	}
	same(t, "Chain at first", Chain(m), []int{3, 4, 5})
	m.Mem().Watch(true)
	return m
}

// Promise 17.1: a Cas that fails, as another thread changed Free between any two steps: the routine begins anew, and reads Free again.
func TestAnotherThreadBetween(t *testing.T) {
	for _, ghosts := range []bool{true, false} {
		for _, mine := range []deed{{"takes one", Alloc, 0}, {"puts back 6", Release, 6}} {
			for _, its := range between() {
				for done := range 3 {
					oneBetween(t, ghosts, mine, its, done)
				}
			}
		}
	}
}

// oneBetween has thread 0 do so many steps of its deed, then thread 1 all of its own one, then thread 0 what is left.
func oneBetween(t *testing.T, ghosts bool, mine, its deed, done int) {
	t.Helper()
	m := atFirst(t, ghosts)
	begin(m, 0, mine.fn, mine.node)
	for range done {
		step(m, 0)
	}
	is(t, its.name+": steps", alone(m, 1, its.fn, its.node), 3)
	first := Chain(m)[0]
	version := m.Load(plan.Free) >> 17
	ahead := tags(m)
	if done > 0 {
		inVain(t, m, done)
	}
	same(t, "tags behind a Cas that wasn't done", tags(m), ahead)
	is(t, "steps from the beginning on", finish(m, 0), 3)
	want := first
	if mine.fn == Release {
		want = mine.node
	}
	told(t, m, 0, uint64(want))
	is(t, "Free's version", m.Load(plan.Free)>>17, version+1)
	is(t, "Fault", m.Fault(), false)
}

// inVain has thread 0 do what is left up to its Cas, which isn't done.
func inVain(t *testing.T, m *core.Machine, done int) {
	t.Helper()
	for range 2 - done {
		step(m, 0)
	}
	words, ret := m.Mem().Words(), m.Thread(0).Ret
	bit(t, m, 0, cas(plan.Free, false), words)
	is(t, "frames behind a Cas that wasn't done", len(m.Thread(0).Frames), 1)
	is(t, "what was told", m.Thread(0).Ret, ret)
}

// Promise 17.1: a routine begins anew as often as its Cas fails, and reads all again.
func TestBeginsAnewManyTimes(t *testing.T) {
	m := made(t, api.Mound, 2, 5, true)
	m.Mem().Watch(true)
	var want []mem.Access
	m.Thread(0).Push(Alloc)
	for k := range 5 {
		step(m, 0)
		step(m, 0)
		want = append(want, load(plan.Free), load(m.Plan().Link(k+1)))
		m.Mem().Watch(false)
		alone(m, 1, Alloc, 0)
		told(t, m, 1, uint64(k+1))
		m.Mem().Watch(true)
		step(m, 0)
		want = append(want, cas(plan.Free, false))
	}
	is(t, "frames", len(m.Thread(0).Frames), 1)
	step(m, 0)
	want = append(want, load(plan.Free))
	same(t, "all steps", m.Mem().Log(), want)
	is(t, "frames of an empty list", len(m.Thread(0).Frames), 0)
	told(t, m, 0, 0)
	is(t, "how many are live", m.Ghost().Count(ghost.Live), 5)
	is(t, "Fault", m.Fault(), false)
}

// Promise 17.2: Free points to the same node as before, with another version; the link that was read isn't the node's any more.
func TestSameNodeAgain(t *testing.T) {
	for _, ghosts := range []bool{true, false} {
		m := made(t, api.Mound, 2, 4, ghosts)
		m.Mem().Watch(true)
		m.Thread(0).Push(Alloc)
		step(m, 0)
		step(m, 0) // Free points to 1, whose link is 2
		alone(m, 1, Alloc, 0)
		alone(m, 1, Alloc, 0)
		alone(m, 1, Release, 1)
		is(t, "Free", m.Mem().Words()[plan.Free], points(1, 3))
		same(t, "Chain", Chain(m), []int{1, 3, 4})
		bit(t, m, 0, cas(plan.Free, false), m.Mem().Words())
		same(t, "Chain", Chain(m), []int{1, 3, 4})
		is(t, "steps", finish(m, 0), 3)
		told(t, m, 0, 1)
		same(t, "Chain", Chain(m), []int{3, 4})
		is(t, "Free", m.Mem().Words()[plan.Free], points(3, 4))
		is(t, "Fault", m.Fault(), false)
	}
}

// Promise 17.2: likewise of a node that is put back: the first one is the same again, all the same the Cas isn't done.
func TestSameFirstAgain(t *testing.T) {
	for _, ghosts := range []bool{true, false} {
		m := made(t, api.Mound, 2, 4, ghosts)
		m.Mem().Watch(true)
		alone(m, 0, Alloc, 0)
		begin(m, 0, Release, 1)
		step(m, 0)
		step(m, 0)
		alone(m, 1, Alloc, 0)
		alone(m, 1, Release, 2)
		is(t, "Free", m.Mem().Words()[plan.Free], points(2, 3))
		bit(t, m, 0, cas(plan.Free, false), m.Mem().Words())
		same(t, "Chain", Chain(m), []int{2, 3, 4})
		is(t, "steps", finish(m, 0), 3)
		same(t, "Chain", Chain(m), []int{1, 2, 3, 4})
		is(t, "Free", m.Mem().Words()[plan.Free], points(1, 4))
		is(t, "Fault", m.Fault(), false)
	}
}

// Promise 17.2: the list was emptied and filled meanwhile; nothing at all is the same as when Free was read to point to nothing.
func TestEmptyAgain(t *testing.T) {
	m := made(t, api.Mound, 2, 2, true)
	alone(m, 0, Alloc, 0)
	alone(m, 1, Alloc, 0)
	m.Mem().Watch(true)
	begin(m, 0, Release, 1)
	step(m, 0)
	step(m, 0) // Free pointed to nothing
	alone(m, 1, Release, 2)
	alone(m, 1, Alloc, 0)
	is(t, "Free", m.Mem().Words()[plan.Free], points(0, 4))
	bit(t, m, 0, cas(plan.Free, false), m.Mem().Words())
	finish(m, 0)
	same(t, "Chain", Chain(m), []int{1})
	is(t, "Fault", m.Fault(), false)
}

// Promise 17.1: w's next word has its next version, 0 behind the last one, and no mark.
func TestWordsThatWereLaid(t *testing.T) {
	const last = 1<<47 - 1
	for _, x := range []struct {
		free        uint64
		first, next int
		want        uint64
	}{
		{points(1, 41), 1, 2, points(2, 42)},
		{points(2, last), 2, 3, points(3, 0)},
		{points(3, last-1), 3, 0, points(0, last)},
		{points(2, 7) + 1, 2, 3, points(3, 8)},
	} {
		m := made(t, api.Mound, 1, 3, true)
		m.Store(plan.Free, x.free)
		alone(m, 0, Alloc, 0)
		told(t, m, 0, uint64(x.first))
		is(t, "Free", m.Load(plan.Free), x.want)
	}
	for _, x := range []struct{ free, want, link uint64 }{
		{points(2, 41), points(1, 42), 2},
		{points(2, last), points(1, 0), 2},
		{points(3, 6) + 1, points(1, 7), 3},
		{points(0, 9), points(1, 10), 0},
		{1, points(1, 1), 0},
	} {
		m := made(t, api.Mound, 1, 3, false)
		m.Store(plan.Free, x.free)
		alone(m, 0, Release, 1)
		told(t, m, 0, 1)
		is(t, "Free", m.Load(plan.Free), x.want)
		is(t, "the link", m.Load(m.Plan().Link(1)), x.link)
	}
	for _, free := range []uint64{0, 1, points(0, 5), points(0, 5) + 1, points(0, last)} {
		m := made(t, api.Mound, 1, 3, true)
		m.Store(plan.Free, free)
		is(t, "steps of nothing", alone(m, 0, Alloc, 0), 1)
		told(t, m, 0, 0)
		is(t, "Free", m.Load(plan.Free), free)
	}
}

// Promise 17.1: the ghosts hear of a node that is put back though it isn't retired; the list is as without them.
func TestReleaseAtFault(t *testing.T) {
	m := made(t, api.Mound, 1, 3, true)
	alone(m, 0, Alloc, 0)
	m.Thread(0).Push(Release, 1)
	step(m, 0)
	step(m, 0)
	is(t, "Fault ahead of the Cas", m.Fault(), false)
	step(m, 0)
	is(t, "the fault", m.Ghost().First(), ghost.Fault{Kind: ghost.Again, Node: 1})
	same(t, "Chain", Chain(m), []int{1, 2, 3})
	alone(m, 0, Alloc, 0)
	told(t, m, 0, 1)
	n := made(t, api.Mound, 1, 3, true)
	n.Took(1) // somebody has it, who didn't take it from the list
	alone(n, 0, Alloc, 0)
	is(t, "the fault", n.Ghost().First(), ghost.Fault{Kind: ghost.Twice, Node: 1})
	told(t, n, 0, 1)
}

// Promise 17.1: no word of a node is read or written; a link isn't one of these.
func TestTouchesNothing(t *testing.T) {
	each(t, func(t *testing.T, algo int, ghosts bool) {
		m := made(t, algo, 1, 3, ghosts)
		m.Mem().Watch(true)
		for range 4 {
			alone(m, 0, Alloc, 0)
		}
		for k := range 3 {
			alone(m, 0, Release, sentinels(algo)+1+k)
		}
		for _, x := range m.Mem().Log() {
			in, _, _ := m.Plan().Where(x.A)
			is(t, "where a step is", slices.Contains([]int{plan.InGlobals, plan.InLinks}, in), true)
		}
		is(t, "Fault", m.Fault(), false)
	})
}
