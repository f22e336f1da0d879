package core

import (
	"fmt"
	"math"
	"reflect"
	"slices"
	"testing"

	"jostle/api"
	"jostle/ghost"
	"jostle/plan"
)

// is holds what was told against what should be. It ends the test, since what is wrong at all is mostly wrong of many machines.
func is[T comparable](t *testing.T, name string, got, want T) {
	t.Helper()
	if got != want {
		t.Fatalf("%s: %v, not %v", name, got, want)
	}
}

// same holds a list that was told against the one that should be; a nil one is as an empty one.
func same[T comparable](t *testing.T, name string, got, want []T) {
	t.Helper()
	if !slices.Equal(got, want) {
		t.Fatalf("%s: %v, not %v", name, got, want)
	}
}

// chance is numbers that look like chance, and are the same each time.
type chance uint64

// next is the next one, below n.
func (c *chance) next(n int) int {
	*c = *c*6364136223846793005 + 1442695040888963407
	return int(uint64(*c)>>33) % n
}

// far is numbers at the edges of an int and of what an int may be cut down to: none is a number of anything here.
func far() []int {
	return []int{math.MinInt, math.MinInt + 1, math.MinInt32 - 1, math.MinInt32, -1 << 16, -64, -2, -1,
		1 << 16, 1<<16 + 1, math.MaxInt32, math.MaxInt32 + 1, 1 << 32, 1<<32 + 1, math.MaxInt - 1, math.MaxInt}
}

// of is a configuration, 1 of all that plays no part in a machine.
func of(algo, threads, nodes, level int) api.Conf {
	return api.Conf{Algo: algo, Threads: threads, Nodes: nodes, Level: level, Batch: 1, Probes: 1, Scan: 1}
}

// made is a machine of a configuration that may be.
func made(t *testing.T, c api.Conf, ghosts bool) *Machine {
	t.Helper()
	m, e := New(c, nil, ghosts)
	if e != api.OK || m == nil {
		t.Fatalf("New of %v: %v, error %d", c, m, e)
	}
	return m
}

// shape is where things lie in a machine's memory, reckoned by layer 6's words alone.
type shape struct {
	sentinels, links, nodes, width, size int
}

// shapeOf is the shape of a configuration.
func shapeOf(c api.Conf) shape {
	s, slots, tree := shape{width: 3}, 2, 1
	for range c.Level {
		tree *= 2
	}
	if c.Algo != 0 {
		s.sentinels, s.width, slots, tree = 2, 5+c.Level, 2*c.Level+2, 0
	}
	s.links = 8 + c.Threads*slots
	s.nodes = s.links + c.Nodes
	s.size = s.nodes + c.Nodes*s.width + tree
	return s
}

// owner is the node of which a word lies at an address; 0 of none.
func owner(c api.Conf, a int) int {
	s := shapeOf(c)
	for node := 1; node <= c.Nodes; node++ {
		for field := range s.width {
			if a == s.nodes+(node-1)*s.width+field {
				return node
			}
		}
	}
	return 0
}

// atFirst is the words of a machine as at first, by the chapter's words.
func atFirst(c api.Conf) []uint64 {
	s := shapeOf(c)
	l := make([]uint64, s.size)
	l[0] = uint64(s.sentinels+1) * 2 // a word's mark is its lowest bit
	l[2] = 1
	for node := s.sentinels + 1; node < c.Nodes; node++ {
		l[s.links+node-1] = uint64(node + 1)
	}
	if s.sentinels == 0 {
		return l
	}
	l[s.nodes+3] = uint64(c.Level)
	for row := range c.Level {
		l[s.nodes+5+row] = 4
	}
	l[s.nodes+s.width] = 0xffff_ffff_ffff_ffff
	return l
}

// The chapter's example.
func TestExample(t *testing.T) {
	m := made(t, of(api.Mound, 1, 2, 1), true)
	p, w := m.Plan(), m.Mem().Words()
	is(t, "Free", w[plan.Free], 2)
	is(t, "the link of 1", w[p.Link(1)], 2)
	is(t, "the link of 2", w[p.Link(2)], 0)
}

// Promise 16.1: all words at first, written out.
func TestFirstWordsByHand(t *testing.T) {
	const last = math.MaxUint64
	for _, row := range []struct {
		c    api.Conf
		want []uint64
	}{
		{of(api.Mound, 1, 2, 1), []uint64{2, 0, 1, 0, 0, 0, 0, 0 /* slots */, 0, 0 /* links */, 2, 0 /* nodes */, 0, 0, 0, 0, 0, 0 /* tree */, 0, 0}},
		{of(api.Mound, 2, 1, 1), []uint64{2, 0, 1, 0, 0, 0, 0, 0 /* slots */, 0, 0, 0, 0 /* links */, 0 /* nodes */, 0, 0, 0 /* tree */, 0, 0}},
		{of(api.Mound, 1, 3, 2), []uint64{2, 0, 1, 0, 0, 0, 0, 0 /* slots */, 0, 0 /* links */, 2, 3, 0 /* nodes */, 0, 0, 0, 0, 0, 0, 0, 0, 0 /* tree */, 0, 0, 0, 0}},
		{of(api.Sundell, 1, 4, 2), []uint64{6, 0, 1, 0, 0, 0, 0, 0 /* slots */, 0, 0, 0, 0, 0, 0 /* links */, 0, 0, 4, 0, /* nodes */
			0, 0, 0, 2, 0, 4, 4, last, 0, 0, 0, 0, 0, 0, 0, 0, 0, 0, 0, 0, 0, 0, 0, 0, 0, 0, 0, 0}},
		{of(api.Sundell, 1, 3, 1), []uint64{6, 0, 1, 0, 0, 0, 0, 0 /* slots */, 0, 0, 0, 0 /* links */, 0, 0, 0, /* nodes */
			0, 0, 0, 1, 0, 4, last, 0, 0, 0, 0, 0, 0, 0, 0, 0, 0, 0}},
		{of(api.Linden, 2, 5, 1), []uint64{6, 0, 1, 0, 0, 0, 0, 0 /* slots */, 0, 0, 0, 0, 0, 0, 0, 0 /* links */, 0, 0, 4, 5, 0, /* nodes */
			0, 0, 0, 1, 0, 4, last, 0, 0, 0, 0, 0, 0, 0, 0, 0, 0, 0, 0, 0, 0, 0, 0, 0, 0, 0, 0, 0, 0, 0}},
	} {
		for _, ghosts := range []bool{false, true} {
			same(t, fmt.Sprint("the words of ", row.c, ghosts), made(t, row.c, ghosts).Mem().Words(), row.want)
			same(t, "by the test's own reckoning", atFirst(row.c), row.want)
		}
	}
}

// each goes through configurations of all algorithms, of few of all and of many.
func each(do func(c api.Conf)) {
	for algo := api.Mound; algo <= api.Linden; algo++ {
		for threads := 1; threads <= api.MaxThreads; threads++ {
			for level := 1; level <= api.MaxLevel; level++ {
				for _, nodes := range []int{1, 2, 3, 4, 5, 17, 63, 64} {
					if c := of(algo, threads, nodes, level); nodes > shapeOf(c).sentinels {
						do(c)
					}
				}
			}
		}
	}
}

// Promise 16.1: a machine as at first, of all kinds: its plan, its words, its ghosts and its feed.
func TestFirst(t *testing.T) {
	each(func(c api.Conf) {
		for _, ghosts := range []bool{false, true} {
			name := fmt.Sprint("of ", c, ghosts)
			m := made(t, c, ghosts)
			p, e := plan.New(c)
			is(t, name+": the plan's error", e, api.OK)
			is(t, name+": the plan", m.Plan(), p)
			is(t, name+": how many words", m.Mem().Len(), p.Size())
			same(t, name+": the words", m.Mem().Words(), atFirst(c))
			is(t, name+": is something logged", len(m.Mem().Log()), 0)
			is(t, name+": at fault", m.Fault(), false)
			is(t, name+": draws used", m.Feed().Used(), 0)
			is(t, name+": are there ghosts", m.Ghost() != nil, ghosts)
			if ghosts {
				firstTags(t, name, m.Ghost(), c.Nodes, shapeOf(c).sentinels)
			}
		}
	})
}

// firstTags holds a machine's ghosts against what they are at first.
func firstTags(t *testing.T, name string, g *ghost.Ghost, nodes, live int) {
	t.Helper()
	for node := 1; node <= nodes; node++ {
		want := ghost.Free
		if node <= live {
			want = ghost.Live
		}
		is(t, fmt.Sprint(name, ": the tag of ", node), g.Tag(node), want)
	}
	is(t, name+": how many are live", g.Count(ghost.Live), live)
	is(t, name+": how many are free", g.Count(ghost.Free), nodes-live)
	is(t, name+": how many are retired", g.Count(ghost.Retired), 0)
	is(t, name+": the first fault", g.First(), ghost.Fault{})
}

// Promise 16.1: Batch, Probes and Scan are in the plan, and nowhere else.
func TestFirstOfAllElse(t *testing.T) {
	for algo := api.Mound; algo <= api.Linden; algo++ {
		small, great := of(algo, 2, 5, 3), of(algo, 2, 5, 3)
		great.Batch, great.Probes, great.Scan = api.MaxBatch, api.MaxProbes, api.MaxScan
		a, b := made(t, small, true), made(t, great, true)
		same(t, "words", a.Mem().Words(), b.Mem().Words())
		is(t, "Conf", b.Plan().Conf(), great)
	}
}

// Promise 16.1: threads as at first, as many as the configuration says, and no other ones.
func TestFirstThreads(t *testing.T) {
	each(func(c api.Conf) {
		m := made(t, c, c.Nodes%2 == 0)
		for i := range c.Threads {
			name := fmt.Sprint("thread ", i, " of ", c)
			th := m.Thread(i)
			if th == nil {
				t.Fatalf("%s: nil", name)
			}
			is(t, name+": ID", th.ID, i)
			is(t, name+": frames", len(th.Frames), 0)
			is(t, name+": Top is there", th.Top() != nil, false)
			is(t, name+": Ret", th.Ret, [3]uint64{})
			for _, l := range [][]uint64{th.Pred, th.Succ, th.Word} {
				same(t, name+": a list", l, make([]uint64, c.Level))
			}
			is(t, name+": Retired", th.Retired.Len(), 0)
			is(t, name+": Found", len(th.Found), 0)
			is(t, name+" is told again", m.Thread(i), th)
		}
		for _, i := range append(far(), c.Threads, c.Threads+1, 64) {
			if th := m.Thread(i); th != nil {
				t.Fatalf("thread %d of %v: %v, not nil", i, c, *th)
			}
		}
	})
}

// Promise 16.1: each thread's lists are its own: what is written to one, or put behind it, is in no other one.
func TestThreadsListsShareNothing(t *testing.T) {
	for level := 1; level <= api.MaxLevel; level++ {
		c := of(api.Sundell, api.MaxThreads, 9, level)
		m, other := made(t, c, true), made(t, c, true)
		mark := uint64(0)
		for i := range c.Threads {
			th := m.Thread(i)
			for _, l := range []*[]uint64{&th.Pred, &th.Succ, &th.Word} {
				for at := range *l {
					mark++
					(*l)[at] = mark
				}
				*l = append(*l, 1000, 1001, 1002)
			}
			th.Retired.Push(i + 7)
			th.Found = append(th.Found, i+8)
			th.Push(i + 9)
		}
		mark = 0
		for i := range c.Threads {
			th := m.Thread(i)
			for _, l := range [][]uint64{th.Pred, th.Succ, th.Word} {
				for at := range level {
					mark++
					is(t, fmt.Sprint("thread ", i, " of level ", level, " at ", at), l[at], mark)
				}
			}
			same(t, "Retired", th.Retired.List(), []int{i + 7})
			same(t, "Found", th.Found, []int{i + 8})
			is(t, "Fn", th.Top().Fn, i+9)
			fresh := Thread{ID: i, Pred: make([]uint64, level), Succ: make([]uint64, level), Word: make([]uint64, level)}
			if !reflect.DeepEqual(*other.Thread(i), fresh) {
				t.Fatalf("thread %d of another machine: %v", i, *other.Thread(i))
			}
		}
	}
}

// Promise 16.1: the error is layer 6's, whatever the draws and ghosts are, and there is no machine beside it.
func TestNewErrors(t *testing.T) {
	right := of(api.Sundell, 2, 5, 3)
	limits := []struct {
		name        string
		field       func(c *api.Conf) *int
		least, most int
	}{
		{"Algo", func(c *api.Conf) *int { return &c.Algo }, 0, 2},
		{"Threads", func(c *api.Conf) *int { return &c.Threads }, 1, 6},
		{"Nodes", func(c *api.Conf) *int { return &c.Nodes }, 3, 64},
		{"Level", func(c *api.Conf) *int { return &c.Level }, 1, 6},
		{"Batch", func(c *api.Conf) *int { return &c.Batch }, 1, 16},
		{"Probes", func(c *api.Conf) *int { return &c.Probes }, 1, 16},
		{"Scan", func(c *api.Conf) *int { return &c.Scan }, 1, 64},
	}
	for _, l := range limits {
		for _, n := range append(far(), 0, 1, 2, 3, 5, 6, 7, 15, 16, 17, 63, 64, 65) {
			c := right
			*l.field(&c) = n
			want := api.OK
			if n < l.least || n > l.most {
				want = api.ErrConfig
			}
			for _, ghosts := range []bool{false, true} {
				for _, draws := range [][]byte{nil, {}, {1, 2}} {
					m, e := New(c, draws, ghosts)
					is(t, fmt.Sprint(l.name, " ", n), e, want)
					is(t, fmt.Sprint(l.name, " ", n, ": is there a machine"), m != nil, want == api.OK)
				}
			}
		}
	}
}

// Promise 16.1: nodes must be more than the sentinels, which a mound has none of.
func TestNewOfFewNodes(t *testing.T) {
	for algo, least := range []int{1, 3, 3} {
		for nodes := -1; nodes < 6; nodes++ {
			m, e := New(of(algo, 1, nodes, 1), nil, true)
			want := api.OK
			if nodes < least {
				want = api.ErrConfig
			}
			is(t, fmt.Sprint(nodes, " nodes of ", algo), e, want)
			is(t, fmt.Sprint(nodes, " nodes of ", algo, ": is there a machine"), m != nil, want == api.OK)
		}
	}
	m, e := New(api.Conf{}, nil, true)
	is(t, "of nothing", e, api.ErrConfig)
	is(t, "of nothing: is there a machine", m != nil, false)
}

// Promise 16.1: the feed tells the draws that were handed in, whatever becomes of their list, and leaves that as it is.
func TestFeed(t *testing.T) {
	draws := []byte{7, 200, 31, 0, 255}
	list := append(draws[:3:5], 9, 8) // shares what is ahead
	copied := slices.Clone(list)
	m, e := New(of(api.Linden, 2, 4, 6), list, false)
	is(t, "the error", e, api.OK)
	same(t, "the list behind New", list, copied)
	clear(draws)
	clear(list)
	is(t, "Level(6)", m.Feed().Level(6), 4)
	is(t, "Next(256)", m.Feed().Next(256), 200)
	is(t, "Level(6) again", m.Feed().Level(6), 6)
	is(t, "Next(256) again", m.Feed().Next(256), 9)
	is(t, "the fifth", m.Feed().Next(256), 8)
	is(t, "behind all", m.Feed().Next(256), 0)
	is(t, "Used", m.Feed().Used(), 6)
	same(t, "the list", list, make([]byte, 5))
}

// Promise 16.1: a feed of no draws and of very many.
func TestFeedEdges(t *testing.T) {
	many := make([]byte, 1<<20)
	many[len(many)-1] = 77
	for _, draws := range [][]byte{nil, {}, many} {
		m, e := New(of(api.Mound, 1, 1, 1), draws, true)
		is(t, "the error", e, api.OK)
		for range len(draws) - 1 {
			m.Feed().Next(100)
		}
		want := 0
		if len(draws) > 0 {
			want = 77
		}
		is(t, fmt.Sprint("the last of ", len(draws)), m.Feed().Next(100), want)
	}
}

// Promise 16.1: what a machine tells of itself is its own each time, and no other machine's.
func TestOwnParts(t *testing.T) {
	c := of(api.Sundell, 2, 5, 2)
	a, b := made(t, c, true), made(t, c, true)
	is(t, "Mem", a.Mem(), a.Mem())
	is(t, "Ghost", a.Ghost(), a.Ghost())
	is(t, "Feed", a.Feed(), a.Feed())
	a.Store(5, 99)
	a.Load(-1)
	a.Took(3)
	a.Gone(3)
	a.Feed().Next(3)
	is(t, "the other's tag", b.Ghost().Tag(3), ghost.Free)
	is(t, "the other's draws", b.Feed().Used(), 0)
	is(t, "the other's fault", b.Fault(), false)
	same(t, "the other's words", b.Mem().Words(), atFirst(c))
	is(t, "its own tag", a.Ghost().Tag(3), ghost.Retired)
	is(t, "its own word", a.Mem().Words()[5], 99)
	// A list that is told is a new one.
	clear(a.Mem().Words())
	is(t, "its own word, still", a.Mem().Words()[5], 99)
}

// Promise 16.2: of a nil machine nothing is told, and nothing happens. P1: nothing panics.
func TestNilMachine(t *testing.T) {
	var m *Machine
	is(t, "Plan", m.Plan(), plan.Plan{})
	is(t, "Mem", m.Mem() != nil, false)
	is(t, "Ghost", m.Ghost() != nil, false)
	is(t, "Feed", m.Feed() != nil, false)
	called := 0
	for _, i := range append(far(), 0, 1, 5, 6) {
		is(t, "Thread", m.Thread(i) != nil, false)
		is(t, "Load", m.Load(i), 0)
		m.Store(i, 1)
		is(t, "Cas", m.Cas(i, 0, 0), false)
		is(t, "Add", m.Add(i, 1), 0)
		m.Took(i)
		m.Gone(i)
		m.Freed(i)
		for _, b := range append(far(), 0, 1) {
			is(t, "Dcas", m.Dcas(i, 0, 0, b, 0, 0), false)
			is(t, "Dcss", m.Dcss(i, 0, 0, b, 0), false)
		}
		is(t, "Step", m.Step(i, func(*Machine, *Thread) { called++ }), false)
		is(t, "Step of no routine", m.Step(i, nil), false)
		is(t, "Fault", m.Fault(), false)
	}
	is(t, "how often the routine was called", called, 0)
}
