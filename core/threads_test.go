package core

import (
	"fmt"
	"math"
	"slices"
	"testing"

	"jostle/api"
	"jostle/mem"
)

// regs is numbers from a first one on.
func regs(first uint64, n int) []uint64 {
	var l []uint64
	for i := range n {
		l = append(l, first+uint64(i))
	}
	return l
}

// Promise 16.3: Push of any number of registers: the first ten stay, the others are 0.
func TestPushRegisters(t *testing.T) {
	for n := range 40 {
		th := made(t, of(api.Mound, 1, 1, 1), true).Thread(0)
		l := regs(5, n)
		th.Push(3, l...)
		want := Frame{Fn: 3}
		for at := range min(n, 10) {
			want.R[at] = uint64(5 + at)
		}
		is(t, fmt.Sprint("Top behind Push of ", n), *th.Top(), want)
		is(t, "how many frames", len(th.Frames), 1)
		same(t, "the list that was handed in", l, regs(5, n))
		for at := range l {
			l[at] = 99
		}
		is(t, fmt.Sprint("Top, behind a change of the list of ", n), *th.Top(), want)
		th.Top().R[0] = 77
		if n > 0 {
			is(t, "the list, behind a change of the frame", l[0], 99)
		}
	}
	th := made(t, of(api.Mound, 1, 1, 1), true).Thread(0)
	th.Push(1, make([]uint64, 1<<20)...)
	is(t, "of very many", *th.Top(), Frame{Fn: 1})
}

// Promise 16.3: a frame's number is any one, and its PC begins at 0, also where another frame was.
func TestPushNumbers(t *testing.T) {
	th := made(t, of(api.Mound, 1, 1, 1), true).Thread(0)
	for _, fn := range append(far(), 0, 1, 2, 13) {
		th.Push(fn, math.MaxUint64)
		is(t, "Top", *th.Top(), Frame{Fn: fn, R: [10]uint64{math.MaxUint64}})
		th.Top().PC = 9
		th.Top().R = [10]uint64{1, 2, 3, 4, 5, 6, 7, 8, 9, 10}
		th.Pop()
		th.Push(7)
		is(t, "Top, where another one was", *th.Top(), Frame{Fn: 7})
		th.Pop()
	}
}

// Promise 16.3: Pop of any number of numbers: the first three are Ret, the others of Ret are 0.
func TestPopNumbers(t *testing.T) {
	for n := range 12 {
		th := made(t, of(api.Mound, 1, 1, 1), true).Thread(0)
		th.Push(1)
		th.Push(2)
		th.Ret = [3]uint64{91, 92, 93}
		l := regs(5, n)
		th.Pop(l...)
		var want [3]uint64
		for at := range min(n, 3) {
			want[at] = uint64(5 + at)
		}
		is(t, fmt.Sprint("Ret behind Pop of ", n), th.Ret, want)
		is(t, "Top", *th.Top(), Frame{Fn: 1})
		same(t, "the list that was handed in", l, regs(5, n))
		for at := range l {
			l[at] = 99
		}
		is(t, fmt.Sprint("Ret, behind a change of the list of ", n), th.Ret, want)
		th.Ret[0] = 77
		if n > 0 {
			is(t, "the list, behind a change of Ret", l[0], 99)
		}
	}
}

// Promise 16.3: what one routine told, or kept in registers, is told on as it is.
func TestToldOn(t *testing.T) {
	th := made(t, of(api.Mound, 1, 1, 1), true).Thread(0)
	for fn := range 6 {
		th.Push(fn, 11, 12, 13, 14)
	}
	th.Pop(1, 2, 3)
	th.Pop(th.Ret[:]...)
	is(t, "Ret, of Ret", th.Ret, [3]uint64{1, 2, 3})
	th.Pop(th.Ret[1:]...)
	is(t, "Ret, of two of Ret", th.Ret, [3]uint64{2, 3, 0})
	th.Pop(th.Top().R[:]...)
	is(t, "Ret, of registers", th.Ret, [3]uint64{11, 12, 13})
	th.Push(9, th.Top().R[1:]...)
	is(t, "Top, of registers", *th.Top(), Frame{Fn: 9, R: [10]uint64{12, 13, 14}})
	th.Push(8, th.Ret[:]...)
	is(t, "Top, of Ret", *th.Top(), Frame{Fn: 8, R: [10]uint64{11, 12, 13}})
}

// Promise 16.3: without a frame there is no Top, and Pop takes nothing and tells nothing.
func TestNoFrame(t *testing.T) {
	th := made(t, of(api.Mound, 1, 1, 1), true).Thread(0)
	for range 3 {
		th.Pop(4, 5, 6)
		is(t, "is there a Top", th.Top() != nil, false)
		is(t, "frames", len(th.Frames), 0)
		is(t, "Ret", th.Ret, [3]uint64{})
	}
	th.Push(1)
	th.Pop(7)
	for range 3 {
		th.Pop(4, 5, 6)
		th.Pop()
		is(t, "is there a Top, behind the last one", th.Top() != nil, false)
		is(t, "what the last one told", th.Ret, [3]uint64{7})
	}
	th.Push(2)
	is(t, "Top", th.Top().Fn, 2)
}

// Promise 16.3: of a nil thread nothing. P1: nothing panics.
func TestNilThread(t *testing.T) {
	var th *Thread
	th.Push(1)
	th.Push(1, 2, 3)
	th.Pop()
	th.Pop(1, 2, 3, 4)
	is(t, "is there a Top", th.Top() != nil, false)
	none := made(t, of(api.Mound, 1, 1, 1), true).Thread(1)
	none.Push(1)
	none.Pop(1)
	is(t, "is there a Top of none", none.Top() != nil, false)
}

// Promise 16.3: Top is the frame itself: what is changed there stays.
func TestTopIsTheFrame(t *testing.T) {
	th := made(t, of(api.Mound, 1, 1, 1), true).Thread(0)
	th.Push(1, 10)
	th.Top().PC = 5
	th.Top().R[9] = 8
	th.Top().Fn = 4
	th.Push(2)
	th.Top().PC = 6
	th.Pop()
	is(t, "Top", *th.Top(), Frame{Fn: 4, PC: 5, R: [10]uint64{0: 10, 9: 8}})
	is(t, "it is the last of Frames", th.Top(), &th.Frames[0])
}

// Promise 16.3: as deep as there were Push, Pop takes them off, the last one first.
func TestDeep(t *testing.T) {
	th := made(t, of(api.Mound, 1, 1, 1), true).Thread(0)
	const deep = 100_000
	for i := range deep {
		th.Push(i, uint64(i), uint64(i)+1)
		th.Top().PC = -i
	}
	is(t, "how many", len(th.Frames), deep)
	for i := deep - 1; i >= 0; i-- {
		if want := (Frame{i, -i, [10]uint64{uint64(i), uint64(i) + 1}}); *th.Top() != want {
			t.Fatalf("frame %d: %v", i, *th.Top())
		}
		th.Pop(uint64(i))
		if th.Ret != [3]uint64{uint64(i)} {
			t.Fatalf("frame %d: Ret %v", i, th.Ret)
		}
	}
	is(t, "is there a Top", th.Top() != nil, false)
	th.Pop(1)
	is(t, "Ret", th.Ret, [3]uint64{0})
}

// Promise 16.3: long rows of Push, Pop and changes by chance, on several threads, are as those of lists that are made anew each time.
func TestRowsOfFrames(t *testing.T) {
	draws := chance(3)
	m := made(t, of(api.Linden, 3, 4, 2), false)
	frames, rets := [3][]Frame{}, [3][3]uint64{}
	for range 5000 {
		i := draws.next(3)
		th := m.Thread(i)
		switch draws.next(5) {
		case 0, 1:
			f := Frame{Fn: draws.next(99)}
			l := regs(uint64(draws.next(99)), draws.next(14))
			for at, r := range l {
				if at < len(f.R) {
					f.R[at] = r
				}
			}
			frames[i] = append(slices.Clone(frames[i]), f)
			th.Push(f.Fn, l...)
		case 2, 3:
			l := regs(uint64(draws.next(99)), draws.next(5))
			if n := len(frames[i]); n > 0 {
				frames[i] = slices.Clone(frames[i][:n-1])
				rets[i] = [3]uint64(append(slices.Clone(l), 0, 0, 0)[:3])
			}
			th.Pop(l...)
		default:
			if n := len(frames[i]); n > 0 {
				frames[i][n-1].PC++
				frames[i][n-1].R[draws.next(10)]++
				*th.Top() = frames[i][n-1]
			}
		}
		for i := range 3 {
			same(t, "frames", m.Thread(i).Frames, frames[i])
			is(t, "Ret", m.Thread(i).Ret, rets[i])
		}
	}
}

// program is a routine whose calls, one behind the other, are these; the list it goes through is of its own.
func program(calls ...Routine) (Routine, *int) {
	at := 0
	return func(m *Machine, t *Thread) {
		at++
		calls[at-1](m, t)
	}, &at
}

// Pieces of routines.
func idle(*Machine, *Thread)      {}
func load(m *Machine, _ *Thread)  { m.Load(3) }
func wrong(m *Machine, _ *Thread) { m.Load(-1) }
func pop(_ *Machine, t *Thread)   { t.Pop() }
func push(_ *Machine, t *Thread)  { t.Push(1) }

// both is two pieces in one call.
func both(a, b Routine) Routine {
	return func(m *Machine, t *Thread) {
		a(m, t)
		b(m, t)
	}
}

// Promise 16.3: Step calls the routine till a step was done, or no frame is left, and not once more.
func TestStep(t *testing.T) {
	aside := func(m *Machine, _ *Thread) { m.Thread(1).Push(8); m.Thread(1).Push(8) }
	for _, row := range []struct {
		name   string
		frames int
		calls  []Routine
		called int // how many of the calls
		steps  int // how many steps were counted
		left   int // how many frames
	}{
		{"a step at once", 1, []Routine{load, load}, 1, 1, 1},
		{"a step behind calls without one", 1, []Routine{idle, idle, idle, load, load}, 4, 1, 1},
		{"several steps in one call", 1, []Routine{both(load, both(load, load)), load}, 1, 3, 1},
		{"a step, and the last frame goes", 1, []Routine{both(load, pop), load}, 1, 1, 0},
		{"the last frame goes, and a step", 1, []Routine{both(pop, load), load}, 1, 1, 0},
		{"a step, and a frame goes, one is left", 2, []Routine{both(load, pop), load}, 1, 1, 1},
		{"no step, and the last frame goes", 1, []Routine{idle, pop, load}, 2, 0, 0},
		{"no step, and all frames go", 3, []Routine{pop, pop, idle, pop, load}, 4, 0, 0},
		{"no step, and all frames go at once", 3, []Routine{both(pop, both(pop, pop)), load}, 1, 0, 0},
		{"more Pop than frames", 1, []Routine{both(pop, both(pop, pop)), load}, 1, 0, 0},
		{"a frame more, and a step", 1, []Routine{push, load, load}, 2, 1, 2},
		{"frames more, and all go", 1, []Routine{push, push, pop, both(push, pop), pop, pop, load}, 6, 0, 0},
		{"a frame for another one", 1, []Routine{both(pop, push), load, load}, 2, 1, 1},
		{"no frame", 0, []Routine{load}, 0, 0, 0},
		{"a wrong step is none", 1, []Routine{wrong, wrong, load, load}, 3, 1, 1},
		{"wrong steps, and the last frame goes", 1, []Routine{wrong, both(wrong, pop), load}, 2, 0, 0},
		{"a wrong one and a right one", 1, []Routine{both(wrong, load), load}, 1, 1, 1},
		{"a right one and a wrong one", 1, []Routine{both(load, wrong), load}, 1, 1, 1},
		{"a missed Cas is a step", 1, []Routine{func(m *Machine, _ *Thread) { m.Cas(3, 7, 8) }, load}, 1, 1, 1},
		{"a missed Dcas is a step", 1, []Routine{func(m *Machine, _ *Thread) { m.Dcas(3, 7, 8, 4, 0, 0) }, load}, 1, 1, 1},
		{"a missed Dcss is a step", 1, []Routine{func(m *Machine, _ *Thread) { m.Dcss(3, 7, 8, 4, 0) }, load}, 1, 1, 1},
		{"a Store that changes nothing is a step", 1, []Routine{func(m *Machine, _ *Thread) { m.Store(3, 0) }, load}, 1, 1, 1},
		{"an Add is a step", 1, []Routine{func(m *Machine, _ *Thread) { m.Add(3, 0) }, load}, 1, 1, 1},
		{"a Dcas is a step", 1, []Routine{func(m *Machine, _ *Thread) { m.Dcas(3, 0, 8, 4, 0, 8) }, load}, 1, 1, 1},
		{"a Dcss is a step", 1, []Routine{func(m *Machine, _ *Thread) { m.Dcss(3, 0, 8, 4, 0) }, load}, 1, 1, 1},
		{"a Dcas of one word twice is none", 1, []Routine{func(m *Machine, _ *Thread) { m.Dcas(3, 0, 8, 3, 0, 8) }, load, load}, 2, 1, 1},
		{"a draw is no step", 1, []Routine{func(m *Machine, _ *Thread) { m.Feed().Next(5) }, load, load}, 2, 1, 1},
		{"what the ghosts are told is no step", 1, []Routine{func(m *Machine, _ *Thread) { m.Took(1); m.Gone(1); m.Freed(1) }, load, load}, 2, 1, 1},
		{"frames of another thread are none of this one's", 1, []Routine{aside, pop, load}, 2, 0, 0},
	} {
		for _, ghosts := range []bool{false, true} {
			m := made(t, of(api.Mound, 2, 2, 1), ghosts)
			th := m.Thread(0)
			for range row.frames {
				th.Push(1)
			}
			r, called := program(row.calls...)
			before := m.Mem().Steps()
			is(t, row.name+": told", m.Step(0, r), row.left > 0)
			is(t, row.name+": calls", *called, row.called)
			is(t, row.name+": steps", m.Mem().Steps()-before, row.steps)
			is(t, row.name+": frames", len(th.Frames), row.left)
		}
	}
}

// Promise 16.3: the routine is called with the machine and the thread.
func TestStepHandsOn(t *testing.T) {
	m := made(t, of(api.Sundell, 3, 4, 1), true)
	for i := range 3 {
		m.Thread(i).Push(i)
		called := 0
		is(t, "Step", m.Step(i, func(own *Machine, th *Thread) {
			called++
			is(t, "the machine", own, m)
			is(t, "the thread", th, m.Thread(i))
			own.Load(0)
		}), true)
		is(t, "calls", called, 1)
	}
}

// Promise 16.3: false of no thread, and the routine isn't called.
func TestStepOfNoThread(t *testing.T) {
	m := made(t, of(api.Mound, 2, 2, 1), true)
	m.Thread(0).Push(1)
	m.Thread(1).Push(1)
	for _, i := range append(far(), 2, 3, 6, 64) {
		r, called := program(load)
		is(t, fmt.Sprint("Step of ", i), m.Step(i, r), false)
		is(t, fmt.Sprint("calls of ", i), *called, 0)
	}
	is(t, "frames", len(m.Thread(0).Frames)+len(m.Thread(1).Frames), 2)
}

// Promise 16.3, P1: no routine can be called; what is told is whether a frame is left.
func TestStepOfNoRoutine(t *testing.T) {
	m := made(t, of(api.Mound, 2, 2, 1), true)
	m.Thread(0).Push(1)
	is(t, "with a frame", m.Step(0, nil), true)
	is(t, "without a frame", m.Step(1, nil), false)
	is(t, "frames", len(m.Thread(0).Frames), 1)
	same(t, "words", m.Mem().Words(), atFirst(of(api.Mound, 2, 2, 1)))
}

// Routines of a little program: one that sums up words from an address on, another one that it leaves each Load to.
const (
	sum = iota
	get
)

// summing is sum and get; the numbers of sum are: the address, how many are left, what they are together.
func summing(m *Machine, t *Thread) {
	f := t.Top()
	switch {
	case f.Fn == get:
		t.Pop(m.Load(int(f.R[0])))
	case f.R[1] == 0 && f.PC == 0:
		t.Pop(f.R[2], f.R[0])
	case f.PC == 0:
		f.PC = 1
		t.Push(get, f.R[0])
	default:
		f.PC = 0
		f.R[0]++
		f.R[1]--
		f.R[2] += t.Ret[0]
	}
}

// Promise 16.3: threads take turns, each with frames of its own; a step of memory is one Step.
func TestThreadsTakeTurns(t *testing.T) {
	draws := chance(9)
	c := of(api.Mound, 3, 5, 2)
	words := atFirst(c)
	for range 200 {
		m := made(t, c, true)
		m.Mem().Watch(true)
		var first, count, done [3]int
		for i := range 3 {
			first[i], count[i] = draws.next(len(words)-9), draws.next(9)
			m.Thread(i).Push(sum, uint64(first[i]), uint64(count[i]))
		}
		var log []mem.Access
		for range 60 {
			i := draws.next(3)
			if done[i] < count[i] {
				log = append(log, mem.Access{Kind: mem.Load, A: first[i] + done[i], B: -1})
			}
			// The frame of the last one goes with the call behind its step.
			is(t, "Step", m.Step(i, summing), done[i] < count[i])
			done[i]++
			same(t, "what was logged", m.Mem().Log(), log)
		}
		for i := range 3 {
			if done[i] <= count[i] {
				continue
			}
			want := uint64(0)
			for _, w := range words[first[i] : first[i]+count[i]] {
				want += w
			}
			is(t, fmt.Sprint("what thread ", i, " told"), m.Thread(i).Ret, [3]uint64{want, uint64(first[i] + count[i])})
		}
	}
}

// Promise 16.3: a Step of one thread leaves the frames of the others as they are.
func TestOthersStay(t *testing.T) {
	m := made(t, of(api.Mound, 3, 2, 1), true)
	for i := range 3 {
		m.Thread(i).Push(i, 1, 2)
		m.Thread(i).Push(i+10, 3)
		m.Thread(i).Ret = [3]uint64{9, uint64(i)}
	}
	is(t, "Step", m.Step(1, both(pop, both(pop, load))), false)
	for _, i := range []int{0, 2} {
		same(t, "frames", m.Thread(i).Frames, []Frame{{Fn: i, R: [10]uint64{1, 2}}, {Fn: i + 10, R: [10]uint64{3}}})
		is(t, "Ret", m.Thread(i).Ret, [3]uint64{9, uint64(i)})
	}
	is(t, "Ret of the one that stepped", m.Thread(1).Ret, [3]uint64{})
}

// Promise 16.3: a routine that takes very many calls to come to its step, and one that takes very many frames off.
func TestStepOfManyCalls(t *testing.T) {
	m := made(t, of(api.Mound, 1, 1, 1), true)
	th := m.Thread(0)
	th.Push(0)
	called := 0
	is(t, "Step", m.Step(0, func(m *Machine, th *Thread) {
		if called++; called == 1_000_000 {
			m.Load(0)
		}
	}), true)
	is(t, "calls", called, 1_000_000)
	for range 100_000 {
		th.Push(1)
	}
	is(t, "Step that takes all off", m.Step(0, pop), false)
	is(t, "frames", len(th.Frames), 0)
}

// Promises 16.2, 16.3: a step within a Step that had an error is a fault, and one that touches a free node, too.
func TestStepAndFault(t *testing.T) {
	for _, row := range []struct {
		name  string
		r     Routine
		fault bool
	}{
		{"a right step", load, false},
		{"a wrong step and a right one", both(wrong, load), true},
		{"a free node's word", func(m *Machine, _ *Thread) { m.Load(12) }, true},
	} {
		m := made(t, of(api.Mound, 1, 2, 1), true)
		m.Thread(0).Push(1)
		is(t, row.name+": Step", m.Step(0, row.r), true)
		is(t, row.name+": Fault", m.Fault(), row.fault)
	}
}
