package hazard

import (
	"slices"
	"testing"

	"jostle/api"
	"jostle/arena"
	"jostle/core"
	"jostle/mem"
	"jostle/plan"
)

// change is a word that another thread writes, when so many steps of a Protect were done.
type change struct {
	done int
	w    uint64
}

// Promise 18.1: Protect of a word that another thread changes between any two of its steps.
func TestProtectOfAWordThatChanges(t *testing.T) {
	one, again, two := points(1, 1), points(1, 2), points(2, 2)
	none := points(0, 2)
	read, name := load(place), store(plan.Globals+3) // slot 1 of thread 1
	for _, x := range []struct {
		name    string
		changes []change
		want    []mem.Access
		tells   uint64
		slot    uint64
	}{
		{"ahead of all", []change{{0, two}}, []mem.Access{read, name, read}, two, 2},
		{"ahead of all, to nothing", []change{{0, none}}, []mem.Access{read}, none, 99},
		{"once, behind the first step", []change{{1, two}}, []mem.Access{read, name, read, name, read}, two, 2},
		{"once, behind the second step", []change{{2, two}}, []mem.Access{read, name, read, name, read}, two, 2},
		{"to the same node, behind the first step", []change{{1, again}}, []mem.Access{read, name, read, name, read}, again, 1},
		{"to the same node, behind the second step", []change{{2, again}}, []mem.Access{read, name, read, name, read}, again, 1},
		{"to the same node, with a mark", []change{{2, one + 1}}, []mem.Access{read, name, read, name, read}, one + 1, 1},
		{"to nothing, behind the first step", []change{{1, none}}, []mem.Access{read, name, read}, none, 1},
		{"to nothing, behind the second step", []change{{2, none}}, []mem.Access{read, name, read}, none, 1},
		{"to nothing, with a mark", []change{{2, none + 1}}, []mem.Access{read, name, read}, none + 1, 1},
		{"to 0", []change{{2, 0}}, []mem.Access{read, name, read}, 0, 1},
		{"there and back, within a step", []change{{1, two}, {1, one}}, []mem.Access{read, name, read}, one, 1},
		{"there and back, around a step", []change{{1, two}, {2, one}}, []mem.Access{read, name, read}, one, 1},
		{"there and back, by two reads", []change{{2, two}, {4, one}}, []mem.Access{read, name, read, name, read, name, read}, one, 1},
		{"again and again", []change{{1, two}, {4, again}, {5, points(3, 3)}, {8, two}},
			[]mem.Access{read, name, read, name, read, name, read, name, read, name, read}, two, 2},
		{"again and again, then to nothing", []change{{2, two}, {3, again}, {6, none}},
			[]mem.Access{read, name, read, name, read, name, read}, none, 1},
		{"when it is over", []change{{3, two}}, []mem.Access{read, name, read}, one, 1},
	} {
		for _, ghosts := range []bool{true, false} {
			t.Run(x.name, func(t *testing.T) {
				m := made(t, conf(api.Mound, 2, 3, 1), ghosts)
				m.Store(place, one)
				m.Store(plan.Globals+3, 99)
				y := m.Thread(1)
				y.Ret = [3]uint64{9, 8, 7}
				y.Push(Protect, 1, place)
				for done, access := range x.want {
					for _, c := range x.changes {
						if c.done == done {
							m.Store(place, c.w)
						}
					}
					is(t, "frames", len(y.Frames), 1)
					is(t, "what was told ahead", y.Ret, [3]uint64{9, 8, 7})
					is(t, "whether a frame is left", step(m, 1), done < len(x.want)-1)
					same(t, "the step", logged(m, 1), []mem.Access{access})
				}
				told(t, m, 1, x.tells)
				same(t, "slots", slots(m), []uint64{0, 0, 0, x.slot})
				is(t, "Fault", m.Fault(), false)
			})
		}
	}
}

// Promise 18.1: each row of words that four reads can find, changed ahead of the slot's step or behind it.
func TestProtectOfAllRowsOfWords(t *testing.T) {
	words := []uint64{points(1, 1), points(1, 2), points(1, 1) + 1, points(2, 1), points(0, 1), points(0, 2) + 1}
	var row [4]uint64
	for k := range 6 * 6 * 6 * 6 {
		for i, n := range [4]int{k % 6, k / 6 % 6, k / 36 % 6, k / 216} {
			row[i] = words[n]
		}
		for early := range 8 {
			protectsRow(t, row, early)
		}
	}
}

// protectsRow has a thread protect a word that is, whenever it is read, the next one of a row; the last one stays. Which ones are written ahead of the slot's step is told by early's bits.
func protectsRow(t *testing.T, row [4]uint64, early int) {
	m, e := core.New(conf(api.Mound, 1, 1, 1), nil, false)
	is(t, "error", e, api.OK)
	m.Store(place, row[0])
	m.Thread(0).Push(Protect, 1, place)
	reads, slot := 0, uint64(0)
	for {
		left := step(m, 0)
		w := row[min(reads, 3)]
		if w/2%65536 == 0 || reads > 0 && w == row[min(reads-1, 3)] {
			is(t, "whether a frame is left", left, false)
			told(t, m, 0, w)
			same(t, "slots", slots(m), []uint64{0, slot})
			return
		}
		is(t, "whether a frame is left", left, true)
		same(t, "slots ahead", slots(m), []uint64{0, slot})
		reads++
		if reads < 4 && early>>(reads-1)&1 == 1 {
			m.Store(place, row[reads])
		}
		is(t, "whether a frame is left", step(m, 0), true)
		slot = w / 2 % 65536
		same(t, "slots", slots(m), []uint64{0, slot})
		m.Store(place, row[min(reads, 3)])
	}
}

// ready is a machine of three threads, of which thread 0 has retired nodes 1, 2 and 3.
func ready(t *testing.T, ghosts bool) *core.Machine {
	t.Helper()
	m := made(t, conf(api.Mound, 3, 6, unseen), ghosts)
	for node := 1; node <= 3; node++ {
		alone(m, 0, Retire, uint64(node))
	}
	return m
}

// Promise 18.1: a slot that is set during a Scan has a node stay, if the slot wasn't read yet; and one that is cleared has it go.
func TestSlotsThatChangeDuringAScan(t *testing.T) {
	for _, ghosts := range []bool{true, false} {
		for slot := range 6 {
			for done := range 15 {
				for node := 1; node <= 3; node++ {
					slotChanges(t, ghosts, slot, done, 0, node)
					slotChanges(t, ghosts, slot, done, node, 0)
					slotChanges(t, ghosts, slot, done, node, node%3+1)
				}
			}
		}
	}
}

// slotChanges has thread 0 scan, and, when so many steps were done, a slot be another one.
func slotChanges(t *testing.T, ghosts bool, slot, done, from, to int) {
	t.Helper()
	m := ready(t, ghosts)
	m.Store(plan.Globals+slot, uint64(from))
	found := from
	if done <= slot {
		found = to
	}
	m.Thread(0).Push(Scan)
	left := true
	for range done {
		left = step(m, 0)
	}
	m.Store(plan.Globals+slot, uint64(to))
	if left {
		finish(m, 0)
	}
	var stay, chain []int
	for _, node := range []int{1, 2, 3} {
		if node == found {
			stay = append(stay, node)
		} else {
			chain = slices.Insert(chain, 0, node)
		}
	}
	same(t, "Retired", waiting(m, 0), stay)
	same(t, "Chain", arena.Chain(m), chain)
	is(t, "the slot", slots(m)[slot], uint64(to))
	told(t, m, 0, 0)
	is(t, "Fault", m.Fault(), false)
}

// Promise 18.1: another thread sets a slot by Protect and clears it by Clear, all at once, between any two steps of a Scan.
func TestProtectAndClearDuringAScan(t *testing.T) {
	for _, ghosts := range []bool{true, false} {
		for set := range 7 {
			for cleared := set; cleared <= 6; cleared++ {
				m := ready(t, ghosts)
				m.Store(place, points(2, 7))
				m.Thread(0).Push(Scan)
				for done := range 6 {
					if done == set {
						alone(m, 1, Protect, 1, place)
						told(t, m, 1, points(2, 7))
					}
					if done == cleared {
						alone(m, 1, Clear)
					}
					step(m, 0)
				}
				// Slot 1 of thread 1 is the fourth one, which the fourth step reads.
				var stay []int
				if set <= 3 && cleared > 3 {
					stay = []int{2}
				}
				same(t, "Retired", waiting(m, 0), stay)
				finish(m, 0)
				is(t, "whether it is free", slices.Contains(arena.Chain(m), 2), len(stay) == 0)
				is(t, "Fault", m.Fault(), false)
			}
		}
	}
}

// Promise 18.1: another thread takes a node, or puts one back, between any two steps of a Scan: a Release whose word Free was changed begins anew.
func TestOthersDuringAScan(t *testing.T) {
	for _, ghosts := range []bool{true, false} {
		for done := range 6 + 3*3 {
			for _, takes := range []bool{true, false} {
				m := made(t, conf(api.Mound, 3, 6, unseen), ghosts)
				m.Gone(5)
				alone(m, 2, arena.Release, 5)
				for _, node := range []int{1, 2, 3} {
					alone(m, 0, Retire, uint64(node))
				}
				m.Thread(0).Push(Scan)
				for range done {
					step(m, 0)
				}
				chain := arena.Chain(m)
				if takes {
					is(t, "steps", alone(m, 1, arena.Alloc), 3)
					told(t, m, 1, uint64(chain[0]))
					chain = chain[1:]
				} else {
					m.Gone(6)
					is(t, "steps", alone(m, 1, arena.Release, 6), 3)
					chain = append([]int{6}, chain...)
				}
				left := 6 + 3*3 - done
				if done > 6 && done%3 != 0 {
					left += 3 // amid a Release, which is done anew
				}
				is(t, "steps that are left", finish(m, 0), left)
				for node := range 3 {
					if !slices.Contains(chain, node+1) && !(takes && m.Thread(1).Ret[0] == uint64(node+1)) {
						chain = append([]int{node + 1}, chain...)
					}
				}
				same(t, "Chain", arena.Chain(m), chain)
				same(t, "Retired", waiting(m, 0), nil)
				is(t, "Fault", m.Fault(), false)
			}
		}
	}
}
