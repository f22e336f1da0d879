package lin

import (
	"iter"
	"slices"

	"jostle/api"
	"jostle/bag"
	"jostle/seqs"
)

// search looks for an order. It goes from goal to goal, and does all else as late as it can: an Insert only when a goal must be behind it or needs its pair, a DeleteMin that isn't answered only when a pair is in a goal's way. From any order that there is one of this kind can be made.
type search struct {
	*field
	met set[mark]
}

// state is how far a search has come.
type state struct {
	done  group
	order []int // places
	pairs *bag.Bag
}

// mark is all that what may come behind a state hangs on.
type mark struct {
	done  group
	pairs [api.MaxCalls]bag.Pair // how many there are is told by done
}

// move is a goal that may come next, behind some Inserts and what else it takes.
type move struct {
	goal     int
	inserts  group
	from, to *state
}

// mark is a state's mark.
func (s *state) mark() mark {
	m := mark{done: s.done}
	copy(m.pairs[:], s.pairs.List())
	return m
}

// fork is a state that has come as far, and goes on by itself.
func (s *state) fork() *state {
	return &state{done: s.done, order: slices.Clip(s.order), pairs: s.pairs.Copy()}
}

// times is how often a pair is there.
func (s *state) times(p bag.Pair) int {
	alike := seqs.Only(seqs.Of(s.pairs.List()), func(q bag.Pair) bool { return q == p })
	return len(seqs.List(alike))
}

// from is an order that goes on from a state, and whether there is one.
func (s *search) from(at *state) ([]int, bool) {
	s.settle(at)
	if s.left(at) == 0 {
		return at.order, true
	}
	if !s.met.add(at.mark()) {
		return nil, false
	}
	var moves []move
	for m := range s.moves(at) {
		if s.sure(m) {
			return s.from(m.to)
		}
		moves = append(moves, m)
	}
	if s.doomed(at) { // asked no sooner, since it takes longer than going on where it is sure how
		return nil, false
	}
	for _, m := range moves {
		if order, ok := s.from(m.to); ok {
			return order, true
		}
	}
	return nil, false
}

// left is the goals that aren't done.
func (f *field) left(at *state) group { return f.goals &^ at.done }

// missing is those that must be ahead of an operation, and aren't done.
func (f *field) missing(at *state, x int) group { return f.before[x] &^ at.done }

// ready tells whether an operation may come next, behind Inserts alone.
func (f *field) ready(at *state, x int) bool { return f.missing(at, x).in(f.easy) }

// bars tells whether a goal can't be done while a pair is there.
func (f *field) bars(p bag.Pair, g int) bool {
	a := f.opers[g].Answer
	return a.Kind == api.Empty || p.Key < a.Key
}

// settle does the Inserts that may come next and harm none: each goal that isn't done, and in whose way their pair is, must be behind them anyway.
func (f *field) settle(at *state) {
	for x := range (f.easy &^ at.done).all() {
		barred := func(g int) bool { return f.puts(x) && f.bars(put(f.opers[x].Call), g) }
		if f.missing(at, x) == 0 && !(f.left(at) &^ f.after[x]).any(barred) {
			f.do(at, x, f.opers[x].Answer)
		}
	}
}

// moves tells what may come next.
func (f *field) moves(at *state) iter.Seq[move] {
	return func(yield func(move) bool) {
		for g := range f.left(at).all() {
			if !f.ready(at, g) || f.beaten(g, f.like(g)&^at.done) {
				continue
			}
			for inserts := range f.inserts(at, g) {
				to, ok := f.reach(at, g, inserts)
				if ok && !yield(move{goal: g, inserts: inserts, from: at, to: to}) {
					return
				}
			}
		}
	}
}

// inserts tells behind which Inserts a goal may come next: those that must be ahead of it and, if its pair isn't there yet, one that puts it in.
func (f *field) inserts(at *state, g int) iter.Seq[group] {
	must, a, puts := f.missing(at, g), f.opers[g].Answer, f.kin[g].put
	if a.Kind == api.Empty || must&puts != 0 || at.times(told(a)) > 0 {
		return seqs.Of([]group{must})
	}
	puts &^= at.done
	may := seqs.Only(puts.all(), func(x int) bool { return f.ready(at, x) && !f.beaten(x, puts) })
	return seqs.Each(may, func(x int) group { return must | f.missing(at, x) | just(x) })
}

// reach is how far a search has come behind Inserts and a goal, and whether that is legal. What is in the goal's way is taken by DeleteMins that aren't answered.
func (f *field) reach(at *state, g int, inserts group) (*state, bool) {
	to := at.fork()
	f.insert(to, inserts)
	for p := range f.inWay(to, g) {
		x, ok := f.taker(to)
		if !ok {
			return nil, false
		}
		if missing := f.missing(to, x); missing != 0 {
			f.insert(to, missing)
			continue // behind these another pair may be the least
		}
		f.do(to, x, api.Answer{Kind: api.Pair, Key: p.Key, Val: p.Val})
	}
	return to, f.do(to, g, f.opers[g].Answer)
}

// inWay tells the pair that may be taken next by a DeleteMin that isn't answered, as long as there is one in a goal's way. Where there are several, one of them is told: the others have to go as well.
func (f *field) inWay(at *state, g int) iter.Seq[bag.Pair] {
	return func(yield func(bag.Pair) bool) {
		for {
			mins := at.pairs.Mins()
			if len(mins) == 0 || !f.bars(mins[0], g) || !yield(mins[0]) {
				return
			}
		}
	}
}

// taker is the DeleteMin that isn't answered and has the fewest that must be ahead of it, and whether it may come next. Those few must be ahead of the others, too.
func (f *field) taker(at *state) (int, bool) {
	best, ok := 0, false
	for x := range (f.takers &^ at.done).all() {
		if !ok || f.before[x].size() < f.before[best].size() {
			best, ok = x, true
		}
	}
	return best, ok && f.ready(at, best)
}

// insert does Inserts that are answered, or are to be thought of as answered Done.
func (f *field) insert(at *state, inserts group) {
	for x := range inserts.all() {
		f.do(at, x, f.opers[x].Answer)
	}
}

// do does an operation with an answer, and tells whether that is legal.
func (f *field) do(at *state, x int, a api.Answer) bool {
	if !at.pairs.Do(f.opers[x].Call, a) {
		return false
	}
	at.done |= just(x)
	at.order = append(at.order, f.places[x])
	return true
}
