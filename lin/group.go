package lin

import (
	"iter"
	"math/bits"

	"jostle/seqs"
)

// group is some operations, by their numbers: a bit each.
type group uint64

// just is the group of one operation.
func just(x int) group { return 1 << x }

// has tells whether an operation is in a group.
func (g group) has(x int) bool { return g&just(x) != 0 }

// in tells whether all of a group are in another one.
func (g group) in(other group) bool { return g&^other == 0 }

// size is how many there are.
func (g group) size() int { return bits.OnesCount64(uint64(g)) }

// all tells a group's operations, rising.
func (g group) all() iter.Seq[int] {
	return func(yield func(int) bool) {
		for rest := g; rest != 0; rest &= rest - 1 {
			if !yield(bits.TrailingZeros64(uint64(rest))) {
				return
			}
		}
	}
}

// only is those of a group that are such.
func (g group) only(such func(int) bool) group {
	return seqs.Fold(seqs.Only(g.all(), such), 0, func(some group, x int) group { return some | just(x) })
}

// any tells whether one of a group is such.
func (g group) any(such func(int) bool) bool { return seqs.Some(g.all(), such) }

// set is things that were met.
type set[T comparable] struct {
	things map[T]struct{}
}

// add puts a thing in, and tells whether it is new.
func (s *set[T]) add(x T) bool {
	if s.things == nil { // a zero set has no map yet
		s.things = map[T]struct{}{}
	}
	before := len(s.things)
	s.things[x] = struct{}{}
	return len(s.things) > before
}
