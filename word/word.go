// Package word is layer 1: see shared/doc/01-word.md.
package word

import (
	"jostle/api"
)

// Where the parts begin, from the lowest bit on: the mark is the lowest one.
const (
	ptrShift = 1
	verShift = 17
)

// The first numbers that no longer fit into the parts.
const (
	ptrLimit = 1 << 16
	verLimit = 1 << 47
)

// Word is a pointer, a mark and a version.
type Word uint64

// part is a number that is to be packed, and the first one that would be too great.
type part struct {
	number, limit uint64
}

// fit tells whether each number is below its limit.
func fit(parts ...part) bool {
	for _, p := range parts {
		if p.number >= p.limit {
			return false
		}
	}
	return true
}

// pack lays parts side by side; they must fit, or they would spill into one another.
func pack(ptr uint64, mark bool, ver uint64) Word {
	w := Word(ptr<<ptrShift | ver<<verShift)
	if mark {
		w |= 1
	}
	return w
}

// Make packs parts.
func Make(ptr int, mark bool, ver uint64) (Word, api.Errno) {
	// A pointer below 0 becomes a number far past the limit, so one comparison refuses both ends.
	p := uint64(ptr)
	if !fit(part{p, ptrLimit}, part{ver, verLimit}) {
		return 0, api.ErrRange
	}
	return pack(p, mark, ver), api.OK
}

// Ptr is the pointer.
func (w Word) Ptr() int { return int((w >> ptrShift) % ptrLimit) }

// Mark is the mark.
func (w Word) Mark() bool { return w&1 == 1 }

// Ver is the version.
func (w Word) Ver() uint64 { return uint64(w >> verShift) }

// Next is the next word.
func (w Word) Next(ptr int, mark bool) Word {
	// 65,536 divides 2^64, so a pointer below 0 comes out right, too.
	return pack(uint64(ptr)%ptrLimit, mark, (w.Ver()+1)%verLimit)
}

// Marked is the next word, with a mark.
func (w Word) Marked() Word { return w.Next(w.Ptr(), true) }
