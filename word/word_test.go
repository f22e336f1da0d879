package word

import (
	"math"
	"testing"

	"jostle/api"
)

const (
	topPtr = 65535
	topVer = 1<<47 - 1
)

// samples are words of all kinds: any 64 bits are a word.
func samples() []Word {
	l := []Word{0, 1, 2, 3, 131071, 131072, 131079, 262144, math.MaxUint64, math.MaxUint64 - 1, 1 << 63, 1<<63 - 1}
	for i := range 64 {
		l = append(l, 1<<i, ^Word(1<<i))
	}
	w := Word(88172645463325252)
	for range 2000 {
		w ^= w << 13
		w ^= w >> 7
		w ^= w << 17
		l = append(l, w)
	}
	return l
}

// Promise 1.1: where the parts lie.
func TestMakeLaysParts(t *testing.T) {
	for _, c := range []struct {
		ptr  int
		mark bool
		ver  uint64
		want Word
	}{
		{0, false, 0, 0},
		{0, true, 0, 1},
		{1, false, 0, 2},
		{0, false, 1, 131072},
		{3, true, 1, 131079},
		{topPtr, false, 0, 131070},
		{topPtr, true, 0, 131071},
		{0, false, topVer, math.MaxUint64 - 131071},
		{0, true, topVer, math.MaxUint64 - 131070},
		{topPtr, false, topVer, math.MaxUint64 - 1},
		{topPtr, true, topVer, math.MaxUint64},
		{32768, false, 1 << 46, 1<<63 | 1<<16},
		{258, true, 772, 772*131072 + 258*2 + 1},
	} {
		w, e := Make(c.ptr, c.mark, c.ver)
		if w != c.want || e != api.OK {
			t.Errorf("Make(%d, %v, %d): %d, %d, not %d", c.ptr, c.mark, c.ver, w, e, c.want)
		}
	}
}

// Promise 1.1: the parts come back as they were put in.
func TestPartsComeBack(t *testing.T) {
	for _, ptr := range []int{0, 1, 2, 255, 256, 32767, 32768, topPtr - 1, topPtr} {
		for _, ver := range []uint64{0, 1, 2, 65535, 65536, 1 << 31, 1 << 32, 1 << 46, topVer - 1, topVer} {
			for _, mark := range []bool{false, true} {
				w, e := Make(ptr, mark, ver)
				if e != api.OK || w.Ptr() != ptr || w.Mark() != mark || w.Ver() != ver {
					t.Errorf("Make(%d, %v, %d): %d, %v, %d, error %d", ptr, mark, ver, w.Ptr(), w.Mark(), w.Ver(), e)
				}
			}
		}
	}
}

// Promise 1.1: the parts of 64 bits that Make did not lay, told bit by bit.
func TestPartsOfAnyBits(t *testing.T) {
	for _, w := range samples() {
		ptr, ver := 0, uint64(0)
		for i := range 16 {
			ptr += int(w>>(1+i)&1) << i
		}
		for i := range 47 {
			ver += uint64(w>>(17+i)&1) << i
		}
		if w.Ptr() != ptr || w.Mark() != (w%2 == 1) || w.Ver() != ver {
			t.Errorf("parts of %d: %d, %v, %d", w, w.Ptr(), w.Mark(), w.Ver())
		}
	}
}

// Promise 1.1: what does not fit is refused, and the word beside the error is 0.
func TestMakeRefuses(t *testing.T) {
	for _, c := range []struct {
		ptr int
		ver uint64
	}{
		{65536, 0},
		{65537, 0},
		{65536, topVer},
		{131072, 1},
		{-1, 0},
		{-1, topVer},
		{-65536, 0},
		{math.MinInt, 0},
		{math.MaxInt, 0},
		{0, 1 << 47},
		{0, 1<<47 + 1},
		{0, 1 << 48},
		{topPtr, 1 << 47},
		{3, math.MaxUint64},
		{0, 1 << 63},
		{65536, 1 << 47},
		{-1, math.MaxUint64},
	} {
		for _, mark := range []bool{false, true} {
			w, e := Make(c.ptr, mark, c.ver)
			if w != 0 || e != api.ErrRange {
				t.Errorf("Make(%d, %v, %d): %d, %d", c.ptr, mark, c.ver, w, e)
			}
		}
	}
}

// Promise 1.2: Next lays pointer and mark anew, whatever they were, and counts the version up.
func TestNext(t *testing.T) {
	if w := Word(131079).Next(0, false); w != 262144 {
		t.Errorf("the chapter's example: %d", w)
	}
	for _, w := range samples() {
		ver := w.Ver() + 1
		if w.Ver() == topVer {
			ver = 0
		}
		for _, ptr := range []int{0, 1, 3, 32768, topPtr} {
			for _, mark := range []bool{false, true} {
				n := w.Next(ptr, mark)
				if n.Ptr() != ptr || n.Mark() != mark || n.Ver() != ver {
					t.Errorf("%d.Next(%d, %v): %d, %v, %d", w, ptr, mark, n.Ptr(), n.Mark(), n.Ver())
				}
			}
		}
	}
}

// Promise 1.2: behind the greatest version is 0, and pointer and mark are kept out of the carry.
func TestVersionWraps(t *testing.T) {
	w, e := Make(topPtr, true, topVer)
	if e != api.OK {
		t.Fatal(e)
	}
	if n := w.Next(0, false); n != 0 {
		t.Errorf("Next of the greatest word: %d", n)
	}
	if n := w.Next(topPtr, true); n != 131071 {
		t.Errorf("Next of the greatest word, parts kept: %d", n)
	}
	if n := w.Marked(); n != 131071 {
		t.Errorf("Marked of the greatest word: %d", n)
	}
	if n := w.Next(0, false).Next(0, false).Ver(); n != 1 {
		t.Errorf("the version behind 0: %d", n)
	}
}

// Promise 1.2: Next's pointer is taken modulo 65,536, and nothing of it spills into the version.
func TestNextTakesPointerModulo(t *testing.T) {
	for _, c := range []struct{ ptr, want int }{
		{topPtr, topPtr},
		{65536, 0},
		{65537, 1},
		{131071, topPtr},
		{131072, 0},
		{1<<30 + 7, 7},
		{math.MaxInt, topPtr},
		{-1, topPtr},
		{-65535, 1},
		{-65536, 0},
		{-65537, topPtr},
		{math.MinInt, 0},
	} {
		for _, mark := range []bool{false, true} {
			n := Word(131079).Next(c.ptr, mark)
			if n.Ptr() != c.want || n.Mark() != mark || n.Ver() != 2 {
				t.Errorf("Next(%d, %v): %d, %v, %d", c.ptr, mark, n.Ptr(), n.Mark(), n.Ver())
			}
		}
	}
}

// Promise 1.2: Marked keeps the pointer, sets the mark, and counts the version up, though a mark is there.
func TestMarked(t *testing.T) {
	for _, w := range samples() {
		ver := w.Ver() + 1
		if w.Ver() == topVer {
			ver = 0
		}
		n := w.Marked()
		if n.Ptr() != w.Ptr() || !n.Mark() || n.Ver() != ver {
			t.Errorf("%d.Marked(): %d, %v, %d", w, n.Ptr(), n.Mark(), n.Ver())
		}
	}
}

// Promise 1.3: a word is made of its parts, and of nothing else.
func TestWordIsItsParts(t *testing.T) {
	for _, w := range samples() {
		v, e := Make(w.Ptr(), w.Mark(), w.Ver())
		if v != w || e != api.OK {
			t.Errorf("made of the parts of %d: %d, %d", w, v, e)
		}
	}
}

// Promise 1.3: the next word is another one, though pointer and mark stay.
func TestNextIsAnother(t *testing.T) {
	for _, w := range samples() {
		if w.Next(w.Ptr(), w.Mark()) == w || w.Next(0, false) == w || w.Marked() == w {
			t.Errorf("%d is its own next one", w)
		}
	}
}
