package ord

import (
	"cmp"
	"math"
	"slices"
	"testing"
)

const (
	top32 = math.MaxUint32
	top64 = math.MaxUint64
)

// edges are keys, tickets and values at both ends, and where bits change.
func edges() []uint32 {
	return []uint32{0, 1, 2, 3, 255, 256, 65535, 65536, 1<<31 - 1, 1 << 31, 1<<31 + 1, top32 - 1, top32}
}

// samples are words of all kinds: those that Make and Pack never answer, too.
func samples() []uint64 {
	l := []uint64{0, 1, 2, 3, 10, 11, 1<<32 - 1, 1 << 32, 1<<32 + 1, 1<<33 - 1, 1 << 33, 1<<33 + 1, 1<<63 - 1, 1 << 63, top64 - 1, top64}
	for i := range 64 {
		l = append(l, 1<<i, ^uint64(1<<i))
	}
	w := uint64(88172645463325252)
	for range 2000 {
		w ^= w << 13
		w ^= w >> 7
		w ^= w << 17
		l = append(l, w)
	}
	return l
}

// Promise 2.1: an order number is the key times 2^32, and the ticket.
func TestMakeLaysParts(t *testing.T) {
	for _, c := range []struct {
		key, ticket uint32
		want        uint64
	}{
		{0, 0, 0},
		{0, 1, 1},
		{1, 0, 4294967296},
		{2, 3, 8589934595},
		{3, 2, 12884901890},
		{0, top32, 4294967295},
		{1, top32, 8589934591},
		{top32, 0, 18446744069414584320},
		{top32, 1, 18446744069414584321},
		{top32, top32, 18446744073709551615},
		{1 << 31, 0, 9223372036854775808},
		{0, 1 << 31, 2147483648},
		{1 << 31, 1 << 31, 9223372039002259456},
	} {
		if n := Make(c.key, c.ticket); n != c.want {
			t.Errorf("Make(%d, %d): %d, not %d", c.key, c.ticket, n, c.want)
		}
	}
}

// Promise 2.1: key and ticket come back as they were put in.
func TestKeyAndTicketComeBack(t *testing.T) {
	for _, key := range edges() {
		for _, ticket := range edges() {
			n := Make(key, ticket)
			if Key(n) != key || Ticket(n) != ticket {
				t.Errorf("Make(%d, %d): %d, %d", key, ticket, Key(n), Ticket(n))
			}
		}
	}
}

// Promise 2.1: any 64 bits are an order number, of just one key and one ticket.
func TestPartsMakeTheNumberAgain(t *testing.T) {
	for _, n := range samples() {
		if uint64(Key(n)) != n/4294967296 || uint64(Ticket(n)) != n%4294967296 {
			t.Errorf("parts of %d: %d, %d", n, Key(n), Ticket(n))
		}
		if m := Make(Key(n), Ticket(n)); m != n {
			t.Errorf("parts of %d make %d", n, m)
		}
	}
}

// Promise 2.2: a value word is twice the value, and 1, if it is gone.
func TestPackLaysParts(t *testing.T) {
	for _, c := range []struct {
		val  uint32
		gone bool
		want uint64
	}{
		{0, false, 0},
		{0, true, 1},
		{1, false, 2},
		{1, true, 3},
		{5, false, 10},
		{5, true, 11},
		{1 << 31, false, 4294967296},
		{1 << 31, true, 4294967297},
		{top32, false, 8589934590},
		{top32, true, 8589934591},
	} {
		if w := Pack(c.val, c.gone); w != c.want {
			t.Errorf("Pack(%d, %v): %d, not %d", c.val, c.gone, w, c.want)
		}
	}
}

// Promise 2.2: the value and whether it is gone come back as they were put in.
func TestValAndGoneComeBack(t *testing.T) {
	for _, val := range edges() {
		for _, gone := range []bool{false, true} {
			w := Pack(val, gone)
			if Val(w) != val || Gone(w) != gone {
				t.Errorf("Pack(%d, %v): %d, %v", val, gone, Val(w), Gone(w))
			}
		}
	}
}

// Promise 2.2: of words that Pack never answers, the value is taken modulo 2^32.
func TestValAndGoneOfAnyBits(t *testing.T) {
	for _, c := range []struct {
		w    uint64
		val  uint32
		gone bool
	}{
		{top64, top32, true},
		{top64 - 1, top32, false},
		{1 << 33, 0, false},
		{1<<33 + 1, 0, true},
		{1<<33 + 2, 1, false},
		{1<<33 + 11, 5, true},
		{1 << 63, 0, false},
		{1<<63 + 1, 0, true},
		{1<<63 + 1<<32, 1 << 31, false},
	} {
		if Val(c.w) != c.val || Gone(c.w) != c.gone {
			t.Errorf("parts of %d: %d, %v", c.w, Val(c.w), Gone(c.w))
		}
	}
	for _, w := range samples() {
		if uint64(Val(w)) != w/2%4294967296 || Gone(w) != (w%2 == 1) {
			t.Errorf("parts of %d: %d, %v", w, Val(w), Gone(w))
		}
	}
}

// Promise 2.2: Bury is the same word, gone, whatever stands above the value.
func TestBury(t *testing.T) {
	for _, c := range []struct{ w, want uint64 }{
		{0, 1},
		{1, 1},
		{10, 11},
		{11, 11},
		{8589934590, 8589934591},
		{8589934591, 8589934591},
		{1 << 33, 1<<33 + 1},
		{1 << 63, 1<<63 + 1},
		{top64 - 1, top64},
		{top64, top64},
	} {
		if w := Bury(c.w); w != c.want {
			t.Errorf("Bury(%d): %d, not %d", c.w, w, c.want)
		}
	}
	for _, w := range samples() {
		b := Bury(w)
		if b != w-w%2+1 || !Gone(b) || Val(b) != Val(w) || Bury(b) != b {
			t.Errorf("Bury(%d): %d", w, b)
		}
	}
	for _, val := range edges() {
		if Bury(Pack(val, false)) != Pack(val, true) || Bury(Pack(val, true)) != Pack(val, true) {
			t.Errorf("Bury of value %d", val)
		}
	}
}

// Promise 2.3: of none there is none.
func TestLeastOfNone(t *testing.T) {
	for _, l := range [][]uint64{nil, {}, make([]uint64, 0, 4), []uint64{7, 8}[:0]} {
		if n, ok := Least(l); n != 0 || ok {
			t.Errorf("Least(%v): %d, %v", l, n, ok)
		}
	}
}

// Promise 2.3: the least number, wherever it stands.
func TestLeast(t *testing.T) {
	for _, c := range []struct {
		l    []uint64
		want uint64
	}{
		{[]uint64{0}, 0},
		{[]uint64{7}, 7},
		{[]uint64{top64}, top64},
		{[]uint64{top64, top64}, top64},
		{[]uint64{4, 4, 4}, 4},
		{[]uint64{0, 0}, 0},
		{[]uint64{1, 2, 3}, 1},
		{[]uint64{2, 1, 3}, 1},
		{[]uint64{3, 2, 1}, 1},
		{[]uint64{3, 1, 2}, 1},
		{[]uint64{1, 2}, 1},
		{[]uint64{2, 1}, 1},
		{[]uint64{5, 2, 9, 2, 7}, 2},
		{[]uint64{top64, 0}, 0},
		{[]uint64{0, top64}, 0},
		{[]uint64{top64, top64 - 1}, top64 - 1},
		// As signed numbers, these would stand the other way round.
		{[]uint64{1 << 63, 1<<63 - 1}, 1<<63 - 1},
		{[]uint64{1<<63 - 1, 1 << 63}, 1<<63 - 1},
		// As floats, these would be equal.
		{[]uint64{1<<63 + 1, 1 << 63, 1<<63 + 2}, 1 << 63},
		{[]uint64{Make(1, 9), Make(2, 0), Make(1, 3)}, Make(1, 3)},
	} {
		if n, ok := Least(c.l); n != c.want || !ok {
			t.Errorf("Least(%v): %d, %v, not %d", c.l, n, ok, c.want)
		}
	}
}

// Promise 2.3: a long list, with its least number moved through all places; the list stays as it was.
func TestLeastInEveryPlace(t *testing.T) {
	l := samples()
	for i, n := range l {
		l[i] = n | 1<<40
	}
	for i := range l {
		kept := l[i]
		l[i] = 5
		before := slices.Clone(l)
		if n, ok := Least(l); n != 5 || !ok {
			t.Fatalf("the least one at %d: %d, %v", i, n, ok)
		}
		if !slices.Equal(l, before) {
			t.Fatalf("the least one at %d: the list was changed", i)
		}
		l[i] = kept
	}
}

// Promise 2.4: by keys first, and only then by tickets.
func TestOrderOfNumbers(t *testing.T) {
	for _, c := range []struct{ key, ticket, key2, ticket2 uint32 }{
		{1, 7, 2, 7},
		{0, 0, 1, 0},
		{top32 - 1, 5, top32, 5},
		{4, 1, 4, 2},
		{0, 0, 0, 1},
		{top32, top32 - 1, top32, top32},
		{0, 0, 0, top32},
		{0, 0, top32, 0},
		{1, 9, 2, 3},
		{0, top32, 1, 0},
		{top32 - 1, top32, top32, 0},
		{0, top32, top32, 0},
		{1<<31 - 1, top32, 1 << 31, 0},
	} {
		if !(Make(c.key, c.ticket) < Make(c.key2, c.ticket2)) {
			t.Errorf("%d, %d is not ahead of %d, %d", c.key, c.ticket, c.key2, c.ticket2)
		}
	}
}

// Promise 2.4: any two of them, the equal ones too; Least tells the first by that order.
func TestOrderOfAllEdges(t *testing.T) {
	type entry struct{ key, ticket uint32 }
	var l []entry
	for _, key := range edges() {
		for _, ticket := range edges() {
			l = append(l, entry{key, ticket})
		}
	}
	for _, a := range l {
		for _, b := range l {
			want := cmp.Or(cmp.Compare(a.key, b.key), cmp.Compare(a.ticket, b.ticket))
			m, n := Make(a.key, a.ticket), Make(b.key, b.ticket)
			if cmp.Compare(m, n) != want {
				t.Fatalf("%v and %v: not in the order of their keys and tickets", a, b)
			}
			first := m
			if want > 0 {
				first = n
			}
			if got, ok := Least([]uint64{m, n}); got != first || !ok {
				t.Fatalf("the least one of %v and %v: %d, %v", a, b, got, ok)
			}
		}
	}
}

// P1: at all arguments, these calls end without a panic.
func TestNoPanics(t *testing.T) {
	for _, n := range samples() {
		Make(Key(n), Ticket(n))
		Pack(Val(n), Gone(n))
		Bury(n)
		Least([]uint64{n})
	}
	Least(nil)
	Least(make([]uint64, 1<<20))
}
