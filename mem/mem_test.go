package mem

import (
	"fmt"
	"math"
	"slices"
	"testing"

	"jostle/api"
)

const top = math.MaxUint64

// step is a step that is to be done, its numbers by the chapter's names; Store's v and Add's d are n.
type step struct {
	kind, a int
	o, n    uint64
	b       int
	p, q    uint64
}

func load(a int) step             { return step{kind: Load, a: a} }
func store(a int, v uint64) step  { return step{kind: Store, a: a, n: v} }
func cas(a int, o, n uint64) step { return step{kind: Cas, a: a, o: o, n: n} }
func add(a int, d uint64) step    { return step{kind: Add, a: a, n: d} }
func dcas(a int, o, n uint64, b int, p, q uint64) step {
	return step{kind: Dcas, a: a, o: o, n: n, b: b, p: p, q: q}
}
func dcss(a int, o, n uint64, b int, p uint64) step {
	return step{kind: Dcss, a: a, o: o, n: n, b: b, p: p}
}

// told is what a step tells; what its kind doesn't tell is zero.
type told struct {
	word uint64
	ok   bool
	e    api.Errno
}

// do has a memory do a step.
func do(m *Mem, s step) (x told) {
	switch s.kind {
	case Load:
		x.word, x.e = m.Load(s.a)
	case Store:
		x.e = m.Store(s.a, s.n)
	case Cas:
		x.ok, x.e = m.Cas(s.a, s.o, s.n)
	case Add:
		x.word, x.e = m.Add(s.a, s.n)
	case Dcas:
		x.ok, x.e = m.Dcas(s.a, s.o, s.n, s.b, s.p, s.q)
	case Dcss:
		x.ok, x.e = m.Dcss(s.a, s.o, s.n, s.b, s.p)
	}
	return x
}

// state is all that a memory tells of itself.
type state struct {
	words []uint64
	steps int
	log   []Access
}

// holds asks m in every way that changes nothing, twice, since asking is no step either.
func holds(t *testing.T, name string, m *Mem, want state) {
	t.Helper()
	for range 2 {
		if got := m.Len(); got != len(want.words) {
			t.Errorf("%s, Len: %d, not %d", name, got, len(want.words))
		}
		if got := m.Steps(); got != want.steps {
			t.Errorf("%s, Steps: %d, not %d", name, got, want.steps)
		}
		if got := m.Words(); !slices.Equal(got, want.words) {
			t.Errorf("%s, Words: %v, not %v", name, got, want.words)
		}
		if got := m.Log(); !slices.Equal(got, want.log) {
			t.Errorf("%s, Log: %v, not %v", name, got, want.log)
		}
	}
}

// is holds what was told against what should be.
func is[T comparable](t *testing.T, name string, got, want T) {
	t.Helper()
	if got != want {
		t.Errorf("%s: %v, not %v", name, got, want)
	}
}

// of is a memory that is watched, with these words, laid by as many steps, which aren't logged.
func of(t *testing.T, words ...uint64) *Mem {
	t.Helper()
	m, e := New(len(words))
	if e != api.OK || m == nil {
		t.Fatalf("New(%d): %v, error %d", len(words), m, e)
	}
	for a, w := range words {
		if e := m.Store(a, w); e != api.OK {
			t.Fatalf("Store(%d, %d): error %d", a, w, e)
		}
	}
	m.Watch(true)
	return m
}

// one is a step on words, with all that is to come of it.
type one struct {
	name          string
	before, after []uint64
	s             step
	tells         told
	log           Access
}

// try has each step done on words of its own, and looks at all that it changed.
func try(t *testing.T, cases []one) {
	t.Helper()
	for _, c := range cases {
		m := of(t, c.before...)
		n := len(c.before)
		holds(t, c.name+", ahead", m, state{c.before, n, nil})
		is(t, c.name+", told", do(m, c.s), c.tells)
		holds(t, c.name, m, state{c.after, n + 1, []Access{c.log}})
	}
}

// The chapter's example.
func TestExample(t *testing.T) {
	m, e := New(2)
	is(t, "New", e, api.OK)
	is(t, "Dcas", do(m, dcas(0, 0, 5, 1, 0, 6)), told{ok: true})
	holds(t, "behind Dcas", m, state{[]uint64{5, 6}, 1, nil})
	is(t, "Dcss", do(m, dcss(0, 5, 7, 1, 0)), told{})
	holds(t, "behind Dcss", m, state{[]uint64{5, 6}, 2, nil})
}

// Promise 5.1: the kinds' numbers, as others have them.
func TestKinds(t *testing.T) {
	for want, got := range []int{Load, Store, Cas, Add, Dcas, Dcss} {
		is(t, "a kind", got, want)
	}
}

// Promise 5.1, New: from 1 to 4096 words, all 0, without a step.
func TestNew(t *testing.T) {
	for _, n := range []int{1, 2, 3, 64, 4095, 4096} {
		m, e := New(n)
		if m == nil || e != api.OK {
			t.Fatalf("New(%d): %v, error %d", n, m, e)
		}
		holds(t, fmt.Sprint("New ", n), m, state{make([]uint64, n), 0, nil})
	}
	for _, n := range []int{math.MinInt, -4096, -1, 0, 4097, 8192, 1 << 32, 1<<32 + 1, math.MaxInt} {
		m, e := New(n)
		if m != nil || e != api.ErrRange {
			t.Errorf("New(%d): %v, error %d", n, m, e)
		}
	}
}

// Promise 5.1, Load: the word as it is; nothing is written.
func TestLoad(t *testing.T) {
	w := []uint64{7, 0, top}
	try(t, []one{
		{"the first", w, w, load(0), told{word: 7}, Access{Load, 0, -1, false}},
		{"a zero one", w, w, load(1), told{}, Access{Load, 1, -1, false}},
		{"the last", w, w, load(2), told{word: top}, Access{Load, 2, -1, false}},
		{"the only one", []uint64{3}, []uint64{3}, load(0), told{word: 3}, Access{Load, 0, -1, false}},
	})
}

// Promise 5.1, Store: the word is v, whatever it was, and something was written, though it be the same.
func TestStore(t *testing.T) {
	w := []uint64{7, 0, 9}
	try(t, []one{
		{"the first", w, []uint64{8, 0, 9}, store(0, 8), told{}, Access{Store, 0, -1, true}},
		{"the greatest", w, []uint64{7, top, 9}, store(1, top), told{}, Access{Store, 1, -1, true}},
		{"a zero one", w, []uint64{7, 0, 0}, store(2, 0), told{}, Access{Store, 2, -1, true}},
		{"the same", w, w, store(2, 9), told{}, Access{Store, 2, -1, true}},
		{"the only one", []uint64{3}, []uint64{4}, store(0, 4), told{}, Access{Store, 0, -1, true}},
	})
}

// Promise 5.1, Cas: written, if it is o; then something was written, though n be o.
func TestCas(t *testing.T) {
	w := []uint64{7, 0, top}
	try(t, []one{
		{"found", w, []uint64{8, 0, top}, cas(0, 7, 8), told{ok: true}, Access{Cas, 0, -1, true}},
		{"found zero", w, []uint64{7, 1, top}, cas(1, 0, 1), told{ok: true}, Access{Cas, 1, -1, true}},
		{"found the greatest", w, []uint64{7, 0, 0}, cas(2, top, 0), told{ok: true}, Access{Cas, 2, -1, true}},
		{"found, n is o", w, w, cas(0, 7, 7), told{ok: true}, Access{Cas, 0, -1, true}},
		{"missed", w, w, cas(0, 6, 8), told{}, Access{Cas, 0, -1, false}},
		{"missed, n is the word", w, w, cas(0, 6, 7), told{}, Access{Cas, 0, -1, false}},
		{"missed, n is o", w, w, cas(0, 6, 6), told{}, Access{Cas, 0, -1, false}},
		{"missed, another word is o", w, w, cas(1, 7, 8), told{}, Access{Cas, 1, -1, false}},
		{"missed by one bit", w, w, cas(2, top-1<<63, 8), told{}, Access{Cas, 2, -1, false}},
		{"missed by the high half", w, w, cas(0, 7+1<<32, 8), told{}, Access{Cas, 0, -1, false}},
	})
}

// Promise 5.1, Add: d more, modulo 2^64; it tells what was there, and something was written, though d be 0.
func TestAdd(t *testing.T) {
	w := []uint64{7, 0, top}
	try(t, []one{
		{"ordinary", w, []uint64{10, 0, top}, add(0, 3), told{word: 7}, Access{Add, 0, -1, true}},
		{"to zero", w, []uint64{7, 5, top}, add(1, 5), told{}, Access{Add, 1, -1, true}},
		{"nothing", w, w, add(0, 0), told{word: 7}, Access{Add, 0, -1, true}},
		{"round to 0", w, []uint64{7, 0, 0}, add(2, 1), told{word: top}, Access{Add, 2, -1, true}},
		{"round past 0", w, []uint64{7, 0, 4}, add(2, 5), told{word: top}, Access{Add, 2, -1, true}},
		{"one less", w, []uint64{6, 0, top}, add(0, top), told{word: 7}, Access{Add, 0, -1, true}},
		{"twice the greatest", w, []uint64{7, 0, top - 1}, add(2, top), told{word: top}, Access{Add, 2, -1, true}},
		{"up to the greatest", w, []uint64{7, top, top}, add(1, top), told{}, Access{Add, 1, -1, true}},
	})
}

// Promises 5.1 and 5.2, Dcas: both words, if both are as they should be, or neither.
func TestDcas(t *testing.T) {
	w := []uint64{1, 2, 3, 4}
	try(t, []one{
		{"both found", w, []uint64{8, 9, 3, 4}, dcas(0, 1, 8, 1, 2, 9), told{ok: true}, Access{Dcas, 0, 1, true}},
		{"the other way round", w, []uint64{8, 2, 3, 9}, dcas(3, 4, 9, 0, 1, 8), told{ok: true}, Access{Dcas, 3, 0, true}},
		{"words change places", w, []uint64{1, 3, 2, 4}, dcas(1, 2, 3, 2, 3, 2), told{ok: true}, Access{Dcas, 1, 2, true}},
		{"only the first found", w, w, dcas(0, 1, 8, 1, 7, 9), told{}, Access{Dcas, 0, 1, false}},
		{"only the second found", w, w, dcas(0, 7, 8, 1, 2, 9), told{}, Access{Dcas, 0, 1, false}},
		{"neither found", w, w, dcas(0, 7, 8, 1, 7, 9), told{}, Access{Dcas, 0, 1, false}},
		{"the words crossed", w, w, dcas(0, 2, 8, 1, 1, 9), told{}, Access{Dcas, 0, 1, false}},
		{"both found, n is o and q is p", w, w, dcas(2, 3, 3, 3, 4, 4), told{ok: true}, Access{Dcas, 2, 3, true}},
		{"both found, n is o", w, []uint64{1, 2, 3, 9}, dcas(2, 3, 3, 3, 4, 9), told{ok: true}, Access{Dcas, 2, 3, true}},
		{"both found, q is p", w, []uint64{1, 2, 9, 4}, dcas(2, 3, 9, 3, 4, 4), told{ok: true}, Access{Dcas, 2, 3, true}},
		{"only the first found, n is o", w, w, dcas(2, 3, 3, 3, 5, 5), told{}, Access{Dcas, 2, 3, false}},
		{"only the second found, q is p", w, w, dcas(2, 5, 5, 3, 4, 4), told{}, Access{Dcas, 2, 3, false}},
		{"neither found, n is o and q is p", w, w, dcas(2, 5, 5, 3, 6, 6), told{}, Access{Dcas, 2, 3, false}},
		{"the greatest", []uint64{top, 0}, []uint64{0, top}, dcas(0, top, 0, 1, 0, top), told{ok: true}, Access{Dcas, 0, 1, true}},
	})
}

// Promises 5.1 and 5.2, Dcss: the first word, if both are as they should be; never the second one.
func TestDcss(t *testing.T) {
	w := []uint64{1, 2, 3, 4}
	try(t, []one{
		{"both found", w, []uint64{8, 2, 3, 4}, dcss(0, 1, 8, 1, 2), told{ok: true}, Access{Dcss, 0, 1, true}},
		{"the other way round", w, []uint64{1, 2, 3, 9}, dcss(3, 4, 9, 0, 1), told{ok: true}, Access{Dcss, 3, 0, true}},
		{"only the first found", w, w, dcss(0, 1, 8, 1, 7), told{}, Access{Dcss, 0, 1, false}},
		{"only the second found", w, w, dcss(0, 7, 8, 1, 2), told{}, Access{Dcss, 0, 1, false}},
		{"neither found", w, w, dcss(0, 7, 8, 1, 7), told{}, Access{Dcss, 0, 1, false}},
		{"the words crossed", w, w, dcss(0, 2, 8, 1, 1), told{}, Access{Dcss, 0, 1, false}},
		{"both found, n is o", w, w, dcss(2, 3, 3, 3, 4), told{ok: true}, Access{Dcss, 2, 3, true}},
		{"only the first found, n is o", w, w, dcss(2, 3, 3, 3, 5), told{}, Access{Dcss, 2, 3, false}},
		{"only the second found, n is o", w, w, dcss(2, 5, 5, 3, 4), told{}, Access{Dcss, 2, 3, false}},
		{"neither found, n is o", w, w, dcss(2, 5, 5, 3, 6), told{}, Access{Dcss, 2, 3, false}},
		{"the greatest", []uint64{top, 0}, []uint64{0, 0}, dcss(0, top, 0, 1, 0), told{ok: true}, Access{Dcss, 0, 1, true}},
	})
}

// Promise 5.1, Dcss with one address twice: the word must be o and p, both.
func TestDcssOfOneAddress(t *testing.T) {
	w := []uint64{1, 2, 3}
	try(t, []one{
		{"found", w, []uint64{1, 9, 3}, dcss(1, 2, 9, 1, 2), told{ok: true}, Access{Dcss, 1, 1, true}},
		{"found, n is o", w, w, dcss(1, 2, 2, 1, 2), told{ok: true}, Access{Dcss, 1, 1, true}},
		{"only o", w, w, dcss(1, 2, 9, 1, 1), told{}, Access{Dcss, 1, 1, false}},
		{"only o, p is n", w, w, dcss(1, 2, 9, 1, 9), told{}, Access{Dcss, 1, 1, false}},
		{"only p", w, w, dcss(1, 1, 9, 1, 2), told{}, Access{Dcss, 1, 1, false}},
		{"neither", w, w, dcss(1, 1, 9, 1, 1), told{}, Access{Dcss, 1, 1, false}},
		{"the only word", []uint64{4}, []uint64{5}, dcss(0, 4, 5, 0, 4), told{ok: true}, Access{Dcss, 0, 0, true}},
		{"the only word, missed", []uint64{4}, []uint64{4}, dcss(0, 4, 5, 0, 5), told{}, Access{Dcss, 0, 0, false}},
	})
}

// Promise 5.1, Dcas with one address twice: refused, whatever the word is.
func TestDcasOfOneAddress(t *testing.T) {
	for _, words := range [][]uint64{{0}, {0, 0}, {5, 6, 7}, make([]uint64, 4096)} {
		m := of(t, words...)
		for _, a := range []int{0, len(words) / 2, len(words) - 1} {
			for _, s := range []step{
				dcas(a, words[a], 9, a, words[a], 9),
				dcas(a, words[a], 8, a, words[a], 9),
				dcas(a, words[a], words[a], a, words[a], words[a]),
				dcas(a, words[a], 9, a, 4, 9),
				dcas(a, 4, 9, a, words[a], 9),
				dcas(a, 4, 9, a, 4, 9),
			} {
				is(t, fmt.Sprint(s), do(m, s), told{e: api.ErrRange})
			}
		}
		holds(t, "behind Dcas of one address", m, state{words, len(words), nil})
	}
}

// outside is addresses that a memory of n words hasn't.
func outside(n int) []int {
	return []int{math.MinInt, math.MinInt + 1, -n - 1, -n, -2, -1, n, n + 1, 4096, 4097,
		1 << 32, -1 << 32, 1<<32 + 1, math.MaxInt - 1, math.MaxInt}
}

// at is steps of every kind that would find what they should, if the words there were 5.
func at(a, good int) []step {
	return []step{
		load(a), store(a, 9), cas(a, 5, 9), cas(a, 0, 9), add(a, 9),
		dcas(a, 5, 9, good, 5, 9), dcas(good, 5, 9, a, 5, 9), dcas(a, 5, 9, a, 5, 9), dcas(a, 0, 9, good, 5, 9),
		dcss(a, 5, 9, good, 5), dcss(good, 5, 9, a, 5), dcss(a, 5, 9, a, 5), dcss(good, 5, 9, a, 0),
	}
}

// fives is n words that are 5.
func fives(n int) []uint64 { return slices.Repeat([]uint64{5}, n) }

// Promise 5.1: at an address that isn't the memory's, no step is counted, logged or done; either address counts.
func TestOutside(t *testing.T) {
	for _, n := range []int{1, 2, 3, 4095, 4096} {
		m := of(t, fives(n)...)
		for _, a := range outside(n) {
			if a >= 0 && a < n {
				continue
			}
			for _, good := range []int{0, n - 1} {
				for _, s := range at(a, good) {
					is(t, fmt.Sprint("of ", n, " words, ", s), do(m, s), told{e: api.ErrRange})
				}
			}
		}
		for _, s := range []step{dcas(-1, 5, 9, n, 5, 9), dcss(-1, 5, 9, n, 5), dcas(n, 5, 9, -1, 5, 9), dcss(n, 5, 9, -1, 5)} {
			is(t, fmt.Sprint("both outside, ", s), do(m, s), told{e: api.ErrRange})
		}
		holds(t, fmt.Sprint("of ", n, " words"), m, state{fives(n), n, nil})
		is(t, "a step behind them", do(m, add(n-1, 1)), told{word: 5})
		want := fives(n)
		want[n-1] = 6
		holds(t, fmt.Sprint("of ", n, " words, and a step"), m, state{want, n + 1, []Access{{Add, n - 1, -1, true}}})
	}
}

// Promise 5.1: at the first and the last address, each step is done, and no other word changes.
func TestEnds(t *testing.T) {
	for _, n := range []int{2, 3, 4096} {
		for _, ends := range [][2]int{{0, n - 1}, {n - 1, 0}} {
			a, b := ends[0], ends[1]
			for _, c := range []struct {
				s     step
				tells told
				a, b  uint64
				log   Access
			}{
				{load(a), told{word: 5}, 5, 5, Access{Load, a, -1, false}},
				{store(a, 9), told{}, 9, 5, Access{Store, a, -1, true}},
				{cas(a, 5, 9), told{ok: true}, 9, 5, Access{Cas, a, -1, true}},
				{cas(a, 4, 9), told{}, 5, 5, Access{Cas, a, -1, false}},
				{add(a, 9), told{word: 5}, 14, 5, Access{Add, a, -1, true}},
				{dcas(a, 5, 9, b, 5, 8), told{ok: true}, 9, 8, Access{Dcas, a, b, true}},
				{dcas(a, 5, 9, b, 4, 8), told{}, 5, 5, Access{Dcas, a, b, false}},
				{dcss(a, 5, 9, b, 5), told{ok: true}, 9, 5, Access{Dcss, a, b, true}},
				{dcss(a, 5, 9, b, 4), told{}, 5, 5, Access{Dcss, a, b, false}},
				{dcss(a, 5, 9, a, 5), told{ok: true}, 9, 5, Access{Dcss, a, a, true}},
			} {
				after := fives(n)
				after[a], after[b] = c.a, c.b
				try(t, []one{{fmt.Sprint("of ", n, " words, ", c.s), fives(n), after, c.s, c.tells, c.log}})
			}
		}
	}
}

// Promise 5.1 and P1: of a nil memory each step is ErrArg, ahead of ErrRange; the others tell 0, or none.
func TestNil(t *testing.T) {
	var m *Mem
	for _, on := range []bool{true, false, true} {
		m.Watch(on)
		for _, a := range append(outside(0), 0, 1) {
			for _, s := range at(a, 0) {
				is(t, fmt.Sprint(s), do(m, s), told{e: api.ErrArg})
			}
		}
		holds(t, "a nil memory", m, state{})
	}
}

// Promise 5.1, Watch: off at first; from then on, till it is off; what was logged stays, and goes on.
func TestWatch(t *testing.T) {
	m, _ := New(2)
	all := func() {
		for _, s := range []step{load(1), store(0, 5), cas(0, 4, 6), add(1, 2), dcas(0, 5, 6, 1, 0, 7), dcss(1, 2, 0, 0, 5)} {
			is(t, fmt.Sprint(s), do(m, s).e, api.OK)
		}
	}
	accesses := []Access{
		{Load, 1, -1, false}, {Store, 0, -1, true}, {Cas, 0, -1, false},
		{Add, 1, -1, true}, {Dcas, 0, 1, false}, {Dcss, 1, 0, true},
	}
	words := []uint64{5, 0}
	all()
	holds(t, "never watched", m, state{words, 6, nil})
	m.Watch(false)
	all()
	holds(t, "not watched", m, state{words, 12, nil})
	m.Watch(true)
	holds(t, "watched, no step yet", m, state{words, 12, nil})
	all()
	holds(t, "watched", m, state{words, 18, accesses})
	m.Watch(true)
	holds(t, "watched, told twice", m, state{words, 18, accesses})
	all()
	twice := slices.Repeat(accesses, 2)
	holds(t, "watched on", m, state{words, 24, twice})
	m.Watch(false)
	holds(t, "no longer watched", m, state{words, 24, twice})
	all()
	m.Watch(false)
	holds(t, "a gap", m, state{words, 30, twice})
	m.Watch(true)
	holds(t, "watched again, no step yet", m, state{words, 30, twice})
	all()
	holds(t, "watched again", m, state{words, 36, slices.Repeat(accesses, 3)})
}

// Promise 5.1: steps with an error are neither counted nor logged, between others, watched or not.
func TestErrorsBetween(t *testing.T) {
	m := of(t, 5, 5)
	bad := func() {
		for _, s := range slices.Concat(at(-1, 0), at(2, 1), at(math.MaxInt, 0), []step{dcas(1, 5, 9, 1, 5, 9)}) {
			is(t, fmt.Sprint(s), do(m, s), told{e: api.ErrRange})
		}
	}
	bad()
	holds(t, "no step yet", m, state{[]uint64{5, 5}, 2, nil})
	do(m, cas(0, 5, 6))
	bad()
	do(m, cas(0, 5, 7))
	bad()
	log := []Access{{Cas, 0, -1, true}, {Cas, 0, -1, false}}
	holds(t, "watched", m, state{[]uint64{6, 5}, 4, log})
	m.Watch(false)
	bad()
	do(m, load(0))
	bad()
	holds(t, "not watched", m, state{[]uint64{6, 5}, 5, log})
	m.Watch(true)
	bad()
	do(m, load(1))
	holds(t, "watched again", m, state{[]uint64{6, 5}, 6, append(log, Access{Load, 1, -1, false})})
}

// The rule of memory: lists that are told are new, and later steps don't change them.
func TestListsAreNew(t *testing.T) {
	m := of(t, 1, 2, 3)
	do(m, add(0, 9))
	do(m, dcas(0, 10, 1, 2, 3, 4))
	words, log := []uint64{1, 2, 4}, []Access{{Add, 0, -1, true}, {Dcas, 0, 2, true}}
	w1, w2, l1, l2 := m.Words(), m.Words(), m.Log(), m.Log()
	for i := range w1 {
		w1[i] = 77
	}
	for i := range l1 {
		l1[i] = Access{7, 7, 7, false}
	}
	// Behind their ends, too: a list may have room there.
	_ = append(w1, 78)
	_ = append(l1, Access{8, 8, 8, true})
	holds(t, "lists changed by others", m, state{words, 5, log})
	is(t, "words told twice", slices.Equal(w2, words), true)
	is(t, "logs told twice", slices.Equal(l2, log), true)
	do(m, store(1, 6))
	do(m, load(1))
	is(t, "words told ahead of steps", slices.Equal(w2, words), true)
	is(t, "a log told ahead of steps", slices.Equal(l2, log), true)
	_ = append(l2, Access{8, 8, 8, true})
	log = append(log, Access{Store, 1, -1, true}, Access{Load, 1, -1, false})
	holds(t, "behind steps", m, state{[]uint64{1, 6, 4}, 7, log})
}

// The rule of memory: memories have nothing in common.
func TestMemoriesAreApart(t *testing.T) {
	one, other := of(t, 1, 2), of(t, 3, 4, 5)
	do(one, store(0, 9))
	do(other, cas(1, 4, 8))
	one.Watch(false)
	do(other, load(2))
	do(one, load(0))
	holds(t, "one", one, state{[]uint64{9, 2}, 4, []Access{{Store, 0, -1, true}}})
	holds(t, "the other", other, state{[]uint64{3, 8, 5}, 5, []Access{{Cas, 1, -1, true}, {Load, 2, -1, false}}})
}

// model is a memory as the chapter has it, each step told on its own.
type model struct {
	state
	watched bool
}

// has tells whether there is such an address.
func (m *model) has(a int) bool { return a >= 0 && a < len(m.words) }

// do is what a step tells, once more, by the chapter.
func (m *model) do(s step) told {
	two := s.kind == Dcas || s.kind == Dcss
	if !m.has(s.a) || two && !m.has(s.b) || s.kind == Dcas && s.a == s.b {
		return told{e: api.ErrRange}
	}
	at := &m.words[s.a]
	x, writes, b := told{}, true, -1
	switch s.kind {
	case Load:
		x.word, writes = *at, false
	case Add:
		x.word = *at
	case Cas:
		x.ok = *at == s.o
		writes = x.ok
	case Dcas, Dcss:
		x.ok = [2]uint64{*at, m.words[s.b]} == [2]uint64{s.o, s.p}
		writes, b = x.ok, s.b
	}
	if writes && s.kind == Add {
		*at += s.n
	} else if writes {
		*at = s.n
	}
	if writes && s.kind == Dcas {
		m.words[s.b] = s.q
	}
	m.steps++
	if m.watched {
		m.log = append(m.log, Access{s.kind, s.a, b, writes})
	}
	return x
}

// small is all steps of all kinds at addresses around two words, with words that are 0 or the greatest.
func small() []step {
	var l []step
	pick := []uint64{0, top}
	for a := -1; a <= 2; a++ {
		l = append(l, load(a))
		for _, n := range pick {
			l = append(l, store(a, n), add(a, n), add(a, 1))
			for _, o := range pick {
				l = append(l, cas(a, o, n))
				for b := -1; b <= 2; b++ {
					for _, p := range pick {
						l = append(l, dcss(a, o, n, b, p), dcas(a, o, n, b, p, 0), dcas(a, o, n, b, p, top))
					}
				}
			}
		}
	}
	return l
}

// Promises 5.1 and 5.2: all small steps on all small words, held against the model.
func TestAllSmallSteps(t *testing.T) {
	for _, first := range []uint64{0, top} {
		for _, second := range []uint64{0, top} {
			for _, s := range small() {
				m := of(t, first, second)
				want := model{state{[]uint64{first, second}, 2, nil}, true}
				name := fmt.Sprint("of ", first, " ", second, ", ", s)
				is(t, name, do(m, s), want.do(s))
				holds(t, name, m, want.state)
			}
		}
	}
}

// Promises 5.1 and 5.2: long rows of steps, and of Watch, held against the model.
func TestLongRows(t *testing.T) {
	seed := uint64(88172645463325252)
	draw := func(n int) int {
		seed ^= seed << 13
		seed ^= seed >> 7
		seed ^= seed << 17
		return int(seed>>8) % n
	}
	for row := range 300 {
		n := 1 + draw(4)
		m, _ := New(n)
		want := model{state: state{words: make([]uint64, n)}}
		word := func() uint64 { return uint64(draw(3)) - 1 }
		for range 200 {
			if draw(10) == 0 {
				want.watched = draw(2) == 0
				m.Watch(want.watched)
			}
			s := step{draw(6), draw(n+2) - 1, word(), word(), draw(n+2) - 1, word(), word()}
			is(t, fmt.Sprint("row ", row, ", ", s), do(m, s), want.do(s))
		}
		holds(t, fmt.Sprint("row ", row), m, want.state)
	}
}

// Promise 5.2, as the chapter says it: a step that misses changes no word, and two are changed both, or neither.
func TestWhatFollows(t *testing.T) {
	before := []uint64{0, 1, 2, 3}
	for k := range 1 << 8 {
		field := func(i int) uint64 { return uint64(k>>(2*i)) % 4 }
		a, b := int(field(0)), int(field(1))
		if a == b {
			continue
		}
		m := of(t, before...)
		// The new words are none of the old ones, so that each that was written shows.
		x := do(m, dcas(a, field(2), 8, b, field(3), 9))
		after := m.Words()
		changed := 0
		for i := range after {
			if after[i] != before[i] {
				changed++
			}
		}
		if x.ok && (changed != 2 || after[a] != 8 || after[b] != 9) || !x.ok && changed != 0 {
			t.Errorf("Dcas at %d and %d: %v, then %v", a, b, x, after)
		}
		is(t, "the log", m.Log()[0].Done, x.ok)
		for _, s := range []step{cas(a, field(2), 8), dcss(a, field(2), 8, b, field(3))} {
			m := of(t, before...)
			x, want := do(m, s), slices.Clone(before)
			if x.ok {
				want[a] = 8
			}
			is(t, fmt.Sprint(s, " is done as it is told"), slices.Equal(m.Words(), want), true)
		}
	}
}
