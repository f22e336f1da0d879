package bag

import (
	"fmt"
	"math"
	"slices"
	"testing"

	"jostle/api"
	"jostle/call"
)

// is holds what was told against what should be. It ends the test, since what is wrong at all is mostly wrong of many bags.
func is[T comparable](t *testing.T, name string, got, want T) {
	t.Helper()
	if got != want {
		t.Fatalf("%s: %v, not %v", name, got, want)
	}
}

// same holds a list that was told against the one that should be; a nil one is as an empty one.
func same[T comparable](t *testing.T, name string, got, want []T) {
	t.Helper()
	if !slices.Equal(got, want) {
		t.Fatalf("%s: %s, not %s", name, short(got), short(want))
	}
}

// short is a thing's text, cut where it becomes too long to read.
func short(x any) string {
	s := fmt.Sprint(x)
	if len(s) > 600 {
		return s[:600] + ".."
	}
	return s
}

// insert is the call that puts a pair in.
func insert(key, val uint32) api.Call { return api.Call{Op: api.Insert, Key: key, Val: val} }

// pair is the answer that is a pair.
func pair(key, val uint32) api.Answer { return api.Answer{Kind: api.Pair, Key: key, Val: val} }

// The calls and the answers that have no numbers.
var (
	deleteMin = api.Call{Op: api.DeleteMin}
	peekMin   = api.Call{Op: api.PeekMin}
	done      = api.Answer{Kind: api.Done}
	full      = api.Answer{Kind: api.Full}
	empty     = api.Answer{Kind: api.Empty}
)

// The greatest number of 32 bits.
const most = math.MaxUint32

// edges is numbers at the edges of 32 bits and of their bytes.
func edges() []uint32 {
	return []uint32{0, 1, 5, 9, 10, 127, 128, 255, 256, 65535, 65536, 1<<24 - 1, 1 << 24, 1<<31 - 1, 1 << 31, most - 1, most}
}

// edgePairs is all pairs of such numbers, in order.
func edgePairs() []Pair {
	var l []Pair
	for _, key := range edges() {
		for _, val := range edges() {
			l = append(l, Pair{key, val})
		}
	}
	return l
}

// farNumbers is numbers that are no operation and no kind, though one byte or 32 bits of some of them are.
func farNumbers() []int {
	return []int{-1, -2, -3, -254, -255, -256, -257, 255, 256, 257, 258, 259, 1 << 16, 1<<31 - 1, 1 << 31, 1<<31 + 1, 1<<32 - 1, 1 << 32, 1<<32 + 1, 1<<32 + 2, 1<<32 + 3,
		math.MinInt32, math.MinInt32 - 1, math.MinInt, math.MinInt + 1, math.MinInt + 2, math.MaxInt - 1, math.MaxInt}
}

// wrongCalls is calls that may not be.
func wrongCalls() []api.Call {
	var l []api.Call
	for _, op := range append(farNumbers(), 3, 4, 5) {
		l = append(l, api.Call{Op: op}, api.Call{Op: op, Key: 5, Val: 7})
	}
	for _, n := range edges()[1:] {
		for op := api.DeleteMin; op <= api.PeekMin; op++ {
			l = append(l, api.Call{Op: op, Key: n}, api.Call{Op: op, Val: n}, api.Call{Op: op, Key: n, Val: n})
		}
	}
	return l
}

// wrongAnswers is answers that may not be, of whatever call.
func wrongAnswers() []api.Answer {
	var l []api.Answer
	for _, kind := range append(farNumbers(), 4, 5, 6) {
		l = append(l, api.Answer{Kind: kind}, api.Answer{Kind: kind, Key: 5, Val: 7})
	}
	for _, n := range edges()[1:] {
		for _, kind := range []int{api.Done, api.Full, api.Empty} {
			l = append(l, api.Answer{Kind: kind, Key: n}, api.Answer{Kind: kind, Val: n}, api.Answer{Kind: kind, Key: n, Val: n})
		}
	}
	return l
}

// mayCall tells by chapter 9's words whether a call may be.
func mayCall(c api.Call) bool {
	return c.Op == 0 || (c.Op == 1 || c.Op == 2) && c.Key == 0 && c.Val == 0
}

// mayAnswer tells by chapter 9's words whether an answer may be.
func mayAnswer(a api.Answer) bool {
	return a.Kind == 2 || (a.Kind == 0 || a.Kind == 1 || a.Kind == 3) && a.Key == 0 && a.Val == 0
}

// model is what a bag should be: how often each pair is in it. It is kept in no order.
type model map[Pair]int

// modelOf is the model of these pairs.
func modelOf(l ...Pair) model {
	m := model{}
	for _, p := range l {
		m[p]++
	}
	return m
}

// take takes a pair out once.
func (m model) take(p Pair) bool {
	if m[p] == 0 {
		return false
	}
	m[p]--
	if m[p] == 0 {
		delete(m, p)
	}
	return true
}

// list is all pairs, sorted by both numbers as one.
func (m model) list() []Pair {
	var l []Pair
	for p, n := range m {
		l = append(l, slices.Repeat([]Pair{p}, n)...)
	}
	one := func(p Pair) uint64 { return uint64(p.Key)<<32 + uint64(p.Val) }
	slices.SortFunc(l, func(a, b Pair) int {
		switch {
		case one(a) < one(b):
			return -1
		case one(a) > one(b):
			return 1
		}
		return 0
	})
	return l
}

// isLeast tells whether a pair is in it and no key in it is below its key.
func (m model) isLeast(p Pair) bool {
	for q := range m {
		if q.Key < p.Key {
			return false
		}
	}
	return m[p] > 0
}

// do tells by the chapter's words whether a call with its answer is legal, and does it, if it is.
func (m model) do(c api.Call, a api.Answer) bool {
	if !mayCall(c) || !mayAnswer(a) {
		return false
	}
	put, told := Pair{c.Key, c.Val}, Pair{a.Key, a.Val}
	switch [2]int{c.Op, a.Kind} {
	case [2]int{0, 0}: // Insert, Done
		m[put]++
		return true
	case [2]int{0, 1}: // Insert, Full
		return true
	case [2]int{1, 2}: // DeleteMin, Pair
		return m.isLeast(told) && m.take(told)
	case [2]int{2, 2}: // PeekMin, Pair
		return m.isLeast(told)
	case [2]int{1, 3}, [2]int{2, 3}: // DeleteMin, PeekMin, Empty
		return len(m) == 0
	}
	return false
}

// run is what Run should answer.
func (m model) run(calls []api.Call) []api.Answer {
	var l []api.Answer
	for _, c := range calls {
		a := full
		pairs := m.list()
		switch {
		case !mayCall(c):
		case c.Op == 0:
			a = done
		case len(pairs) == 0:
			a = empty
		default:
			a = pair(pairs[0].Key, pairs[0].Val)
		}
		m.do(c, a)
		l = append(l, a)
	}
	return l
}

// of is a bag into which these pairs were put, one behind the other.
func of(l ...Pair) *Bag {
	b := new(Bag)
	for _, p := range l {
		b.Add(p)
	}
	return b
}

// least is what Least told.
type least struct {
	key uint32
	ok  bool
}

func leastOf(b *Bag) least { key, ok := b.Least(); return least{key, ok} }

// holds asks a bag in every way that changes nothing whether it has these pairs, which are in order.
func holds(t *testing.T, name string, b *Bag, want ...Pair) {
	t.Helper()
	wantLeast := least{}
	var mins []Pair
	if len(want) > 0 {
		wantLeast = least{want[0].Key, true}
	}
	for _, p := range want {
		if p.Key == want[0].Key && !slices.Contains(mins, p) {
			mins = append(mins, p)
		}
	}
	for range 2 {
		// Names are put together only where they are needed, since very many bags come here.
		switch {
		case b.Len() != len(want):
			t.Fatalf("%s, Len: %d, not %d", name, b.Len(), len(want))
		case leastOf(b) != wantLeast:
			t.Fatalf("%s, Least: %v, not %v", name, leastOf(b), wantLeast)
		case !slices.Equal(b.Mins(), mins):
			t.Fatalf("%s, Mins: %s, not %s", name, short(b.Mins()), short(mins))
		case !slices.Equal(b.List(), want):
			t.Fatalf("%s, List: %s, not %s", name, short(b.List()), short(want))
		case !slices.Equal(b.Copy().List(), want):
			t.Fatalf("%s, List of a Copy: %s, not %s", name, short(b.Copy().List()), short(want))
		}
	}
}

// kinds is a call of each operation.
func kinds() []api.Call { return []api.Call{insert(5, 7), insert(0, 0), deleteMin, peekMin} }

// answers is an answer of each kind, and several pairs.
func answers() []api.Answer {
	return []api.Answer{done, full, empty, pair(5, 7), pair(0, 0), pair(most, most)}
}

// The chapter's example, and what is left behind it.
func TestExample(t *testing.T) {
	calls := []api.Call{insert(5, 1), insert(3, 2), deleteMin}
	same(t, "Run", Run(calls), []api.Answer{{Kind: 0}, {Kind: 0}, {Kind: 2, Key: 3, Val: 2}})
	var b Bag
	for at, a := range Run(calls) {
		is(t, fmt.Sprint("Do of call ", at), b.Do(calls[at], a), true)
	}
	holds(t, "behind the calls", &b, Pair{5, 1})
}

// Promise 13.1: a zero bag has none, whatever is asked of it, and is ready for use.
func TestZero(t *testing.T) {
	var b Bag
	holds(t, "a zero bag", &b)
	is(t, "Least of none", leastOf(&b), least{0, false})
	for _, p := range edgePairs() {
		is(t, fmt.Sprint("Take of ", p), b.Take(p), false)
		is(t, fmt.Sprint("Do of a DeleteMin of ", p), b.Do(deleteMin, pair(p.Key, p.Val)), false)
		is(t, fmt.Sprint("Do of a PeekMin of ", p), b.Do(peekMin, pair(p.Key, p.Val)), false)
	}
	is(t, "Do of a DeleteMin that is Empty", b.Do(deleteMin, empty), true)
	is(t, "Do of a PeekMin that is Empty", b.Do(peekMin, empty), true)
	is(t, "Do of an Insert that is Full", b.Do(insert(1, 2), full), true)
	holds(t, "a zero bag behind what it was asked", &b)
	b.Add(Pair{})
	holds(t, "behind Add", &b, Pair{})
	other := new(Bag)
	is(t, "Do of an Insert", other.Do(insert(1, 2), done), true)
	holds(t, "behind Do", other, Pair{1, 2})
}

// Promise 13.1 and P1: a nil bag has none, and stays so; of it is legal what is legal of one without pairs.
func TestNil(t *testing.T) {
	var b *Bag
	holds(t, "a nil bag", b)
	for _, p := range append(edgePairs(), Pair{5, 7}, Pair{5, 7}) {
		b.Add(p)
		is(t, fmt.Sprint("Take of ", p), b.Take(p), false)
		is(t, fmt.Sprint("Do of an Insert of ", p), b.Do(insert(p.Key, p.Val), done), true)
		is(t, fmt.Sprint("Do of a PeekMin of ", p), b.Do(peekMin, pair(p.Key, p.Val)), false)
		is(t, fmt.Sprint("Do of a DeleteMin of ", p), b.Do(deleteMin, pair(p.Key, p.Val)), false)
	}
	holds(t, "a nil bag behind what was put in", b)
	for _, c := range append(wrongCalls(), kinds()...) {
		for _, a := range append(wrongAnswers(), answers()...) {
			if b.Do(c, a) != modelOf().do(c, a) {
				t.Fatalf("Do of %v, %v: %v", c, a, b.Do(c, a))
			}
		}
	}
	holds(t, "a nil bag behind all", b)
}

// Promise 13.1: pairs that are put in several times are taken out as often, and no more often.
func TestSeveralTimes(t *testing.T) {
	p, below, above := Pair{5, 7}, Pair{5, 6}, Pair{5, 8}
	b := of(p, above, p, below, p)
	holds(t, "a pair three times", b, below, p, p, p, above)
	for _, left := range [][]Pair{{below, p, p, above}, {below, p, above}, {below, above}} {
		is(t, "Take", b.Take(p), true)
		holds(t, "behind Take", b, left...)
	}
	for range 3 {
		is(t, "Take once too often", b.Take(p), false)
		holds(t, "behind Take once too often", b, below, above)
	}
	b.Add(p)
	holds(t, "put in again", b, below, p, above)
	for n := range 6 {
		alone := of(slices.Repeat([]Pair{p}, n)...)
		for left := n; left > 0; left-- {
			holds(t, "one pair alone", alone, slices.Repeat([]Pair{p}, left)...)
			is(t, "Take of one pair alone", alone.Take(p), true)
		}
		is(t, "Take of none", alone.Take(p), false)
		holds(t, "none", alone)
	}
}

// Promise 13.1: pairs of one key and unlike values, and of one value and unlike keys, are unlike.
func TestOneNumberAlike(t *testing.T) {
	values := of(Pair{3, 9}, Pair{3, 0}, Pair{3, most}, Pair{3, 3}, Pair{3, 1 << 31})
	holds(t, "one key", values, Pair{3, 0}, Pair{3, 3}, Pair{3, 9}, Pair{3, 1 << 31}, Pair{3, most})
	is(t, "Take of one of one key", values.Take(Pair{3, 3}), true)
	holds(t, "one key, behind Take", values, Pair{3, 0}, Pair{3, 9}, Pair{3, 1 << 31}, Pair{3, most})

	keys := of(Pair{9, 3}, Pair{0, 3}, Pair{most, 3}, Pair{3, 3}, Pair{1 << 31, 3})
	holds(t, "one value", keys, Pair{0, 3}, Pair{3, 3}, Pair{9, 3}, Pair{1 << 31, 3}, Pair{most, 3})
	is(t, "Take of one of one value", keys.Take(Pair{9, 3}), true)
	holds(t, "one value, behind Take", keys, Pair{0, 3}, Pair{3, 3}, Pair{1 << 31, 3}, Pair{most, 3})

	holds(t, "the two numbers of one turned round", of(Pair{2, 1}, Pair{1, 2}), Pair{1, 2}, Pair{2, 1})
	is(t, "Take of one turned round", of(Pair{2, 1}).Take(Pair{1, 2}), false)
}

// Promise 13.1: a pair isn't taken out that isn't in it, though its key is, or its value, or both of two others.
func TestTakeOfOneThatIsNotIn(t *testing.T) {
	l := []Pair{{2, 5}, {2, 9}, {4, 4}, {7, 1}}
	b := of(l...)
	for _, p := range []Pair{
		{2, 4}, {2, 6}, {2, 10}, {2, 0}, {4, 3}, {4, 5}, {7, 0}, {7, 2}, {7, most}, // the key is
		{0, 5}, {3, 9}, {5, 4}, {8, 1}, {most, 1}, // the value is
		{2, 1}, {4, 9}, {7, 5}, // both are
		{5, 2}, {9, 2}, {1, 7}, // turned round
		{0, 0}, {3, 3}, {5, 6}, {most, most}, // neither is
		{2 | 1<<31, 5}, {2, 5 | 1<<31}, {2 | 1<<16, 5}, {2 | 1<<8, 5}, {2, 5 | 1<<8}, // the lower bits are
	} {
		is(t, fmt.Sprint("Take of ", p), b.Take(p), false)
		holds(t, fmt.Sprint("behind Take of ", p), b, l...)
	}
	for _, p := range l {
		is(t, fmt.Sprint("Take of ", p), b.Copy().Take(p), true)
	}
}

// Promise 13.1: at whichever place a pair stands, taking it out leaves all others.
func TestTakeAtEachPlace(t *testing.T) {
	for n := range 9 {
		var l []Pair
		for i := range n {
			l = append(l, Pair{uint32(i / 3), uint32(10 - i + i/3*7)})
		}
		sorted := modelOf(l...).list()
		for at, p := range sorted {
			b := of(l...)
			is(t, fmt.Sprint("Take at ", at), b.Take(p), true)
			left := slices.Delete(slices.Clone(sorted), at, at+1)
			holds(t, fmt.Sprint("behind Take at ", at), b, left...)
			b.Add(p)
			holds(t, "put in again", b, sorted...)
			is(t, fmt.Sprint("Take again at ", at), b.Take(p), true)
			is(t, fmt.Sprint("Take once too often at ", at), b.Take(p), false)
			for _, q := range left {
				is(t, "Take of another one", b.Take(q), true)
			}
			holds(t, "behind all", b)
		}
	}
}

// orders is all orders of some pairs.
func orders(l []Pair) [][]Pair {
	if len(l) == 0 {
		return [][]Pair{nil}
	}
	var all [][]Pair
	for at, p := range l {
		for _, rest := range orders(slices.Delete(slices.Clone(l), at, at+1)) {
			all = append(all, append([]Pair{p}, rest...))
		}
	}
	return all
}

// Promise 13.1: in whichever order pairs are put in, and taken out, the same ones are there, by keys, then by values.
func TestAllOrders(t *testing.T) {
	sorted := []Pair{{0, most}, {1, 2}, {1, 2}, {1, 3}, {most, 0}}
	for _, in := range orders(sorted) {
		b := new(Bag)
		for n, p := range in {
			b.Add(p)
			holds(t, "behind Add", b, modelOf(in[:n+1]...).list()...)
		}
		holds(t, "behind all", b, sorted...)
	}
	for _, out := range orders(sorted) {
		b := of(sorted...)
		for n, p := range out {
			is(t, "Take", b.Take(p), true)
			holds(t, "behind Take", b, modelOf(out[n+1:]...).list()...)
		}
	}
}

// Promise 13.1: keys and values at the edges of 32 bits are in order as numbers without a sign.
func TestEdges(t *testing.T) {
	sorted := edgePairs()
	backward := slices.Clone(sorted)
	slices.Reverse(backward)
	mixed := make([]Pair, len(sorted))
	for at, p := range sorted {
		mixed[at*100%len(sorted)] = p
	}
	is(t, "how many pairs are mixed", len(modelOf(mixed...)), len(sorted))
	for _, l := range [][]Pair{sorted, backward, mixed} {
		b := of(l...)
		holds(t, "all pairs", b, sorted...)
		twice := of(slices.Concat(l, sorted)...)
		is(t, "how many there are, all twice", twice.Len(), 2*len(l))
		same(t, "the ones with the least key, all twice", twice.Mins(), sorted[:len(edges())])
		for n, p := range l {
			is(t, fmt.Sprint("Take of ", p), b.Take(p), true)
			is(t, fmt.Sprint("Take again of ", p), b.Take(p), false)
			is(t, "how many are left", b.Len(), len(l)-n-1)
		}
		holds(t, "behind all", b)
	}
}

// Promise 13.1: the least key, of none, of key 0, and of others as they come and go.
func TestLeast(t *testing.T) {
	is(t, "of none", leastOf(of()), least{0, false})
	for _, key := range edges() {
		is(t, fmt.Sprint("of key ", key), leastOf(of(Pair{key, 9})), least{key, true})
		is(t, fmt.Sprint("of key ", key, " and the greatest one"), leastOf(of(Pair{most, 0}, Pair{key, 9})), least{key, true})
		is(t, fmt.Sprint("of key ", key, " and the least one"), leastOf(of(Pair{key, 0}, Pair{0, 9})), least{0, true})
	}
	b := of(Pair{8, 1}, Pair{0, 6}, Pair{3, 0}, Pair{0, 5})
	for _, c := range []struct {
		out  Pair
		want least
	}{
		{Pair{0, 5}, least{0, true}}, {Pair{0, 6}, least{3, true}}, {Pair{8, 1}, least{3, true}}, {Pair{3, 0}, least{0, false}},
	} {
		is(t, "Take", b.Take(c.out), true)
		is(t, fmt.Sprint("Least behind Take of ", c.out), leastOf(b), c.want)
	}
}

// Promise 13.1: the pairs with the least key, each once, by values.
func TestMins(t *testing.T) {
	for _, c := range []struct {
		in, want []Pair
	}{
		{nil, nil},
		{[]Pair{{0, 0}}, []Pair{{0, 0}}},
		{[]Pair{{most, most}}, []Pair{{most, most}}},
		{[]Pair{{4, 9}, {4, 2}, {4, 5}}, []Pair{{4, 2}, {4, 5}, {4, 9}}},
		{[]Pair{{4, 9}, {4, 9}, {4, 9}}, []Pair{{4, 9}}},
		{[]Pair{{4, 9}, {4, 2}, {4, 9}, {4, 2}, {4, 9}}, []Pair{{4, 2}, {4, 9}}},
		{[]Pair{{5, 1}, {4, 9}, {5, 0}, {4, 2}, {6, 2}, {4, 2}}, []Pair{{4, 2}, {4, 9}}},
		{[]Pair{{1, 3}, {0, 3}, {2, 3}}, []Pair{{0, 3}}},
		{[]Pair{{0, 0}, {0, most}, {0, 1}, {1, 0}}, []Pair{{0, 0}, {0, 1}, {0, most}}},
		{[]Pair{{1, 0}, {most, 0}, {1, 0}, {1, most}}, []Pair{{1, 0}, {1, most}}},
	} {
		same(t, fmt.Sprint("Mins of ", c.in), of(c.in...).Mins(), c.want)
	}
	b := of(Pair{1, 1}, Pair{1, 1}, Pair{2, 8}, Pair{2, 7}, Pair{2, 8})
	b.Take(Pair{1, 1})
	same(t, "Mins behind one Take", b.Mins(), []Pair{{1, 1}})
	b.Take(Pair{1, 1})
	same(t, "Mins behind two", b.Mins(), []Pair{{2, 7}, {2, 8}})
	b.Take(Pair{2, 8})
	same(t, "Mins behind three", b.Mins(), []Pair{{2, 7}, {2, 8}})
	b.Take(Pair{2, 8})
	same(t, "Mins behind four", b.Mins(), []Pair{{2, 7}})
}

// Promise 13.1: List is all pairs by keys, then by values, each as often as it is.
func TestList(t *testing.T) {
	b := of(Pair{5, 1}, Pair{3, 9}, Pair{5, 0}, Pair{3, 9}, Pair{0, 4}, Pair{5, 1}, Pair{3, 2}, Pair{3, 9})
	same(t, "List", b.List(), []Pair{{0, 4}, {3, 2}, {3, 9}, {3, 9}, {3, 9}, {5, 0}, {5, 1}, {5, 1}})
	is(t, "Len", b.Len(), 8)
	is(t, "how many there are of none", len(of().List()), 0)
}

// Promise 13.1: a Copy has the same, and what is done to either one isn't seen in the other.
func TestCopy(t *testing.T) {
	for n := range 20 {
		var l []Pair
		for i := range n {
			l = append(l, Pair{uint32(i / 4), uint32(i % 4)})
		}
		b := of(l...)
		c := b.Copy()
		other := b.Copy()
		holds(t, "a Copy", c, l...)
		for i := range n {
			is(t, "Take of the Copy", c.Take(l[i]), true)
			c.Add(Pair{most, uint32(i)})
			holds(t, "behind Take and Add of its Copy", b, l...)
		}
		is(t, "how many the Copy has", c.Len(), n)
		was := c.List()
		for i := range n {
			is(t, "Do", b.Do(deleteMin, pair(l[i].Key, l[i].Val)), true)
			b.Add(Pair{most, most})
			holds(t, "a Copy behind what was done to the first one", c, was...)
		}
		same(t, "the first one", b.List(), slices.Repeat([]Pair{{most, most}}, n))
		holds(t, "a Copy to which nothing was done", other, l...)
		holds(t, "a Copy of a Copy", other.Copy().Copy(), l...)
	}
}

// Promise 13.1: Copies of a zero bag and of a nil one have none, and can be used as any zero one; the first one doesn't see it.
func TestCopyOfNone(t *testing.T) {
	for name, b := range map[string]*Bag{"a zero bag": new(Bag), "a nil bag": nil} {
		c := b.Copy()
		holds(t, "a Copy of "+name, c)
		is(t, "Do of the Copy of "+name, c.Do(insert(4, 5), done), true)
		c.Add(Pair{4, 4})
		holds(t, "a Copy of "+name+", behind Add", c, Pair{4, 4}, Pair{4, 5})
		holds(t, name+", behind Add of its Copy", b)
		b.Add(Pair{7, 7})
		holds(t, "a Copy of "+name+", behind Add of the first one", c, Pair{4, 4}, Pair{4, 5})
	}
	var b *Bag
	b.Copy().Add(Pair{1, 1})
	holds(t, "another Copy of a nil bag", b.Copy())
}

// doCase is a Do, and what it should answer and leave.
type doCase struct {
	name  string
	call  api.Call
	reply api.Answer
	legal bool
	left  []Pair
}

// tryDo does each case on a bag of its own with these pairs.
func tryDo(t *testing.T, in []Pair, cases []doCase) {
	t.Helper()
	for _, c := range cases {
		b := of(in...)
		m := modelOf(in...)
		is(t, "Do of "+c.name, b.Do(c.call, c.reply), c.legal)
		holds(t, "behind Do of "+c.name, b, c.left...)
		is(t, "what the test's model says of "+c.name, m.do(c.call, c.reply), c.legal)
		same(t, "what the test's model has behind "+c.name, m.list(), c.left)
	}
}

// Promise 13.2: each operation with each kind of answer on a bag that has pairs.
func TestDo(t *testing.T) {
	in := []Pair{{3, 2}, {3, 5}, {3, 5}, {6, 1}}
	tryDo(t, in, []doCase{
		{"an Insert with Done", insert(4, 4), done, true, []Pair{{3, 2}, {3, 5}, {3, 5}, {4, 4}, {6, 1}}},
		{"an Insert, with Done, of a pair that is in it", insert(3, 2), done, true, []Pair{{3, 2}, {3, 2}, {3, 5}, {3, 5}, {6, 1}}},
		{"an Insert, with Done, of the least pair that there is", insert(0, 0), done, true, []Pair{{0, 0}, {3, 2}, {3, 5}, {3, 5}, {6, 1}}},
		{"an Insert, with Done, of the greatest pair that there is", insert(most, most), done, true, []Pair{{3, 2}, {3, 5}, {3, 5}, {6, 1}, {most, most}}},
		{"an Insert with Full", insert(4, 4), full, true, in},
		{"an Insert, with Full, of a pair that is in it", insert(3, 2), full, true, in},
		{"an Insert with a pair", insert(4, 4), pair(4, 4), false, in},
		{"an Insert with the least pair", insert(3, 2), pair(3, 2), false, in},
		{"an Insert with a zero pair", insert(0, 0), pair(0, 0), false, in},
		{"an Insert with Empty", insert(4, 4), empty, false, in},

		{"a DeleteMin with the least pair", deleteMin, pair(3, 2), true, []Pair{{3, 5}, {3, 5}, {6, 1}}},
		{"a DeleteMin with another pair of the least key, which is in it twice", deleteMin, pair(3, 5), true, []Pair{{3, 2}, {3, 5}, {6, 1}}},
		{"a DeleteMin with a value between two of the least key", deleteMin, pair(3, 4), false, in},
		{"a DeleteMin with a value below all of the least key, which another key has", deleteMin, pair(3, 1), false, in},
		{"a DeleteMin with a value above all of the least key", deleteMin, pair(3, 6), false, in},
		{"a DeleteMin with a key below the least one", deleteMin, pair(2, 2), false, in},
		{"a DeleteMin with a zero pair", deleteMin, pair(0, 0), false, in},
		{"a DeleteMin with a key between two", deleteMin, pair(4, 2), false, in},
		{"a DeleteMin with one whose key isn't the least", deleteMin, pair(6, 1), false, in},
		{"a DeleteMin with a key above all", deleteMin, pair(7, 2), false, in},
		{"a DeleteMin with the greatest pair that there is", deleteMin, pair(most, most), false, in},
		{"a DeleteMin with Empty", deleteMin, empty, false, in},
		{"a DeleteMin with Done", deleteMin, done, false, in},
		{"a DeleteMin with Full", deleteMin, full, false, in},

		{"a PeekMin with the least pair", peekMin, pair(3, 2), true, in},
		{"a PeekMin with another pair of the least key, which is in it twice", peekMin, pair(3, 5), true, in},
		{"a PeekMin with a value between two of the least key", peekMin, pair(3, 4), false, in},
		{"a PeekMin with a value below all of the least key", peekMin, pair(3, 1), false, in},
		{"a PeekMin with a value above all of the least key", peekMin, pair(3, 6), false, in},
		{"a PeekMin with a key below the least one", peekMin, pair(2, 2), false, in},
		{"a PeekMin with a zero pair", peekMin, pair(0, 0), false, in},
		{"a PeekMin with a key between two", peekMin, pair(4, 2), false, in},
		{"a PeekMin with one whose key isn't the least", peekMin, pair(6, 1), false, in},
		{"a PeekMin with a key above all", peekMin, pair(7, 2), false, in},
		{"a PeekMin with Empty", peekMin, empty, false, in},
		{"a PeekMin with Done", peekMin, done, false, in},
		{"a PeekMin with Full", peekMin, full, false, in},
	})
}

// Promise 13.2: each operation with each kind of answer on a bag without pairs.
func TestDoOfNone(t *testing.T) {
	tryDo(t, nil, []doCase{
		{"an Insert with Done", insert(4, 4), done, true, []Pair{{4, 4}}},
		{"an Insert of a zero pair with Done", insert(0, 0), done, true, []Pair{{0, 0}}},
		{"an Insert with Full", insert(4, 4), full, true, nil},
		{"an Insert with a pair", insert(4, 4), pair(4, 4), false, nil},
		{"an Insert with Empty", insert(4, 4), empty, false, nil},
		{"a DeleteMin with a zero pair", deleteMin, pair(0, 0), false, nil},
		{"a DeleteMin with a pair", deleteMin, pair(4, 4), false, nil},
		{"a DeleteMin with Empty", deleteMin, empty, true, nil},
		{"a DeleteMin with Done", deleteMin, done, false, nil},
		{"a DeleteMin with Full", deleteMin, full, false, nil},
		{"a PeekMin with a zero pair", peekMin, pair(0, 0), false, nil},
		{"a PeekMin with a pair", peekMin, pair(4, 4), false, nil},
		{"a PeekMin with Empty", peekMin, empty, true, nil},
		{"a PeekMin with Done", peekMin, done, false, nil},
		{"a PeekMin with Full", peekMin, full, false, nil},
	})
}

// Promise 13.2: pairs at the edges are put in, looked at, and taken out; a zero pair is told from none.
func TestDoAtTheEdges(t *testing.T) {
	var b Bag
	for _, p := range edgePairs() {
		is(t, "Do of an Insert", b.Do(insert(p.Key, p.Val), done), true)
	}
	holds(t, "behind the Inserts", &b, edgePairs()...)
	for _, p := range edgePairs() {
		is(t, "Do of a PeekMin", b.Do(peekMin, pair(p.Key, p.Val)), true)
		is(t, "Do of a DeleteMin with Empty", b.Do(deleteMin, empty), false)
		is(t, "Do of a DeleteMin", b.Do(deleteMin, pair(p.Key, p.Val)), true)
		is(t, "Do of a PeekMin behind it", b.Do(peekMin, pair(p.Key, p.Val)), false)
	}
	is(t, "Do of a DeleteMin with Empty behind all", b.Do(deleteMin, empty), true)
	holds(t, "behind all", &b)
	for _, p := range edgePairs() {
		one := of(p)
		is(t, "Do of a PeekMin with Empty", one.Do(peekMin, empty), false)
		is(t, "Do of a PeekMin with another key", one.Do(peekMin, pair(p.Key^1<<31, p.Val)), false)
		is(t, "Do of a DeleteMin with another value", one.Do(deleteMin, pair(p.Key, p.Val^1<<31)), false)
		is(t, "Do of a DeleteMin", one.Do(deleteMin, pair(p.Key, p.Val)), true)
		holds(t, "behind it", one)
	}
}

// Promise 13.2: a PeekMin leaves its pair there, however often; a DeleteMin takes it out once.
func TestPeekLeavesAndDeleteTakes(t *testing.T) {
	b := of(Pair{2, 2}, Pair{2, 2}, Pair{1, 9}, Pair{2, 1})
	for range 5 {
		is(t, "Do of a PeekMin", b.Do(peekMin, pair(1, 9)), true)
		holds(t, "behind a PeekMin", b, Pair{1, 9}, Pair{2, 1}, Pair{2, 2}, Pair{2, 2})
	}
	is(t, "Do of a DeleteMin", b.Do(deleteMin, pair(1, 9)), true)
	is(t, "Do of another one like it", b.Do(deleteMin, pair(1, 9)), false)
	is(t, "Do of a PeekMin like it", b.Do(peekMin, pair(1, 9)), false)
	is(t, "Do of a DeleteMin of one that is in it twice", b.Do(deleteMin, pair(2, 2)), true)
	holds(t, "behind one", b, Pair{2, 1}, Pair{2, 2})
	is(t, "Do of a DeleteMin of it again", b.Do(deleteMin, pair(2, 2)), true)
	is(t, "Do of a DeleteMin of it once too often", b.Do(deleteMin, pair(2, 2)), false)
	holds(t, "behind both", b, Pair{2, 1})
}

// Promise 13.2: with a call or an answer that may not be nothing is legal, and nothing changes, though by its bits or its other numbers it would be.
func TestDoOfWhatMayNotBe(t *testing.T) {
	for _, in := range [][]Pair{nil, {{5, 7}}, {{0, 0}}, {{0, 0}, {5, 7}, {5, 7}}, {{5, 7}, {9, 1}}} {
		b := of(in...)
		for _, c := range wrongCalls() {
			is(t, fmt.Sprint("whether the test's model takes ", c), mayCall(c), false)
			for _, a := range append(wrongAnswers(), answers()...) {
				if b.Do(c, a) {
					t.Fatalf("Do of %v, %v is legal", c, a)
				}
			}
		}
		for _, a := range wrongAnswers() {
			is(t, fmt.Sprint("whether the test's model takes ", a), mayAnswer(a), false)
			for _, c := range kinds() {
				if b.Do(c, a) {
					t.Fatalf("Do of %v, %v is legal", c, a)
				}
			}
		}
		holds(t, "behind what may not be", b, in...)
	}
	for _, n := range edges()[1:] {
		for _, c := range []struct {
			call  api.Call
			reply api.Answer
		}{
			{api.Call{Op: 1, Key: n}, pair(n, n)}, {api.Call{Op: 1, Val: n}, pair(n, n)}, {api.Call{Op: 1, Key: n, Val: n}, pair(n, n)},
			{api.Call{Op: 2, Key: n}, pair(n, n)}, {api.Call{Op: 2, Val: n}, pair(n, n)}, {api.Call{Op: 2, Key: n, Val: n}, pair(n, n)},
			{insert(n, n), api.Answer{Kind: 0, Key: n}}, {insert(n, n), api.Answer{Kind: 0, Val: n}}, {insert(n, n), api.Answer{Kind: 0, Key: n, Val: n}},
			{insert(n, n), api.Answer{Kind: 1, Key: n}}, {insert(n, n), api.Answer{Kind: 1, Val: n}}, {insert(n, n), api.Answer{Kind: 1, Key: n, Val: n}},
		} {
			b := of(Pair{n, n})
			is(t, fmt.Sprint("Do of ", c.call, ", ", c.reply), b.Do(c.call, c.reply), false)
			holds(t, "behind it", b, Pair{n, n})
		}
		for _, c := range []api.Call{deleteMin, peekMin} {
			for _, a := range []api.Answer{{Kind: 3, Key: n}, {Kind: 3, Val: n}, {Kind: 3, Key: n, Val: n}} {
				is(t, fmt.Sprint("Do of ", c, ", ", a), of().Do(c, a), false)
			}
		}
	}
}

// few is pairs of few keys and values.
func few() []Pair { return []Pair{{0, 0}, {0, 1}, {1, 0}, {1, 1}, {2, 0}} }

// fewBags is all bags of up to so many of those pairs.
func fewBags(n int) [][]Pair {
	all := [][]Pair{nil}
	for last := all; n > 0; n-- {
		var longer [][]Pair
		for _, l := range last {
			for _, p := range few() {
				longer = append(longer, append(slices.Clip(l), p))
			}
		}
		all = append(all, longer...)
		last = longer
	}
	return all
}

// Promises 13.1 and 13.2: all small bags, asked all there is to ask of few pairs, against the model.
func TestAllSmallBags(t *testing.T) {
	calls := []api.Call{deleteMin, peekMin, {Op: 1, Key: 1}, {Op: 2, Val: 1}, {Op: 3}, {Op: -1}}
	replies := []api.Answer{done, full, empty, {Kind: 0, Key: 1}, {Kind: 1, Val: 1}, {Kind: 3, Key: 1}, {Kind: 4}, {Kind: -1}}
	for _, p := range append(few(), Pair{2, 1}, Pair{3, 0}) {
		calls = append(calls, insert(p.Key, p.Val))
		replies = append(replies, pair(p.Key, p.Val))
	}
	for _, in := range fewBags(4) {
		b := of(in...)
		want := modelOf(in...).list()
		holds(t, "a small bag", b, want...)
		for _, c := range calls {
			for _, a := range replies {
				m, did := modelOf(in...), b.Copy()
				if got, want := did.Do(c, a), m.do(c, a); got != want {
					t.Fatalf("Do of %v, %v on %v: %v, not %v", c, a, in, got, want)
				}
				if got := did.List(); !slices.Equal(got, m.list()) {
					t.Fatalf("behind Do of %v, %v on %v: %v, not %v", c, a, in, got, m.list())
				}
			}
		}
		for _, p := range append(few(), Pair{2, 1}, Pair{3, 0}) {
			m, took := modelOf(in...), b.Copy()
			is(t, "Take", took.Take(p), m.take(p))
			holds(t, "behind Take", took, m.list()...)
		}
		holds(t, "a small bag behind what was done to its Copies", b, want...)
	}
}

// tryRun holds what Run answers against the model, and asks that it is legal, call by call, wherever the calls may be.
func tryRun(t *testing.T, calls []api.Call) []api.Answer {
	t.Helper()
	got := Run(calls)
	if want := modelOf().run(calls); !slices.Equal(got, want) {
		t.Fatalf("Run of %s: %s, not %s", short(calls), short(got), short(want))
	}
	var b Bag
	m := model{}
	for at, c := range calls {
		before := b.Len()
		legal := b.Do(c, got[at])
		if legal != mayCall(c) || m.do(c, got[at]) != legal {
			t.Fatalf("Do of call %d of %s, answered %v: %v", at, short(calls), got[at], legal)
		}
		if !legal && (got[at] != full || b.Len() != before) {
			t.Fatalf("call %d of %s, which may not be: %v", at, short(calls), got[at])
		}
	}
	return got
}

// Promises 13.2 and 13.3: Run of ordinary calls, by hand.
func TestRun(t *testing.T) {
	for _, c := range []struct {
		name  string
		calls []api.Call
		want  []api.Answer
	}{
		{"no calls", nil, nil},
		{"Inserts alone", []api.Call{insert(5, 1), insert(3, 2), insert(5, 1), insert(0, 0), insert(most, most)}, []api.Answer{done, done, done, done, done}},
		{"a DeleteMin of none", []api.Call{deleteMin}, []api.Answer{empty}},
		{"a PeekMin of none", []api.Call{peekMin}, []api.Answer{empty}},
		{"each of none", []api.Call{peekMin, deleteMin, deleteMin, peekMin}, []api.Answer{empty, empty, empty, empty}},
		{"a zero pair", []api.Call{insert(0, 0), peekMin, deleteMin, peekMin, deleteMin}, []api.Answer{done, pair(0, 0), pair(0, 0), empty, empty}},
		{"the greatest pair", []api.Call{insert(most, most), deleteMin, deleteMin}, []api.Answer{done, pair(most, most), empty}},
		{"keys in order", []api.Call{insert(5, 1), insert(3, 2), insert(9, 0), deleteMin, deleteMin, deleteMin, deleteMin},
			[]api.Answer{done, done, done, pair(3, 2), pair(5, 1), pair(9, 0), empty}},
		{"several pairs of the least key", []api.Call{insert(4, 9), insert(4, 2), insert(4, 5), peekMin, deleteMin, deleteMin, peekMin, deleteMin, peekMin},
			[]api.Answer{done, done, done, pair(4, 2), pair(4, 2), pair(4, 5), pair(4, 9), pair(4, 9), empty}},
		{"a pair several times", []api.Call{insert(4, 9), insert(4, 9), deleteMin, peekMin, deleteMin, deleteMin},
			[]api.Answer{done, done, pair(4, 9), pair(4, 9), pair(4, 9), empty}},
		{"a PeekMin leaves its pair", []api.Call{insert(4, 9), peekMin, peekMin, insert(3, 9), peekMin, deleteMin, peekMin},
			[]api.Answer{done, pair(4, 9), pair(4, 9), done, pair(3, 9), pair(3, 9), pair(4, 9)}},
		{"put in again behind Empty", []api.Call{insert(1, 1), deleteMin, deleteMin, insert(2, 2), deleteMin, deleteMin},
			[]api.Answer{done, pair(1, 1), empty, done, pair(2, 2), empty}},
		{"keys without a sign", []api.Call{insert(1<<31, 0), insert(1<<31-1, most), deleteMin, deleteMin}, []api.Answer{done, done, pair(1<<31-1, most), pair(1<<31, 0)}},
		{"values without a sign", []api.Call{insert(7, 1<<31), insert(7, 1<<31-1), deleteMin, deleteMin}, []api.Answer{done, done, pair(7, 1<<31-1), pair(7, 1<<31)}},
		{"calls that may not be among others", []api.Call{{Op: 3, Key: 1, Val: 1}, insert(5, 7), {Op: 1, Key: 5, Val: 7}, {Op: 2, Val: 7}, {Op: -1}, peekMin, {Op: 1, Key: 1}, deleteMin, {Op: 2, Key: 1}, deleteMin},
			[]api.Answer{full, done, full, full, full, pair(5, 7), full, pair(5, 7), full, empty}},
	} {
		same(t, "Run of "+c.name, tryRun(t, c.calls), c.want)
	}
	is(t, "how many answers there are of an empty list", len(Run([]api.Call{})), 0)
}

// Promise 13.2: each call that may not be is Full, and nothing is done, ahead of others, behind them, and alone.
func TestRunOfWrongCalls(t *testing.T) {
	wrong := wrongCalls()
	same(t, "Run of wrong calls alone", tryRun(t, wrong), slices.Repeat([]api.Answer{full}, len(wrong)))
	for _, c := range wrong {
		got := tryRun(t, []api.Call{c, peekMin, insert(9, 1), c, c, peekMin, insert(2, 2), c, deleteMin, c, deleteMin, c, deleteMin})
		same(t, fmt.Sprint("Run with ", c), got, []api.Answer{full, empty, done, full, full, pair(9, 1), done, full, pair(2, 2), full, pair(9, 1), full, empty})
	}
}

// Promises 13.2 and 13.3: Run of all rows of up to six calls of few pairs.
func TestRunOfAllRows(t *testing.T) {
	few := []api.Call{insert(0, 0), insert(1, 1), insert(1, 0), deleteMin, peekMin, {Op: 1, Val: 1}}
	rows := [][]api.Call{nil}
	for range 6 {
		var longer [][]api.Call
		for _, row := range rows {
			for _, c := range few {
				longer = append(longer, append(slices.Clip(row), c))
			}
		}
		rows = longer
		for _, row := range rows {
			tryRun(t, row)
		}
	}
}

// Promise 13.3: also another answer than Run's is legal, where there are several pairs of the least key, and no answer that isn't of one of them is.
func TestOtherAnswers(t *testing.T) {
	calls := []api.Call{insert(4, 9), insert(4, 2), insert(6, 1), deleteMin}
	told := Run(calls)
	for _, p := range edgePairs() {
		b := of(Pair{4, 9}, Pair{4, 2}, Pair{6, 1})
		is(t, fmt.Sprint("Do with ", p), b.Do(deleteMin, pair(p.Key, p.Val)), false)
	}
	b := of(Pair{4, 9}, Pair{4, 2}, Pair{6, 1})
	is(t, "the other one of the least key", b.Copy().Do(deleteMin, pair(4, 9)), true)
	is(t, "what Run answers", b.Do(deleteMin, told[3]), true)
	holds(t, "behind it", b, Pair{4, 9}, Pair{6, 1})
}

// chance tells numbers that are as good as chance, and always the same.
type chance uint64

func (c *chance) next(n int) int {
	*c = *c*2862933555777941757 + 3037000493
	return int(uint64(*c) >> 33 % uint64(n))
}

// number is one of 32 bits: one of few, or one at the edges, or any.
func (c *chance) number() uint32 {
	l := edges()
	switch c.next(3) {
	case 0:
		return uint32(c.next(3))
	case 1:
		return l[c.next(len(l))]
	}
	return uint32(c.next(1<<31))<<1 + uint32(c.next(2))
}

// call is one that may be, an Insert so many times of ten.
func (c *chance) call(inserts int) api.Call {
	if c.next(10) < inserts {
		return insert(c.number(), c.number())
	}
	return []api.Call{deleteMin, deleteMin, peekMin}[c.next(3)]
}

// Promises 13.2 and 13.3: Run of long rows of calls, some of which may not be, against the model.
func TestRunOfLongRows(t *testing.T) {
	k := chance(13)
	wrong := wrongCalls()
	for round := range 60 {
		var calls []api.Call
		for range 300 {
			c := k.call(3 + round%5)
			if k.next(12) == 0 {
				c = wrong[k.next(len(wrong))]
			}
			calls = append(calls, c)
		}
		tryRun(t, calls)
	}
}

// Promises 13.1 and 13.2: long rows of what can be done to a bag, and its Copies, against the model.
func TestLongRowsOfDeeds(t *testing.T) {
	k := chance(131)
	for round := range 60 {
		b, m := new(Bag), model{}
		for range 200 {
			p := Pair{k.number(), k.number()}
			if l := m.list(); len(l) > 0 && k.next(3) > 0 {
				p = l[k.next(len(l))]
			}
			switch k.next(5 + round%3) {
			case 0:
				is(t, "Take", b.Take(p), m.take(p))
			case 1:
				is(t, "Do of a DeleteMin", b.Do(deleteMin, pair(p.Key, p.Val)), m.do(deleteMin, pair(p.Key, p.Val)))
			case 2:
				is(t, "Do of a PeekMin", b.Do(peekMin, pair(p.Key, p.Val)), m.do(peekMin, pair(p.Key, p.Val)))
			case 3:
				old := b
				b = b.Copy()
				old.Add(p)
			default:
				b.Add(p)
				m[p]++
			}
			holds(t, "behind a deed", b, m.list()...)
		}
	}
}

// Promise P1: of very many pairs and calls there are answers, too.
func TestVeryMany(t *testing.T) {
	const n = 50_000
	var up, down, alike []api.Call
	for i := range n {
		up = append(up, insert(uint32(i), 1))
		down = append(down, insert(uint32(n-1-i), 1))
		alike = append(alike, insert(7, 7))
	}
	for name, in := range map[string][]api.Call{"rising keys": up, "falling keys": down, "one pair": alike} {
		got := Run(slices.Concat(in, slices.Repeat([]api.Call{deleteMin}, n+1)))
		is(t, "how many answers there are of "+name, len(got), 2*n+1)
		is(t, "the last Insert of "+name, got[n-1], done)
		is(t, "the DeleteMin behind all of "+name, got[2*n], empty)
		for i, a := range got[n : 2*n] {
			want := pair(uint32(i), 1)
			if name == "one pair" {
				want = pair(7, 7)
			}
			is(t, "a DeleteMin of "+name, a, want)
		}
	}
	var turns []api.Call
	for i := range n {
		turns = append(turns, insert(uint32(i), 0), peekMin, deleteMin)
	}
	for i, a := range Run(turns) {
		is(t, "an answer of turns", a, []api.Answer{done, pair(uint32(i/3), 0), pair(uint32(i/3), 0)}[i%3])
	}
}

// spoil changes all of a list, and what lies behind its end.
func spoil[T any](l []T, x T) {
	all := l[:cap(l)]
	for i := range all {
		all[i] = x
	}
}

// What List and Mins tell is new each time: changed or put behind, it plays no part in what is told or done later.
func TestToldLists(t *testing.T) {
	want := []Pair{{1, 1}, {1, 1}, {1, 2}, {3, 0}, {4, 4}}
	mins := []Pair{{1, 1}, {1, 2}}
	b := of(want...)
	b.Add(Pair{0, 0})
	b.Take(Pair{0, 0})
	for range 3 {
		list, otherList := b.List(), b.List()
		least, otherLeast := b.Mins(), b.Mins()
		c := b.Copy()
		spoil(list, Pair{9, 9})
		spoil(least, Pair{8, 8})
		same(t, "another List", otherList, want)
		same(t, "another Mins", otherLeast, mins)
		holds(t, "behind lists that were changed", b, want...)
		holds(t, "a Copy behind them", c, want...)
		longer, longerLeast := append(otherList, Pair{7, 7}), append(otherLeast, Pair{7, 7})
		is(t, "how long the longer lists are", len(longer)+len(longerLeast), 9)
		holds(t, "behind lists that were put behind", b, want...)
		told := b.List()
		b.Add(Pair{2, 2})
		b.Take(Pair{1, 1})
		same(t, "a List ahead of what is done", told, want)
		same(t, "a Mins ahead of what is done", otherLeast, mins)
		spoil(told, Pair{0, 0})
		spoil(otherLeast, Pair{0, 0})
		holds(t, "behind what was done", b, Pair{1, 1}, Pair{1, 2}, Pair{2, 2}, Pair{3, 0}, Pair{4, 4})
		b.Add(Pair{1, 1})
		b.Take(Pair{2, 2})
	}
	for _, none := range []*Bag{nil, {}, of(Pair{1, 1})} {
		none.Take(Pair{1, 1})
		spoil(append(none.List(), Pair{5, 5}), Pair{5, 5})
		spoil(append(none.Mins(), Pair{5, 5}), Pair{5, 5})
		holds(t, "none, behind lists that were put behind", none)
	}
}

// Calls that were handed in stay as they are, and answers play no part in others.
func TestHandedAndToldRows(t *testing.T) {
	calls := []api.Call{insert(5, 1), peekMin, insert(3, 2), {Op: 7}, deleteMin, deleteMin, deleteMin}
	want := []api.Answer{done, pair(5, 1), done, full, pair(3, 2), pair(5, 1), empty}
	handed := append(make([]api.Call, 0, 50), calls...)
	behind := handed[:cap(handed)]
	behind[len(calls)] = insert(8, 8)
	first, second := Run(handed), Run(handed)
	same(t, "the calls behind Run", handed, calls)
	is(t, "the call behind their end", behind[len(calls)], insert(8, 8))
	spoil(first, pair(9, 9))
	same(t, "other answers", second, want)
	same(t, "the calls behind a change of the answers", handed, calls)
	same(t, "later answers", Run(handed), want)
	spoil(handed, peekMin)
	same(t, "answers behind a change of the calls", second, want)
	same(t, "answers of the changed calls", Run(handed), slices.Repeat([]api.Answer{empty}, len(calls)))
	same(t, "answers of a part of the calls", Run(calls[2:5]), []api.Answer{done, full, pair(3, 2)})
	is(t, "how many answers there are, put behind", len(append(Run(calls), done))+len(append(Run(nil), done)), 9)
	same(t, "answers behind that", Run(calls), want)
}

// One bag plays no part in another one, nor does a Run.
func TestBagsApart(t *testing.T) {
	first, second := of(Pair{1, 1}, Pair{2, 2}), of(Pair{1, 1})
	for range 3 {
		tryRun(t, []api.Call{insert(0, 0), deleteMin, deleteMin, insert(9, 9)})
		first.Add(Pair{0, 5})
		is(t, "Take of the other bag's pair", second.Take(Pair{0, 5}), false)
		is(t, "Take of the other bag's pair", second.Take(Pair{2, 2}), false)
		is(t, "Do of the other bag's pair", second.Do(deleteMin, pair(0, 5)), false)
		holds(t, "the second one", second, Pair{1, 1})
		holds(t, "the first one", first, Pair{0, 5}, Pair{1, 1}, Pair{2, 2})
		is(t, "Take", first.Take(Pair{0, 5}), true)
	}
}

// Promise 13.2: what layer 9 says of calls and answers holds here: what doesn't fit isn't legal, and of what fits something is.
func TestIsOfTheLayerBelow(t *testing.T) {
	for _, c := range append(wrongCalls(), kinds()...) {
		for _, a := range append(wrongAnswers(), answers()...) {
			somewhere := of().Do(c, a) || of(Pair{a.Key, a.Val}).Do(c, a)
			if somewhere != call.Fits(c, a) {
				t.Fatalf("Do of %v, %v: %v", c, a, somewhere)
			}
		}
		is(t, fmt.Sprint("whether Run does ", c), Run([]api.Call{c})[0] != full, call.Right(c))
	}
}
