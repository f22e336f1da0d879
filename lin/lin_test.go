package lin

import (
	"fmt"
	"math"
	"slices"
	"testing"
	"time"

	"jostle/api"
	"jostle/bag"
	"jostle/hist"
	"jostle/real"
)

// is holds what was told against what should be. It ends the test, since what is wrong at all is mostly wrong of many lists.
func is[T comparable](t *testing.T, name string, got, want T) {
	t.Helper()
	if got != want {
		t.Fatalf("%s: %v, not %v", name, got, want)
	}
}

// same holds a list that was told against the one that should be; a nil one is as an empty one.
func same[T comparable](t *testing.T, name string, got, want []T) {
	t.Helper()
	if !slices.Equal(got, want) {
		t.Fatalf("%s: %v, not %v", name, got, want)
	}
}

// chance is numbers that look like chance, and are the same each time.
type chance uint64

// next is the next one, below n.
func (c *chance) next(n int) int {
	*c = *c*6364136223846793005 + 1442695040888963407
	return int(uint64(*c)>>33) % n
}

// oneOf is one of several things.
func oneOf[T any](c *chance, l ...T) T { return l[c.next(len(l))] }

// shuffle puts a list into an order that looks like chance.
func shuffle[T any](l []T, c *chance) {
	for at := range l {
		other := c.next(at + 1)
		l[at], l[other] = l[other], l[at]
	}
}

// never is where operations end that aren't answered.
const never = -1

// insert is the call that puts a pair in.
func insert(key, val uint32) api.Call { return api.Call{Op: api.Insert, Key: key, Val: val} }

// pair is the answer that is a pair.
func pair(key, val uint32) api.Answer { return api.Answer{Kind: api.Pair, Key: key, Val: val} }

// The calls and the answers that have no numbers.
var (
	deleteMin = api.Call{Op: api.DeleteMin}
	peekMin   = api.Call{Op: api.PeekMin}
	done      = api.Answer{Kind: api.Done}
	full      = api.Answer{Kind: api.Full}
	empty     = api.Answer{Kind: api.Empty}
)

// oper is an operation from one place to another one; without an answer, if it isn't answered.
func oper(c api.Call, a api.Answer, from, to int) api.Oper {
	if to < 0 {
		a = api.Answer{}
	}
	return api.Oper{Call: c, Answer: a, From: from, To: to}
}

// inserting is an Insert of a pair that is answered Done, if at all.
func inserting(key, val uint32, from, to int) api.Oper { return oper(insert(key, val), done, from, to) }

// refused is an Insert of a pair that is answered Full.
func refused(key, val uint32, from, to int) api.Oper { return oper(insert(key, val), full, from, to) }

// taking is a DeleteMin that is answered a pair.
func taking(key, val uint32, from, to int) api.Oper { return oper(deleteMin, pair(key, val), from, to) }

// looking is a PeekMin that is answered a pair.
func looking(key, val uint32, from, to int) api.Oper { return oper(peekMin, pair(key, val), from, to) }

// missing is a DeleteMin that is answered Empty, if at all.
func missing(from, to int) api.Oper { return oper(deleteMin, empty, from, to) }

// peeking is a PeekMin that is answered Empty, if at all.
func peeking(from, to int) api.Oper { return oper(peekMin, empty, from, to) }

// row is operations as they are, but one behind the other.
func row(l ...api.Oper) []api.Oper {
	for at := range l {
		l[at].From, l[at].To = 2*at, 2*at+1
	}
	return l
}

// stuff is pairs, in no order.
type stuff [][2]uint32

// without is the pairs but the one at a place.
func (s stuff) without(at int) stuff { return slices.Delete(slices.Clone(s), at, at+1) }

// with is the pairs and one more.
func (s stuff) with(key, val uint32) stuff { return append(slices.Clip(s), [2]uint32{key, val}) }

// fits tells by chapter 9's words whether a call may be answered so.
func fits(c api.Call, a api.Answer) bool {
	bareCall := c.Key == 0 && c.Val == 0
	bareAnswer := a.Key == 0 && a.Val == 0
	switch c.Op {
	case 0:
		return (a.Kind == 0 || a.Kind == 1) && bareAnswer
	case 1, 2:
		return bareCall && (a.Kind == 2 || a.Kind == 3 && bareAnswer)
	}
	return false
}

// behind is by chapter 13's words what pairs are behind a call with its answer, and whether it is legal.
func (s stuff) behind(c api.Call, a api.Answer) (stuff, bool) {
	if !fits(c, a) {
		return nil, false
	}
	switch a.Kind {
	case 0:
		return s.with(c.Key, c.Val), true
	case 1:
		return s, true
	case 3:
		return s, len(s) == 0
	}
	for _, p := range s {
		if p[0] < a.Key {
			return nil, false
		}
	}
	at := slices.Index(s, [2]uint32{a.Key, a.Val})
	if at < 0 {
		return nil, false
	}
	if c.Op == 1 {
		return s.without(at), true
	}
	return s, true
}

// all is all that pairs may be behind an operation: if it isn't answered, with whatever answer.
func (s stuff) all(o api.Oper) []stuff {
	answers := []api.Answer{o.Answer}
	if o.To < 0 {
		answers = []api.Answer{done, full, empty}
		for _, p := range s {
			answers = append(answers, pair(p[0], p[1]))
		}
	}
	var l []stuff
	for _, a := range answers {
		if next, ok := s.behind(o.Call, a); ok {
			l = append(l, next)
		}
	}
	return l
}

// ahead tells by chapter 14's words whether one operation is ahead of another one.
func ahead(l []api.Oper, a, b int) bool { return a != b && !(l[a].To < 0) && l[a].To < l[b].From }

// mayBe tells by chapter 14's words whether an order may be.
func mayBe(l []api.Oper, order []int) bool {
	times := map[int]int{}
	for _, at := range order {
		times[at]++
		if at < 0 || at >= len(l) || times[at] > 1 {
			return false
		}
	}
	for at, o := range l {
		if o.To >= 0 && times[at] == 0 {
			return false
		}
	}
	for back := range order {
		for front := range back {
			if ahead(l, order[back], order[front]) {
				return false
			}
		}
	}
	return true
}

// goes tells whether operations are legal in an order, from these pairs on, each one that isn't answered with some answer.
func goes(l []api.Oper, order []int, s stuff) bool {
	if len(order) == 0 {
		return true
	}
	return slices.ContainsFunc(s.all(l[order[0]]), func(next stuff) bool { return goes(l, order[1:], next) })
}

// known tells by the chapter's words whether there is an order of operations: all are taken, one by one, as far as they are legal.
func known(l []api.Oper) bool {
	var order []int
	var grow func(stuff) bool
	grow = func(s stuff) bool {
		if mayBe(l, order) {
			return true
		}
		for at := range l {
			if slices.Contains(order, at) || slices.ContainsFunc(order, func(front int) bool { return ahead(l, at, front) }) {
				continue
			}
			order = append(order, at)
			if slices.ContainsFunc(s.all(l[at]), grow) {
				return true
			}
			order = order[:len(order)-1]
		}
		return false
	}
	return grow(nil)
}

// knownLong is known, of longer lists: what was tried with the same pairs left, and the same done, isn't tried again.
func knownLong(l []api.Oper) bool {
	tried := map[string]bool{}
	in := make([]bool, len(l))
	var grow func(stuff) bool
	grow = func(s stuff) bool {
		s = slices.Clone(s)
		slices.SortFunc(s, func(p, q [2]uint32) int { return slices.Compare(p[:], q[:]) })
		name := fmt.Sprint(in, s)
		if tried[name] {
			return false
		}
		tried[name] = true
		whole := true
		for at, o := range l {
			whole = whole && (in[at] || o.To < 0)
		}
		if whole {
			return true
		}
		for at := range l {
			waits := in[at]
			for other := range l {
				waits = waits || !in[other] && ahead(l, other, at)
			}
			if waits {
				continue
			}
			in[at] = true
			if slices.ContainsFunc(s.all(l[at]), grow) {
				return true
			}
			in[at] = false
		}
		return false
	}
	return grow(nil)
}

// verdict asks Check of operations, and holds the order that it tells against the chapter's words.
func verdict(t *testing.T, name string, l []api.Oper, want bool) []int {
	t.Helper()
	was := slices.Clone(l)
	order, ok := Check(l)
	switch {
	case ok != want:
		t.Fatalf("%s, Check of %v: %v, not %v", name, l, ok, want)
	case !ok && len(order) > 0:
		t.Fatalf("%s, Check of %v: false, and order %v", name, l, order)
	case ok && !mayBe(l, order):
		t.Fatalf("%s, Check of %v: order %v, which may not be", name, l, order)
	case ok && !goes(l, order, nil):
		t.Fatalf("%s, Check of %v: order %v, which isn't legal", name, l, order)
	case ok && !real.May(l, order):
		t.Fatalf("%s, Check of %v: order %v, which may not be by layer 14", name, l, order)
	case !slices.Equal(l, was):
		t.Fatalf("%s, Check of %v: changed to %v", name, was, l)
	}
	return order
}

// begins is the event of a call.
func begins(thread int, c api.Call) api.Event { return api.Event{Thread: thread, Call: c} }

// ends is the event of an answer.
func ends(thread int, a api.Answer) api.Event {
	return api.Event{Thread: thread, Back: true, Answer: a}
}

// story asks History of events.
func story(t *testing.T, name string, l []api.Event, want bool) {
	t.Helper()
	was := slices.Clone(l)
	ok, e := History(l)
	if ok != want || e != api.OK {
		t.Fatalf("%s, History of\n%s: %v and %d, not %v and 0", name, hist.Show(l), ok, e, want)
	}
	same(t, name+", the events behind it", l, was)
}

// Promise 15.1: the chapter's example.
func TestExample(t *testing.T) {
	l := []api.Event{begins(0, insert(1, 0)), ends(0, done), begins(1, deleteMin), ends(1, empty)}
	story(t, "example", l, false)
	verdict(t, "example", []api.Oper{inserting(1, 0, 0, 1), missing(2, 3)}, false)
	verdict(t, "the other way round", []api.Oper{inserting(1, 0, 2, 3), missing(0, 1)}, true)
	verdict(t, "both at a time", []api.Oper{inserting(1, 0, 0, 2), missing(1, 3)}, true)
}

// Promise 15.1: of no operations there is an order, which has none.
func TestCheckNone(t *testing.T) {
	for _, l := range [][]api.Oper{nil, {}} {
		same(t, "Check of none", verdict(t, "none", l, true), nil)
	}
	for _, l := range [][]api.Event{nil, {}} {
		story(t, "none", l, true)
	}
}

// Promise 15.1: one operation alone, answered in every way, and not answered.
func TestCheckOne(t *testing.T) {
	for _, x := range []struct {
		c    api.Call
		a    api.Answer
		want bool
	}{
		{insert(5, 7), done, true}, {insert(0, 0), done, true}, {insert(math.MaxUint32, math.MaxUint32), done, true},
		{insert(5, 7), full, true}, {insert(5, 7), empty, false}, {insert(5, 7), pair(5, 7), false}, {insert(0, 0), pair(0, 0), false},
		{deleteMin, empty, true}, {deleteMin, pair(0, 0), false}, {deleteMin, pair(5, 7), false}, {deleteMin, done, false}, {deleteMin, full, false},
		{peekMin, empty, true}, {peekMin, pair(0, 0), false}, {peekMin, pair(5, 7), false}, {peekMin, done, false}, {peekMin, full, false},
	} {
		name := fmt.Sprint("one call ", x.c, " answered ", x.a)
		for _, to := range []int{0, 4, 5, math.MaxInt} {
			order := verdict(t, name, []api.Oper{oper(x.c, x.a, 4, to)}, x.want)
			is(t, name+", how many are told", len(order) == 1, x.want)
		}
		for _, to := range []int{-1, -2, math.MinInt} {
			verdict(t, name+", not answered", []api.Oper{{Call: x.c, Answer: x.a, From: 4, To: to}}, true)
		}
	}
}

// farNumbers is numbers that are no operation and no kind, though one byte or 32 bits of some of them are.
func farNumbers() []int {
	return []int{-1, -2, -3, 4, 5, -256, -255, -254, 256, 257, 258, 259, 1 << 32, 1<<32 + 1, 1<<32 + 2, 1<<32 + 3, math.MinInt, math.MinInt + 1, math.MaxInt}
}

// Promise 15.1: what may not be, or doesn't fit, is legal nowhere; what isn't answered and may not be is left out.
func TestCheckWrong(t *testing.T) {
	var calls []api.Call
	for _, op := range append(farNumbers(), 3) {
		calls = append(calls, api.Call{Op: op}, api.Call{Op: op, Key: 5, Val: 7})
	}
	for _, op := range []int{api.DeleteMin, api.PeekMin} {
		calls = append(calls, api.Call{Op: op, Key: 5}, api.Call{Op: op, Val: 7}, api.Call{Op: op, Key: 5, Val: 7})
	}
	answers := []api.Answer{done, full, pair(5, 7), pair(0, 0), empty}
	for _, c := range calls {
		for _, a := range answers {
			for _, l := range [][]api.Oper{{oper(c, a, 0, 1)}, row(inserting(5, 7, 0, 0), oper(c, a, 0, 0)), row(oper(c, a, 0, 0), inserting(5, 7, 0, 0), taking(5, 7, 0, 0))} {
				verdict(t, "a wrong call", l, false)
			}
		}
		l := []api.Oper{inserting(5, 7, 0, 1), oper(c, done, 2, never), missing(4, 5)}
		verdict(t, "a wrong call that isn't answered takes nothing", l, false)
		l[2] = taking(5, 7, 4, 5)
		order := verdict(t, "a wrong call that isn't answered", l, true)
		same(t, "the order without it", order, []int{0, 2})
	}
	for _, kind := range farNumbers() {
		for _, c := range []api.Call{insert(5, 7), insert(0, 0), deleteMin, peekMin} {
			verdict(t, "a wrong answer", row(oper(c, api.Answer{Kind: kind}, 0, 0)), false)
			verdict(t, "a wrong answer", row(inserting(5, 7, 0, 0), oper(c, api.Answer{Kind: kind, Key: 5, Val: 7}, 0, 0)), false)
		}
	}
	for _, kind := range []int{api.Done, api.Full, api.Empty} {
		for _, c := range []api.Call{insert(5, 7), insert(0, 0), deleteMin, peekMin} {
			verdict(t, "an answer with a key", row(oper(c, api.Answer{Kind: kind, Key: 5}, 0, 0)), false)
			verdict(t, "an answer with a value", row(oper(c, api.Answer{Kind: kind, Val: 7}, 0, 0)), false)
		}
	}
}

// Promise 15.1: of what isn't answered no answer plays a part, whatever stands there, nor how far below 0 its end is.
func TestCheckNotAnswered(t *testing.T) {
	for _, to := range []int{-1, -2, -7, math.MinInt32, math.MinInt} {
		for _, a := range []api.Answer{{}, done, full, empty, pair(5, 7), pair(9, 9), {Kind: -1}, {Kind: 3, Key: 1}} {
			l := []api.Oper{{Call: insert(5, 7), Answer: a, From: 0, To: to}, taking(5, 7, 1, 2)}
			same(t, "both", verdict(t, "an Insert that was needed", l, true), []int{0, 1})
			l = []api.Oper{{Call: insert(5, 7), Answer: a, From: 0, To: to}, missing(1, 2)}
			verdict(t, "an Insert that must wait, or be left out", l, true)
			l = []api.Oper{inserting(5, 7, 0, 1), {Call: deleteMin, Answer: a, From: 2, To: to}, missing(3, 4)}
			same(t, "all", verdict(t, "a DeleteMin that was needed", l, true), []int{0, 1, 2})
			l[1].Call = peekMin
			verdict(t, "a PeekMin, which takes nothing", l, false)
			l[2] = taking(5, 7, 3, 4)
			verdict(t, "a PeekMin", l, true)
			l[1].Call = deleteMin
			verdict(t, "a DeleteMin that must wait, or be left out", l, true)
		}
	}
}

// Promise 15.1: Inserts that aren't answered: one that must be in an order, one that must not, one that may be.
func TestCheckOpenInserts(t *testing.T) {
	for _, x := range []struct {
		name string
		l    []api.Oper
		want bool
	}{
		{"told", []api.Oper{inserting(5, 7, 0, never), taking(5, 7, 1, 2)}, true},
		{"looked at", []api.Oper{inserting(5, 7, 0, never), looking(5, 7, 1, 2), looking(5, 7, 3, 4)}, true},
		{"told with another value", []api.Oper{inserting(5, 7, 0, never), taking(5, 8, 1, 2)}, false},
		{"told with another key", []api.Oper{inserting(5, 7, 0, never), taking(6, 7, 1, 2)}, false},
		{"told twice", []api.Oper{inserting(5, 7, 0, never), taking(5, 7, 1, 2), taking(5, 7, 3, 4)}, false},
		{"told twice at a time", []api.Oper{inserting(5, 7, 0, never), taking(5, 7, 1, 2), taking(5, 7, 1, 2)}, false},
		{"told by two of two", []api.Oper{inserting(5, 7, 0, never), inserting(5, 7, 0, never), taking(5, 7, 1, 2), taking(5, 7, 3, 4)}, true},
		{"told as it begins", []api.Oper{inserting(5, 7, 2, never), taking(5, 7, 1, 2)}, true},
		{"begun behind the answer", []api.Oper{inserting(5, 7, 3, never), taking(5, 7, 1, 2)}, false},
		{"looked at, and gone", []api.Oper{inserting(5, 7, 0, never), looking(5, 7, 1, 2), missing(3, 4)}, false},
		{"not yet, then there", []api.Oper{inserting(5, 7, 0, never), missing(1, 2), looking(5, 7, 3, 4)}, true},
		{"there, then taken", []api.Oper{inserting(5, 7, 0, never), looking(5, 7, 1, 2), taking(5, 7, 3, 4), missing(5, 6)}, true},
		{"left out for a greater one", []api.Oper{inserting(5, 7, 0, never), inserting(6, 1, 1, 2), looking(6, 1, 3, 4), taking(6, 1, 5, 6), missing(7, 8)}, true},
		{"one put in twice, of which one is left out", []api.Oper{inserting(5, 7, 0, never), inserting(5, 7, 1, 2), taking(5, 7, 3, 4), missing(5, 6)}, true},
		{"the answered one must be there", []api.Oper{inserting(5, 7, 0, never), inserting(5, 7, 1, 6), missing(2, 3), taking(5, 7, 4, 5), looking(5, 7, 7, 8)}, true},
		{"late, in the first one's stead", []api.Oper{inserting(5, 7, 0, never), inserting(5, 7, 1, 2), taking(5, 7, 3, 4), missing(5, 6), looking(5, 7, 7, 8)}, true},
		{"small ones left out of the way", []api.Oper{inserting(1, 1, 0, never), inserting(2, 2, 0, never), inserting(3, 3, 0, never), inserting(9, 9, 1, 2), looking(9, 9, 3, 4), looking(2, 2, 5, 6), taking(2, 2, 7, 8), looking(9, 9, 9, 10)}, true},
		{"a small one that was there, and isn't gone", []api.Oper{inserting(2, 2, 0, never), inserting(9, 9, 1, 2), looking(2, 2, 3, 4), looking(9, 9, 5, 6)}, false},
	} {
		is(t, x.name+", by the chapter's words", known(x.l), x.want)
		verdict(t, x.name, x.l, x.want)
	}
}

// Promise 15.1: DeleteMins that aren't answered: one that must have taken a pair, one that can't have, one that may have.
func TestCheckOpenDeletes(t *testing.T) {
	gone := func(from int) api.Oper { return missing(from, never) }
	for _, x := range []struct {
		name string
		l    []api.Oper
		want bool
	}{
		{"one gone", []api.Oper{inserting(5, 7, 0, 1), gone(2), missing(3, 4)}, true},
		{"one gone, as the answer comes", []api.Oper{inserting(5, 7, 0, 1), gone(4), missing(3, 4)}, true},
		{"begun behind the answer", []api.Oper{inserting(5, 7, 0, 1), gone(5), missing(3, 4)}, false},
		{"one of two gone", []api.Oper{inserting(5, 7, 0, 1), inserting(5, 7, 0, 1), gone(2), missing(3, 4)}, false},
		{"two of two gone", []api.Oper{inserting(5, 7, 0, 1), inserting(5, 7, 0, 1), gone(2), gone(2), missing(3, 4)}, true},
		{"the first one took it, the second one is behind", []api.Oper{inserting(5, 7, 0, 1), gone(2), missing(3, 4), inserting(6, 7, 5, 6), gone(7), missing(8, 9)}, true},
		{"one can't take both", []api.Oper{inserting(5, 7, 0, 1), gone(2), missing(3, 4), inserting(6, 7, 5, 6), missing(8, 9)}, false},
		{"the small one gone", []api.Oper{inserting(5, 7, 0, 1), inserting(6, 8, 0, 1), gone(2), taking(6, 8, 3, 4), missing(5, 6)}, true},
		{"the small one gone, then there", []api.Oper{inserting(5, 7, 0, 1), inserting(6, 8, 0, 1), gone(2), looking(6, 8, 3, 4), looking(5, 7, 5, 6)}, false},
		{"the great one can't go", []api.Oper{inserting(5, 7, 0, 1), inserting(6, 8, 0, 1), gone(2), taking(5, 7, 3, 4), missing(5, 6)}, true},
		{"the great one can't go ahead of the small one", []api.Oper{inserting(5, 7, 0, 1), inserting(6, 8, 0, 1), gone(2), looking(5, 7, 3, 4), missing(5, 6)}, false},
		{"either of one key, the first one left", []api.Oper{inserting(5, 1, 0, 1), inserting(5, 2, 0, 1), gone(2), taking(5, 1, 3, 4), missing(5, 6)}, true},
		{"either of one key, the second one left", []api.Oper{inserting(5, 1, 0, 1), inserting(5, 2, 0, 1), gone(2), taking(5, 2, 3, 4), missing(5, 6)}, true},
		{"neither of one key gone", []api.Oper{inserting(5, 1, 0, 1), inserting(5, 2, 0, 1), gone(2), taking(5, 2, 3, 4), taking(5, 1, 5, 6)}, true},
		{"one of one key gone, looked at first", []api.Oper{inserting(5, 1, 0, 1), inserting(5, 2, 0, 1), gone(2), looking(5, 2, 3, 4), taking(5, 1, 5, 6), missing(7, 8)}, true},
		{"between two looks", []api.Oper{inserting(5, 1, 0, 1), inserting(6, 2, 0, 1), gone(2), looking(5, 1, 3, 4), looking(6, 2, 5, 6)}, true},
		{"it must wait for an Insert that is in its way", []api.Oper{inserting(1, 1, 0, 1), inserting(2, 2, 2, 3), gone(4), looking(2, 2, 0, 9)}, true},
		{"it must wait for one with the least key", []api.Oper{inserting(3, 3, 0, 1), inserting(2, 2, 2, 4), gone(5), looking(9, 9, 0, 9), inserting(9, 9, 0, 9)}, true},
		{"it must wait for ones that it has to take", []api.Oper{inserting(3, 3, 0, 1), inserting(2, 2, 2, 4), gone(5), looking(9, 9, 3, 9), inserting(9, 9, 0, 1), gone(8)}, true},
		{"it must wait for too many", []api.Oper{inserting(3, 3, 0, 1), inserting(2, 2, 2, 4), gone(5), looking(9, 9, 3, 9), inserting(9, 9, 0, 1)}, false},
		{"an open Insert, an open DeleteMin", []api.Oper{inserting(3, 3, 0, never), gone(0), looking(3, 3, 1, 2), missing(3, 4)}, true},
		{"nothing to be taken, then answers", []api.Oper{gone(0), missing(1, 2), inserting(3, 3, 3, 4), looking(3, 3, 5, 6)}, true},
	} {
		is(t, x.name+", by the chapter's words", known(x.l), x.want)
		verdict(t, x.name, x.l, x.want)
	}
}

// Promise 15.1: PeekMins that aren't answered change nothing.
func TestCheckOpenPeeks(t *testing.T) {
	l := []api.Oper{peeking(0, never), inserting(5, 7, 1, 2), peeking(3, never), peeking(3, never)}
	verdict(t, "PeekMins", append(slices.Clip(l), taking(5, 7, 4, 5), missing(6, 7)), true)
	verdict(t, "PeekMins take nothing", append(slices.Clip(l), missing(4, 5)), false)
	verdict(t, "PeekMins alone", []api.Oper{peeking(0, never), peeking(0, -9)}, true)
}

// Promise 15.1: Inserts that are answered Full put nothing in, and stand where they must.
func TestCheckFull(t *testing.T) {
	verdict(t, "Full", row(refused(5, 7, 0, 0), missing(0, 0)), true)
	verdict(t, "Full, and told", row(refused(5, 7, 0, 0), taking(5, 7, 0, 0)), false)
	verdict(t, "Full, and looked at", row(refused(5, 7, 0, 0), looking(5, 7, 0, 0)), false)
	verdict(t, "Full at a time with Done", []api.Oper{refused(5, 7, 0, 9), inserting(5, 7, 0, 9), taking(5, 7, 0, 9)}, true)
	verdict(t, "Full at a time with Done, told twice", []api.Oper{refused(5, 7, 0, 9), inserting(5, 7, 0, 9), taking(5, 7, 0, 9), taking(5, 7, 0, 9)}, false)
	order := verdict(t, "Full ones, one behind the other", row(refused(1, 1, 0, 0), refused(2, 2, 0, 0), refused(3, 3, 0, 0)), true)
	same(t, "Full ones, one behind the other", order, []int{0, 1, 2})
	order = verdict(t, "Full between", []api.Oper{missing(6, 7), refused(1, 1, 4, 5), taking(5, 7, 2, 3), inserting(5, 7, 0, 1)}, true)
	same(t, "Full between", order, []int{3, 2, 1, 0})
	verdict(t, "a Full one that keeps back", []api.Oper{refused(1, 1, 2, 3), inserting(5, 7, 4, 5), taking(5, 7, 0, 1)}, false)
	verdict(t, "a Full one alone", []api.Oper{refused(5, 7, 3, 1)}, true)
}

// Promise 15.1: several pairs of one key, and one pair several times.
func TestCheckLikeKeys(t *testing.T) {
	two := []api.Oper{inserting(5, 1, 0, 1), inserting(5, 2, 0, 1)}
	twice := []api.Oper{inserting(5, 1, 0, 1), inserting(5, 1, 0, 1)}
	for _, x := range []struct {
		name string
		l    []api.Oper
		want bool
	}{
		{"the first value first", append(two, taking(5, 1, 2, 3), taking(5, 2, 4, 5), missing(6, 7)), true},
		{"the second value first", append(two, taking(5, 2, 2, 3), taking(5, 1, 4, 5), missing(6, 7)), true},
		{"one taken twice", append(two, taking(5, 2, 2, 3), taking(5, 2, 4, 5)), false},
		{"one looked at, one taken", append(two, looking(5, 1, 2, 3), looking(5, 2, 2, 3), taking(5, 1, 4, 5), looking(5, 2, 6, 7)), true},
		{"one looked at behind its end", append(two, taking(5, 1, 4, 5), looking(5, 1, 6, 7)), false},
		{"twice the same", append(twice, taking(5, 1, 2, 3), looking(5, 1, 4, 5), taking(5, 1, 6, 7), missing(8, 9)), true},
		{"twice the same, once left", append(twice, taking(5, 1, 2, 3), missing(4, 5)), false},
		{"twice the same, three times taken", append(twice, taking(5, 1, 2, 3), taking(5, 1, 2, 3), taking(5, 1, 2, 3)), false},
		{"a key between", append(two, inserting(4, 0, 2, 3), taking(4, 0, 4, 5), taking(5, 2, 6, 7)), true},
		{"a key between that isn't gone", append(two, inserting(4, 0, 2, 3), taking(5, 2, 4, 5)), false},
		{"0 and the greatest", row(inserting(math.MaxUint32, 0, 0, 0), inserting(0, math.MaxUint32, 0, 0), taking(0, math.MaxUint32, 0, 0), taking(math.MaxUint32, 0, 0, 0), missing(0, 0)), true},
		{"0 and the greatest, turned", row(inserting(math.MaxUint32, 0, 0, 0), inserting(0, math.MaxUint32, 0, 0), taking(math.MaxUint32, 0, 0, 0)), false},
		{"keys below and above the greatest int of 32 bits", row(inserting(1<<31, 0, 0, 0), inserting(1<<31-1, 0, 0, 0), taking(1<<31-1, 0, 0, 0), taking(1<<31, 0, 0, 0)), true},
		{"keys below and above the greatest int of 32 bits, turned", row(inserting(1<<31, 0, 0, 0), inserting(1<<31-1, 0, 0, 0), taking(1<<31, 0, 0, 0)), false},
	} {
		is(t, x.name+", by the chapter's words", known(x.l), x.want)
		verdict(t, x.name, x.l, x.want)
	}
}

// Promise 15.1: where several choices are legal at first, one that shuts out a later answer isn't the last word.
func TestCheckChoices(t *testing.T) {
	for _, x := range []struct {
		name string
		l    []api.Oper
		want bool
	}{
		{"of two Inserts of a pair the one that would be in the way", []api.Oper{inserting(5, 7, 0, 100), inserting(5, 7, 3, 4), refused(0, 0, 0, 2), taking(5, 7, 0, 5), missing(6, 7), taking(5, 7, 101, 102)}, true},
		{"of two DeleteMins the one that has time", []api.Oper{inserting(5, 7, 0, 1), taking(5, 7, 0, 100), refused(0, 0, 0, 2), taking(5, 7, 3, 4), missing(5, 6), inserting(5, 7, 7, 8)}, true},
		{"an Empty between two that could follow each other", []api.Oper{inserting(0, 0, 8, 8), inserting(0, 0, 3, never), looking(0, 0, 6, 6), inserting(0, 0, 5, 5), taking(0, 0, 4, 9), inserting(0, 0, 0, 1), peeking(5, 8)}, true},
		{"two Inserts ahead, of which the DeleteMin that isn't answered takes one", []api.Oper{inserting(0, 0, 4, 4), peeking(5, 6), inserting(0, 0, 0, 5), taking(0, 0, 6, 6), inserting(0, 0, 3, 5), missing(0, never), inserting(0, 0, 3, 6)}, true},
		{"a pair that is put in early for a look, and stays", []api.Oper{inserting(3, 3, 0, 50), looking(3, 3, 0, 5), inserting(9, 9, 0, 5), looking(9, 9, 0, 50), taking(3, 3, 6, 50), looking(9, 9, 55, 60)}, true},
		{"a pair that is put in early for a look, and stays too long", []api.Oper{inserting(3, 3, 0, 50), looking(3, 3, 0, 5), inserting(9, 9, 0, 5), looking(9, 9, 6, 10), taking(3, 3, 11, 50)}, false},
		{"a pair that is kept for a late look", []api.Oper{inserting(3, 3, 0, 1), taking(3, 3, 0, 50), looking(3, 3, 20, 30), inserting(9, 9, 0, 1), looking(9, 9, 0, 50)}, true},
		{"a pair that is kept for a late look, in another one's way", []api.Oper{inserting(3, 3, 0, 1), taking(3, 3, 0, 50), looking(3, 3, 20, 30), inserting(9, 9, 0, 1), looking(9, 9, 2, 10)}, false},
		{"a pair twice, once for a look, once for an end", []api.Oper{inserting(3, 3, 0, 1), inserting(3, 3, 2, 50), taking(3, 3, 0, 50), missing(5, 6), looking(3, 3, 10, 11), taking(3, 3, 0, 50), missing(51, 52)}, true},
		{"taken ahead of a smaller one", []api.Oper{inserting(9, 9, 0, 1), taking(9, 9, 0, 50), inserting(3, 3, 2, 10), looking(3, 3, 11, 12)}, true},
		{"what a DeleteMin that isn't answered took, of two", []api.Oper{inserting(0, 0, 15, 32), inserting(0, 0, 0, 3), missing(8, 22), missing(4, never), taking(0, 0, 10, 22), taking(0, 0, 23, 33), inserting(0, 1, 0, 9)}, true},
		{"what a DeleteMin that isn't answered took, of many", []api.Oper{inserting(1, 1, 5, 6), inserting(0, 0, 3, 4), inserting(1, 0, 2, 7), taking(0, 0, 6, 4), looking(1, 0, 1, 5), inserting(1, 0, 1, 10), missing(6, never), taking(1, 0, 8, 6), looking(1, 0, 7, 10), peeking(5, 10)}, true},
		{"the DeleteMin that isn't answered and waits for less", []api.Oper{missing(10, never), missing(5, never), inserting(3, 3, 0, 1), inserting(2, 2, 0, 7), inserting(9, 9, 0, 1), looking(9, 9, 2, 20), looking(2, 2, 21, 22)}, true},
		{"the same, where both wait for it", []api.Oper{missing(10, never), missing(9, never), inserting(3, 3, 0, 1), inserting(2, 2, 0, 7), inserting(9, 9, 0, 1), looking(9, 9, 2, 20), looking(2, 2, 21, 22)}, false},
		{"one DeleteMin that isn't answered for two places", []api.Oper{inserting(3, 3, 0, 1), missing(0, never), taking(3, 3, 0, 50), inserting(3, 3, 0, 60), missing(2, 3), looking(3, 3, 4, 5), missing(61, 62)}, true},
	} {
		is(t, x.name+", by the chapter's words", knownLong(x.l), x.want)
		verdict(t, x.name, x.l, x.want)
		for _, c := range []chance{1, 2, 3, 4, 5, 6} {
			l := slices.Clone(x.l)
			shuffle(l, &c)
			verdict(t, x.name+", shuffled", l, x.want)
		}
	}
}

// Promise 15.1: answers that are legal in no order.
func TestCheckIllegal(t *testing.T) {
	all := func(l ...api.Oper) []api.Oper { // all at a time
		for at := range l {
			l[at].From, l[at].To = 0, 9
		}
		return l
	}
	for name, l := range map[string][]api.Oper{
		"nobody put it in":              all(inserting(5, 7, 0, 0), taking(5, 8, 0, 0)),
		"nobody put any in":             all(taking(0, 0, 0, 0)),
		"nobody put in what is seen":    all(inserting(5, 7, 0, 0), looking(7, 5, 0, 0)),
		"one taken twice":               all(inserting(5, 7, 0, 0), taking(5, 7, 0, 0), taking(5, 7, 0, 0)),
		"two taken three times":         all(inserting(5, 7, 0, 0), inserting(5, 7, 0, 0), taking(5, 7, 0, 0), taking(5, 7, 0, 0), taking(5, 7, 0, 0)),
		"Empty though one must be in":   {inserting(5, 7, 0, 1), missing(2, 3), taking(5, 7, 4, 5)},
		"PeekMin's Empty, too":          {inserting(5, 7, 0, 1), peeking(2, 3), taking(5, 7, 4, 5)},
		"a greater one":                 {inserting(5, 7, 0, 1), inserting(6, 7, 0, 1), taking(6, 7, 2, 3)},
		"a greater one is looked at":    {inserting(5, 7, 0, 1), inserting(6, 7, 0, 1), looking(6, 7, 2, 3), taking(5, 7, 4, 5)},
		"seen ahead of its Insert":      {looking(5, 7, 0, 1), inserting(5, 7, 2, 3)},
		"taken ahead of its Insert":     {taking(5, 7, 0, 1), inserting(5, 7, 2, 3)},
		"taken, and seen behind it":     {inserting(5, 7, 0, 1), taking(5, 7, 2, 3), looking(5, 7, 4, 5)},
		"taken, and taken behind it":    {inserting(5, 7, 0, 1), taking(5, 7, 2, 3), taking(5, 7, 4, 5)},
		"each sees what the other took": {inserting(5, 7, 0, 1), inserting(6, 8, 0, 1), taking(5, 7, 2, 9), taking(6, 8, 2, 3), looking(5, 7, 4, 5)},
	} {
		is(t, name+", by the chapter's words", known(l), false)
		verdict(t, name, l, false)
	}
}

// Promise 15.1: where operations overlap, touch, or are one behind the other.
func TestCheckTimes(t *testing.T) {
	for _, x := range []struct {
		from1, to1, from2, to2 int
		put, none              bool // is it there behind the Insert; may it not be
	}{
		{0, 1, 2, 3, true, false},                         // one behind the other
		{2, 3, 0, 1, false, true},                         // the other way round
		{0, 2, 1, 3, true, true},                          // they overlap
		{0, 3, 1, 2, true, true},                          // the one within the other
		{1, 2, 0, 3, true, true},                          //
		{0, 1, 1, 2, true, true},                          // they touch
		{1, 2, 0, 1, true, true},                          //
		{4, 4, 4, 4, true, true},                          // at one place
		{math.MinInt, 0, 1, 1, true, false},               // at the edges of an int
		{math.MinInt, 0, math.MaxInt, 0, true, false},     //
		{0, math.MaxInt - 1, math.MaxInt, 0, true, false}, //
		{0, math.MaxInt, math.MaxInt, math.MaxInt, true, true},
		{-5, 0, -9, 0, true, true}, // beginnings below 0
		{-5, 0, 1, 2, true, false},
		{0, 1, 2, 0, true, false}, // the other one ends ahead of its beginning
		{1, 0, 2, 3, true, false}, // it itself does
		{9, 3, 4, 20, true, false},
		{9, 3, 2, 8, false, true},
		{9, 3, 3, 9, true, true},
		{9, 3, 2, 9, true, true},
		{9, 3, 8, 4, false, false}, // each is ahead of the other one
		{1, 0, 1, 0, false, false},
	} {
		l := []api.Oper{inserting(5, 7, x.from1, x.to1), looking(5, 7, x.from2, x.to2)}
		verdict(t, "there", l, x.put)
		slices.Reverse(l)
		verdict(t, "there, turned", l, x.put)
		l = []api.Oper{inserting(5, 7, x.from1, x.to1), missing(x.from2, x.to2)}
		verdict(t, "not there", l, x.none)
		slices.Reverse(l)
		verdict(t, "not there, turned", l, x.none)
	}
	for places := range 7 {
		l := []api.Oper{inserting(5, 7, 0, places), missing(3, 3), looking(5, 7, 4, 4)}
		verdict(t, fmt.Sprint("not there, then there, put in till ", places), l, places >= 3)
	}
}

// Promise 15.1: what ends ahead of its beginning keeps back those between, too, though they aren't kept back by all that is ahead of it.
func TestCheckBackwards(t *testing.T) {
	for _, x := range []struct {
		name string
		l    []api.Oper
		want bool
	}{
		{"one behind another by a third one", []api.Oper{inserting(5, 7, 0, 4), refused(1, 1, 9, 2), looking(5, 7, 3, 20)}, true},
		{"Empty behind an Insert by a third one", []api.Oper{inserting(5, 7, 0, 4), refused(1, 1, 9, 2), missing(3, 20)}, false},
		{"Empty at a time with an Insert", []api.Oper{inserting(5, 7, 0, 4), refused(1, 1, 3, 2), missing(3, 20)}, true},
		{"by two", []api.Oper{inserting(5, 7, 0, 9), refused(1, 1, 19, 5), refused(1, 1, 6, 3), missing(4, 20)}, false},
		{"a taker behind by a third one", []api.Oper{inserting(5, 7, 0, 4), refused(1, 1, 9, 2), missing(3, never), missing(3, 20)}, true},
		{"a round of three", []api.Oper{inserting(5, 7, 8, 1), refused(1, 1, 2, 4), refused(1, 1, 5, 7)}, false},
		{"a round that isn't answered", []api.Oper{inserting(5, 7, 8, 3), refused(1, 1, 2, never), refused(1, 1, 5, 9)}, true},
		{"two, each ahead of the other one", []api.Oper{refused(5, 7, 5, 2), refused(1, 1, 6, 3)}, false},
		{"two, one not answered", []api.Oper{refused(5, 7, 5, 2), inserting(1, 1, 6, never)}, true},
	} {
		is(t, x.name+", by the chapter's words", known(x.l), x.want)
		verdict(t, x.name, x.l, x.want)
	}
}

// kinds is operations of one key and another one, with places from 0 on, below n, and some that aren't answered.
func kinds(n int) []api.Oper {
	var l []api.Oper
	for from := range n {
		for to := never; to < n; to++ {
			if to < 0 {
				l = append(l, inserting(0, 0, from, to), missing(from, to))
				continue
			}
			l = append(l, inserting(0, 0, from, to), inserting(1, 0, from, to), taking(0, 0, from, to), taking(1, 0, from, to), looking(1, 0, from, to), missing(from, to))
		}
	}
	return l
}

// Promise 15.1: all lists of up to three of few operations, against the chapter's words.
func TestCheckAll(t *testing.T) {
	few := kinds(2)
	var lists func([]api.Oper)
	lists = func(l []api.Oper) {
		verdict(t, "few", l, known(l))
		if len(l) == 3 {
			return
		}
		for _, o := range few {
			lists(append(slices.Clip(l), o))
		}
	}
	lists(nil)
	wide := kinds(3)
	for _, a := range wide {
		for _, b := range wide {
			l := []api.Oper{inserting(0, 0, 0, 1), a, b}
			verdict(t, "wider", l, known(l))
			l[0] = inserting(0, 0, 1, 1)
			l = append(l, peeking(2, 2))
			verdict(t, "wider, and Empty", l, known(l))
		}
	}
}

// wild is operations whose places, keys and values are any below some, so that they may end ahead of their beginning.
func wild(many, places, keys, vals int, c *chance) []api.Oper {
	l := make([]api.Oper, many)
	for at := range l {
		from, key, val := c.next(places), uint32(c.next(keys)), uint32(c.next(vals))
		to := from + c.next(places-from)
		switch c.next(8) {
		case 0, 1:
			to = never
		case 2:
			to = c.next(places)
		}
		l[at] = oneOf(c,
			inserting(key, val, from, to), inserting(key, val, from, to), inserting(key, val, from, to), inserting(key, val, from, to), refused(key, val, from, to),
			taking(key, val, from, to), taking(key, val, from, to), taking(key, val, from, to), missing(from, to), missing(from, never),
			looking(key, val, from, to), looking(key, val, from, to), peeking(from, to))
	}
	return l
}

// tame is operations that are legal in the order in which they come, each of them open around its own place for as long as spread says; then they are shuffled. Some aren't answered.
func tame(many, spread, keys, vals, openly int, c *chance) []api.Oper {
	var s stuff
	l := make([]api.Oper, many)
	for at := range l {
		o := oper(oneOf(c, insert(uint32(c.next(keys)), uint32(c.next(vals))), deleteMin, peekMin), done, 4*at-c.next(4*spread+1), 4*at+c.next(4*spread+1))
		o.From = max(o.From, 0)
		if o.Call.Op != api.Insert {
			o.Answer = leastOf(s, c)
		}
		s, _ = s.behind(o.Call, o.Answer)
		if c.next(100) < openly {
			o.To, o.Answer = never, api.Answer{}
		}
		l[at] = o
	}
	shuffle(l, c)
	return l
}

// leastOf is the answer that tells one of the pairs with the least key, or that there is none.
func leastOf(s stuff, c *chance) api.Answer {
	if len(s) == 0 {
		return empty
	}
	s = slices.Clone(s)
	shuffle(s, c)
	p := slices.MinFunc(s, func(p, q [2]uint32) int { return slices.Compare(p[:1], q[:1]) })
	return pair(p[0], p[1])
}

// spoil changes operations somewhat: an answer, or where one begins and ends.
func spoil(l []api.Oper, c *chance) {
	if len(l) == 0 {
		return
	}
	a, b := &l[c.next(len(l))], &l[c.next(len(l))]
	switch c.next(4) {
	case 0:
		a.From, b.From = b.From, a.From
		a.To, b.To = b.To, a.To
	case 1:
		if a.Call.Op != api.Insert && b.Call.Op != api.Insert && a.To >= 0 && b.To >= 0 {
			a.Answer, b.Answer = b.Answer, a.Answer
		}
	case 2:
		if a.Call.Op != api.Insert && a.To >= 0 {
			a.Answer = pair(b.Call.Key, b.Call.Val)
		}
	case 3:
		if a.Call.Op != api.Insert && a.To >= 0 {
			a.Answer = empty
		}
	}
}

// Promise 15.1: up to seven operations, against all orders of them, by the chapter's words.
func TestCheckOrders(t *testing.T) {
	c := chance(1)
	told := map[bool]int{}
	for round := range 30000 {
		many, keys, vals := 1+c.next(7), 1+c.next(3), 1+c.next(2)
		l := wild(many, 2+c.next(12), keys, vals, &c)
		if round%3 > 0 {
			l = tame(many, c.next(8), keys, vals, oneOf(&c, 0, 10, 30), &c)
			for range c.next(4) {
				spoil(l, &c)
			}
		}
		want := known(l)
		told[want]++
		verdict(t, fmt.Sprint("round ", round), l, want)
	}
	if told[true] < 5000 || told[false] < 5000 {
		t.Fatal("too few of either kind: ", told)
	}
}

// Promise 15.1: up to twelve operations, many of them open at a time, against a search by the chapter's words.
func TestCheckMany(t *testing.T) {
	c := chance(2)
	told := map[bool]int{}
	for round := range 2500 {
		l := tame(8+c.next(5), 1+c.next(6), 1+c.next(5), 1+c.next(3), oneOf(&c, 0, 10, 30), &c)
		for range c.next(4) {
			spoil(l, &c)
		}
		want := knownLong(l)
		told[want]++
		verdict(t, fmt.Sprint("round ", round), l, want)
	}
	if told[true] < 500 || told[false] < 500 {
		t.Fatal("too few of either kind: ", told)
	}
}

// Promise 15.1: what both searches by the chapter's words tell is the same, where both are quick.
func TestKnown(t *testing.T) {
	c := chance(3)
	for range 3000 {
		l := wild(c.next(7), 2+c.next(9), 1+c.next(2), 1+c.next(2), &c)
		is(t, fmt.Sprint("known of ", l), knownLong(l), known(l))
	}
}

// lived is a history of calls of up to six threads: they begin, are done, and are answered by turns, of several pairs of a key with any of them; behind many calls no further one begins, and those that are open stay so.
func lived(threads, many, keys, vals int, c *chance) []api.Event {
	var l []api.Event
	var s stuff
	calls, answers := map[int]api.Call{}, map[int]api.Answer{}
	for began := 0; began < many; {
		thread := c.next(threads)
		call, busy := calls[thread]
		answer, answered := answers[thread]
		switch {
		case !busy:
			began++
			calls[thread] = oneOf(c, insert(uint32(c.next(keys)), uint32(c.next(vals))), insert(uint32(c.next(keys)), uint32(c.next(vals))), deleteMin, deleteMin, peekMin)
			l = append(l, begins(thread, calls[thread]))
		case !answered:
			a := oneOf(c, done, done, done, done, full)
			if call.Op != api.Insert {
				a = leastOf(s, c)
			}
			s, _ = s.behind(call, a)
			answers[thread] = a
		default:
			l = append(l, ends(thread, answer))
			delete(calls, thread)
			delete(answers, thread)
		}
	}
	return l
}

// opersOf is a history's operations.
func opersOf(t *testing.T, l []api.Event) []api.Oper {
	t.Helper()
	opers, e := hist.Opers(l)
	is(t, "the error of layer 12", e, api.OK)
	return opers
}

// Promises 15.1, 15.2: histories that were lived are linearizable, and so is each beginning of them, down to none.
func TestLived(t *testing.T) {
	c := chance(4)
	for round := range 150 {
		l := lived(1+c.next(6), 1+c.next(48), 1+c.next(6), 1+c.next(3), &c)
		for n := len(l); n >= 0; n-- {
			story(t, fmt.Sprintf("round %d, %d events", round, n), l[:n], true)
		}
		verdict(t, fmt.Sprint("round ", round), opersOf(t, l), true)
	}
}

// spoilEvents changes an answer of a history, so that it may be still.
func spoilEvents(l []api.Event, keys, vals int, c *chance) {
	for range 50 {
		v := &l[c.next(len(l))]
		if !v.Back {
			continue
		}
		if v.Answer.Kind == api.Done || v.Answer.Kind == api.Full {
			v.Answer = oneOf(c, done, full)
			return
		}
		v.Answer = oneOf(c, empty, pair(uint32(c.next(keys)), uint32(c.next(vals))))
		return
	}
}

// Promises 15.1, 15.2: long histories that may not be linearizable, against a search by the chapter's words; where one is, so is each beginning of it, and where one isn't, so is none that begins so.
func TestSpoiled(t *testing.T) {
	c := chance(5)
	told := map[bool]int{}
	for round := range 250 {
		keys, vals := 1+c.next(4), 1+c.next(2)
		l := lived(1+c.next(5), 4+c.next(36), keys, vals, &c)
		for range 1 + c.next(3) {
			spoilEvents(l, keys, vals, &c)
		}
		want := knownLong(opersOf(t, l))
		told[want]++
		story(t, fmt.Sprint("round ", round), l, want)
		verdict(t, fmt.Sprint("round ", round), opersOf(t, l), want)
		for n := len(l); n >= 0; n-- {
			ok, _ := History(l[:n])
			if want && !ok {
				t.Fatalf("round %d: %d events of\n%s: not linearizable, though one more are", round, n, hist.Show(l))
			}
			want = ok
		}
		is(t, "History of none", want, true)
	}
	if told[true] < 40 || told[false] < 40 {
		t.Fatal("too few of either kind: ", told)
	}
}

// Promises 15.1, 15.2: all histories of up to five events of three threads, two keys; each one against all orders, and against the one with one event less.
func TestHistories(t *testing.T) {
	calls := []api.Call{insert(0, 0), insert(1, 0), deleteMin, peekMin}
	answers := []api.Answer{done, full, empty, pair(0, 0), pair(1, 0)}
	n := 0
	var grow func([]api.Event, bool)
	grow = func(l []api.Event, before bool) {
		ok, e := History(l)
		if e != api.OK {
			is(t, "the error", e, api.ErrOrder)
			return
		}
		n++
		is(t, fmt.Sprint("History of ", l), ok, known(opersOf(t, l)))
		if ok && !before {
			t.Fatalf("History of %v: true, though the beginning isn't", l)
		}
		if len(l) == 5 {
			return
		}
		busy := 0
		for thread := range 3 {
			if slices.ContainsFunc(l, func(v api.Event) bool { return v.Thread == thread }) {
				busy = thread + 1
			}
		}
		for thread := range min(busy+1, 3) { // threads that weren't there yet are like each other
			for _, c := range calls {
				grow(append(slices.Clip(l), begins(thread, c)), ok)
			}
			for _, a := range answers {
				grow(append(slices.Clip(l), ends(thread, a)), ok)
			}
		}
	}
	grow(nil, true)
	if n < 10000 {
		t.Fatal("too few histories: ", n)
	}
}

// Promise 15.2: a history of one thread, all of it answered, is linearizable just if its answers are legal, one behind the other.
func TestOneThread(t *testing.T) {
	calls := []api.Call{insert(0, 0), insert(1, 0), insert(0, 1), deleteMin, peekMin}
	answers := []api.Answer{done, full, empty, pair(0, 0), pair(1, 0), pair(0, 1)}
	var grow func([]api.Event, stuff, bool)
	grow = func(l []api.Event, s stuff, legal bool) {
		for _, thread := range []int{0, 5} {
			for at := range l {
				l[at].Thread = thread
			}
			story(t, "one thread", l, legal)
		}
		if len(l) == 8 || !legal && len(l) > 4 {
			return
		}
		for _, c := range calls {
			for _, a := range answers {
				if !fits(c, a) {
					continue
				}
				next, ok := s.behind(c, a)
				grow(append(slices.Clip(l), begins(0, c), ends(0, a)), next, legal && ok)
			}
		}
	}
	grow(nil, nil, true)
}

// Promise 15.2: 48 calls of one thread, answered by layer 13, and with one answer changed.
func TestOneThreadLong(t *testing.T) {
	c := chance(6)
	for range 25 {
		var calls []api.Call
		for range api.MaxCalls {
			calls = append(calls, oneOf(&c, insert(uint32(c.next(5)), uint32(c.next(3))), deleteMin, peekMin))
		}
		var l []api.Event
		for at, a := range bag.Run(calls) {
			l = append(l, begins(3, calls[at]), ends(3, a))
		}
		story(t, "long", l, true)
		for at := 1; at < len(l); at += 2 {
			was := l[at].Answer
			for _, a := range []api.Answer{done, full, empty, pair(0, 0), pair(4, 2), pair(7, 7)} {
				if !fits(calls[at/2], a) {
					continue
				}
				l[at].Answer = a
				var b bag.Bag
				legal := true
				for n := range calls {
					legal = legal && b.Do(calls[n], l[2*n+1].Answer)
				}
				story(t, "long, with another answer", l, legal)
			}
			l[at].Answer = was
		}
	}
}

// Promise 15.1: a history of one call that isn't answered behind others, for each thread.
func TestHistoryOpen(t *testing.T) {
	for thread := range api.MaxThreads {
		other := (thread + 1) % api.MaxThreads
		l := []api.Event{begins(thread, insert(1, 1)), begins(other, deleteMin), ends(other, pair(1, 1))}
		story(t, "an Insert that isn't answered", l, true)
		l[2] = ends(other, empty)
		story(t, "an Insert that isn't answered, Empty", l, true)
		l[2] = ends(other, pair(1, 2))
		story(t, "an Insert that isn't answered, another pair", l, false)
		l = []api.Event{begins(thread, insert(1, 1)), ends(thread, done), begins(thread, deleteMin), begins(other, peekMin), ends(other, empty)}
		story(t, "a DeleteMin that isn't answered", l, true)
		story(t, "a DeleteMin that isn't there", slices.Delete(l, 2, 3), false)
	}
}

// Promise 15.1: the error of a history that may not be, and false, whatever else it is.
func TestHistoryErrors(t *testing.T) {
	good := []api.Event{begins(0, insert(1, 0)), ends(0, done)}
	bad := [][]api.Event{
		{begins(-1, peekMin)}, {begins(6, peekMin)}, {begins(math.MaxInt, peekMin)}, {begins(math.MinInt, peekMin)},
		{begins(1<<32, peekMin)}, {ends(0, done)}, {ends(0, empty)}, {ends(6, empty)},
		{begins(0, peekMin), begins(0, peekMin)},
		{begins(0, peekMin), ends(1, empty)},
		{begins(0, peekMin), ends(0, done)},
		{begins(0, insert(1, 1)), ends(0, empty)},
		{begins(0, insert(1, 1)), ends(0, pair(1, 1))},
		{begins(0, peekMin), ends(0, empty), ends(0, empty)},
		{begins(0, api.Call{Op: 3})}, {begins(0, api.Call{Op: -1})}, {begins(0, api.Call{Op: 1, Key: 1})}, {begins(0, api.Call{Op: 2, Val: 1})},
		{begins(0, peekMin), ends(0, api.Answer{Kind: 4})},
		{begins(0, peekMin), ends(0, api.Answer{Kind: 3, Key: 1})},
		{{Call: peekMin, Answer: empty}},
		{begins(0, peekMin), {Back: true, Call: peekMin, Answer: empty}},
		{begins(0, insert(1, 1)), {Back: true, Call: insert(1, 1)}},
	}
	for _, l := range bad {
		for _, front := range [][]api.Event{nil, good, slices.Repeat(good, 48), slices.Repeat(good, 60)} {
			for _, back := range [][]api.Event{nil, good} {
				whole := slices.Concat(front, l, back)
				_, want := hist.Opers(whole)
				ok, e := History(whole)
				is(t, fmt.Sprint("the error of ", l, " with ", len(front), " ahead"), e, want)
				is(t, "which is", e, api.ErrOrder)
				is(t, "and beside it", ok, false)
			}
		}
	}
}

// Promise 15.1: up to 48 operations; of more there is none, and no error.
func TestMaxCalls(t *testing.T) {
	call := []api.Event{begins(0, deleteMin), ends(0, empty)}
	for _, many := range []int{0, 1, 2, 3, 46, 47, 48, 49, 50, 63, 64, 65, 96, 100, 128, 1000, 100000} {
		name := fmt.Sprint(many, " operations")
		l := make([]api.Oper, many)
		for at := range l {
			l[at] = missing(2*at, 2*at+1)
		}
		order := verdict(t, name, l, many <= 48)
		if many <= 48 {
			is(t, name+", how many are told", len(order), many)
		}
		story(t, name, slices.Repeat(call, many), many <= 48)
		for at := range l {
			l[at] = peeking(0, never)
		}
		verdict(t, name+" that aren't answered", l, many <= 48)
		for at := range l {
			l[at] = refused(1, 1, 0, 0)
		}
		verdict(t, name+" at a time", l, many <= 48)
	}
	l := slices.Repeat(call, 47)
	story(t, "48, the last one open", append(slices.Clip(l), begins(1, deleteMin)), true)
	story(t, "48 and one open", append(slices.Repeat(call, 48), begins(1, deleteMin)), false)
	story(t, "48, the last one wrong", append(slices.Clip(l), begins(1, deleteMin), ends(1, pair(0, 0))), false)
}

// soon is what is told, and ends the test if that takes too long.
func soon[T any](t *testing.T, name string, tell func() T) T {
	t.Helper()
	told := make(chan T, 1)
	go func() { told <- tell() }()
	select {
	case x := <-told:
		return x
	case <-time.After(time.Minute):
		t.Fatalf("%s: no answer", name)
	}
	panic("not reached")
}

// quick is verdict, of lists whose search might take long.
func quick(t *testing.T, name string, l []api.Oper, want bool) {
	t.Helper()
	if len(l) > api.MaxCalls {
		t.Fatalf("%s: %d operations", name, len(l))
	}
	got := soon(t, name, func() bool { _, ok := Check(l); return ok })
	is(t, name, got, want)
	verdict(t, name, l, want)
}

// knot is operations, from a place on, that are in no order, though none of them by itself is why: the second look needs the pair behind where the first one needs it gone. No other operation has these pairs.
func knot(from int) []api.Oper {
	const val = 77777
	return []api.Oper{inserting(0, val, from, from+1), inserting(1, val, from, from+1), looking(1, val, from+2, from+10), taking(0, val, from+2, from+40), looking(0, val, from+20, from+30)}
}

// each is operations of several kinds, for numbers from 0 on, below n.
func each(n int, kinds ...func(k int) api.Oper) []api.Oper {
	var l []api.Oper
	for k := range n {
		for _, kind := range kinds {
			l = append(l, kind(k))
		}
	}
	return l
}

// both has a list be linearizable, and not any more with a knot behind it, where it is as long as that leaves place for it.
func both(t *testing.T, name string, list func(n int) []api.Oper, most int) {
	t.Helper()
	is(t, "the knot by the chapter's words", known(knot(9)), false)
	quick(t, name, list(most), true)
	for len(list(most))+len(knot(0)) > api.MaxCalls {
		most--
	}
	quick(t, name+", with a knot behind", append(list(most), knot(100000)...), false)
}

// P1: 48 operations, all of them, or very many, open at a time.
func TestWideAll(t *testing.T) {
	all := 90000
	key := func(k int) uint32 { return uint32(100 + k) }
	put := func(k int) api.Oper { return inserting(key(k), 0, 0, all) }
	take := func(k int) api.Oper { return taking(key(k), 0, 0, all) }
	look := func(k int) api.Oper { return looking(key(k), 0, 0, all) }
	void := func(int) api.Oper { return missing(0, all) }
	like := func(int) api.Oper { return inserting(9, 9, 0, all) }
	likeTake := func(int) api.Oper { return taking(9, 9, 0, all) }
	likeLook := func(int) api.Oper { return looking(9, 9, 0, all) }
	both(t, "Inserts", func(n int) []api.Oper { return each(n, put) }, 48)
	both(t, "Inserts and DeleteMins", func(n int) []api.Oper { return each(n, put, take) }, 24)
	both(t, "Inserts, looks and DeleteMins", func(n int) []api.Oper { return each(n, put, look, take) }, 16)
	both(t, "Inserts, looks, DeleteMins and Empty ones", func(n int) []api.Oper { return each(n, put, look, take, void) }, 12)
	both(t, "like ones", func(n int) []api.Oper { return each(n, like, likeTake) }, 24)
	both(t, "like ones, with looks", func(n int) []api.Oper { return each(n, like, likeTake, likeLook) }, 16)
	both(t, "like ones, with Empty ones", func(n int) []api.Oper { return each(n, like, likeTake, void) }, 16)
	both(t, "looks alone", func(n int) []api.Oper { return each(n, put, look) }, 24)
	both(t, "Empty ones", func(n int) []api.Oper { return each(n, void) }, 48)
	quick(t, "one that nobody put in", append(each(23, put, take), take(99)), false)
	quick(t, "one that nobody put in is looked at", append(each(23, put, take), look(99)), false)
	quick(t, "one taken twice", append(each(23, put, take), take(7)), false)
	quick(t, "one taken once more than put in", append(each(23, like, likeTake), likeTake(0)), false)
	quick(t, "as many as are there", append(each(23, like, likeTake), likeLook(0), like(0)), true)
}

// P1: many Inserts, then answers that tell of all of them.
func TestWideInserts(t *testing.T) {
	put := func(k int) api.Oper { return inserting(uint32(1+k), 0, 0, 10) }
	open := func(k int) api.Oper { return inserting(uint32(1+k), 0, 0, never) }
	quick(t, "the least", append(each(47, put), taking(1, 0, 11, 12)), true)
	quick(t, "not the least", append(each(47, put), taking(2, 0, 11, 12)), false)
	quick(t, "the greatest", append(each(47, put), taking(47, 0, 11, 12)), false)
	quick(t, "Empty", append(each(47, put), missing(11, 12)), false)
	quick(t, "any, not answered", append(each(47, open), taking(30, 0, 11, 12)), true)
	quick(t, "any, not answered, with another value", append(each(47, open), taking(30, 1, 11, 12)), false)
	quick(t, "any, not answered, then Empty", append(each(40, open), missing(11, 12), taking(30, 0, 13, 14), taking(29, 0, 13, 14), missing(15, 16)), true)
	var down []api.Oper
	for k := range 15 {
		down = append(down, looking(uint32(30-k), 0, 20+2*k, 21+2*k))
	}
	quick(t, "not answered, seen from the greatest one down", append(each(30, open), down...), true)
	slices.Reverse(down)
	for at := range down {
		down[at].From, down[at].To = 20+2*at, 21+2*at
	}
	quick(t, "not answered, seen from the least one up", append(each(30, open), down...), false)
	for at := range down {
		down[at].Call = deleteMin
	}
	quick(t, "not answered, taken from the least one up", append(each(30, open), down...), true)
	for at := range down {
		down[at].From = 20
		down[at].To = 50
	}
	quick(t, "not answered, taken at a time", append(each(30, open), down...), true)
	quick(t, "not answered, taken at a time, one twice", append(each(30, open), append(down, down[3])...), false)
}

// P1: many DeleteMins that aren't answered.
func TestWideDeletes(t *testing.T) {
	put := func(k int) api.Oper { return inserting(uint32(11+k), 0, 0, 10) }
	gone := func(int) api.Oper { return missing(0, never) }
	third := func(k int) api.Oper { return taking(uint32(3*k+13), 0, 11, 90000) }
	quick(t, "all gone", append(append(each(23, put), each(23, gone)...), missing(11, 12)), true)
	quick(t, "all but one gone", append(append(each(23, put), each(22, gone)...), missing(11, 12)), false)
	quick(t, "all gone but the last one", append(append(each(23, put), each(22, gone)...), taking(33, 0, 11, 12), missing(13, 14)), true)
	quick(t, "all gone but the last one, which is another one", append(append(each(23, put), each(22, gone)...), taking(32, 0, 11, 12), looking(32, 0, 13, 14)), false)
	both(t, "each third one told", func(n int) []api.Oper { return append(append(each(3*n, put), each(2*n, gone)...), each(n, third)...) }, 7)
	look := func(k int) api.Oper { return looking(uint32(11+k), 0, 11, 90000) }
	both(t, "each one looked at, and gone", func(n int) []api.Oper { return append(each(n, put, look), each(n, gone)...) }, 16)
	like := func(k int) api.Oper { return inserting(9, uint32(k%3), 0, 10) }
	both(t, "like keys", func(n int) []api.Oper {
		return append(append(each(n, like), each(n-3, gone)...), taking(9, 2, 11, 12), taking(9, 1, 11, 12), taking(9, 0, 11, 12), missing(13, 14))
	}, 20)
	quick(t, "like keys, one too many", append(append(each(20, like), each(16, gone)...), taking(9, 2, 11, 12), taking(9, 1, 11, 12), taking(9, 0, 11, 12), missing(13, 14)), false)
	quick(t, "none to take", append(each(40, gone), missing(5, 6), inserting(1, 1, 7, 8), taking(1, 1, 9, 10), missing(11, 12)), true)
}

// gate is operations of which all that begins at 500 or later is behind some, and that aren't done in passing: whether what may be done ahead of them is done ahead or behind makes a difference.
func gate() []api.Oper {
	return []api.Oper{inserting(2, 0, 0, 499), looking(2, 0, 0, 499), taking(2, 0, 600, 90000)}
}

// P1: many that come and go at different times, so that there are many ways to begin.
func TestWideTimes(t *testing.T) {
	at := func(of func(key, val uint32, from, to int) api.Oper, from, to int) func(int) api.Oper { // a key each
		return func(k int) api.Oper { return of(uint32(100+k), 0, from, to) }
	}
	val := func(of func(key, val uint32, from, to int) api.Oper, from, to int) func(int) api.Oper { // one key, a value each
		return func(k int) api.Oper { return of(9, uint32(k), from, to) }
	}
	like := func(of func(key, val uint32, from, to int) api.Oper, from, to, begin, end int) func(int) api.Oper { // one pair, each at places of its own
		return func(k int) api.Oper { return of(9, 9, from+begin*k, to+end*k) }
	}
	type kinds = []func(int) api.Oper
	for _, x := range []struct {
		name string
		most int
		of   kinds
		and  []api.Oper
	}{
		{"looks ahead, DeleteMins behind", 15, kinds{at(inserting, 0, 90000), at(looking, 0, 90000), at(taking, 500, 90000)}, nil},
		{"looks ahead, DeleteMins behind, of one key", 15, kinds{val(inserting, 0, 90000), val(looking, 0, 90000), val(taking, 500, 90000)}, nil},
		{"looks ahead, DeleteMins behind, and a great one", 11, kinds{at(inserting, 0, 90000), at(looking, 0, 90000), at(taking, 500, 90000)}, []api.Oper{inserting(1000, 0, 0, 499), taking(1000, 0, 600, 90000)}},
		{"looks ahead, DeleteMins behind, and a Full one", 11, kinds{at(inserting, 0, 90000), at(looking, 0, 90000), at(taking, 500, 90000)}, []api.Oper{refused(3, 0, 0, 499)}},
		{"looks alone, behind a great one", 20, kinds{at(inserting, 0, 90000), at(looking, 0, 90000)}, []api.Oper{inserting(1000, 0, 600, 90000), looking(1000, 0, 600, 90000)}},
		{"looks behind", 15, kinds{at(inserting, 0, 400), at(taking, 0, 90000), at(looking, 0, 90000)}, nil},
		{"looks at pairs of one key", 15, kinds{val(inserting, 0, 1), val(looking, 2, 90000), val(taking, 500, 90000)}, nil},
		{"two put in, one taken, one looked at late", 11, kinds{val(inserting, 0, 1), val(inserting, 0, 1), val(taking, 0, 90000), val(looking, 500, 90000)}, nil},
		{"two put in, one late, one taken, one looked at", 11, kinds{at(inserting, 0, 90000), at(inserting, 500, 90000), at(taking, 0, 90000), at(looking, 0, 90000)}, nil},
		{"like ones, and a late look", 21, kinds{like(inserting, 0, 1, 0, 0), like(taking, 0, 90000, 0, 0)}, []api.Oper{looking(9, 9, 500, 90000)}},
		{"like ones, the one within the other", 14, kinds{like(inserting, 0, 9000, 1, -1), like(taking, 0, 9000, 2, -2), like(looking, 0, 9000, 3, 0)}, []api.Oper{missing(0, 90000), missing(5, 90000)}},
		{"like ones, one behind the other", 14, kinds{like(inserting, 0, 350, 100, 100), like(taking, 50, 800, 100, 100), like(looking, 70, 500, 100, 100)}, []api.Oper{missing(0, 90000), missing(0, 40)}},
	} {
		both(t, x.name, func(n int) []api.Oper { return append(each(n, x.of...), append(x.and, gate()...)...) }, x.most)
	}
}

// P1: 48 operations as a queue would answer them, most of them open at a time, and somewhat spoiled: all end, and what is legal is found.
func TestWideChance(t *testing.T) {
	c := chance(7)
	for round := range 700 {
		l := tame(api.MaxCalls, 1+c.next(48), oneOf(&c, 1, 2, 3, 6, 12, 1000), oneOf(&c, 1, 2, 3, 50), oneOf(&c, 0, 0, 5, 20, 50), &c)
		name := fmt.Sprint("round ", round)
		quick(t, name, l, true)
		for range 1 + c.next(3) {
			spoil(l, &c)
		}
		ok := soon(t, name+", spoiled", func() bool { _, ok := Check(l); return ok })
		verdict(t, name+", spoiled", l, ok)
		quick(t, name+", with a knot", append(l[:43], knot(100000)...), false)
	}
}

// Promise 15.1: nothing hangs on an operation's thread, on where it stands in the list, on how far places are from each other, nor on what stands as the answer of one that isn't answered.
func TestCheckOthers(t *testing.T) {
	c := chance(8)
	for round := range 1500 {
		l := tame(1+c.next(30), 1+c.next(6), 1+c.next(5), 1+c.next(2), oneOf(&c, 0, 10, 30), &c)
		for range c.next(4) {
			spoil(l, &c)
		}
		name := fmt.Sprint("round ", round)
		_, want := Check(l)
		shuffle(l, &c)
		verdict(t, name+", shuffled", l, want)
		for at := range l {
			o := &l[at]
			o.Thread = oneOf(&c, 0, 5, 6, -1, math.MaxInt, math.MinInt)
			o.From *= 1000
			if o.To >= 0 {
				o.To = 1000*o.To + c.next(1000)
				continue
			}
			o.To = oneOf(&c, -1, -3, math.MinInt)
			o.Answer = oneOf(&c, done, empty, pair(0, 0), api.Answer{Kind: 9})
		}
		verdict(t, name+", stretched", l, want)
	}
}

// Promise 15.1: lists that were handed in or told, and are changed later or appended to, play no part.
func TestOwnMemory(t *testing.T) {
	c := chance(9)
	for range 300 {
		long := append(tame(20, 5, 4, 2, 10, &c), wild(4, 9, 2, 2, &c)...)
		l := long[:20]
		was := slices.Clone(long)
		first, ok := Check(l)
		second, again := Check(l)
		is(t, "Check, asked again", again, ok)
		same(t, "the order, told again", second, first)
		same(t, "operations, up to where they could be appended to", long, was)
		kept := slices.Clone(first)
		for at := range second {
			second[at] = -7
		}
		_ = append(second, 5, 5, 5)
		_ = append(second[:0], 9)
		same(t, "the order, behind a change of the other one", first, kept)
		third, _ := Check(l)
		same(t, "the order, told behind it", third, kept)
		clear(long)
		same(t, "the order, behind a change of the operations", first, kept)
		fourth, _ := Check(was[:20])
		same(t, "the order of the same again", fourth, kept)
	}
}

// Promise 15.1: events that were handed in, likewise.
func TestOwnEvents(t *testing.T) {
	c := chance(10)
	for range 100 {
		l := lived(4, 20, 3, 2, &c)
		was := slices.Clone(l)
		n := c.next(len(l) + 1)
		story(t, "some of them", l[:n], true)
		same(t, "events, up to where they could be appended to", l, was)
		clear(l)
		story(t, "the same again", was[:n], true)
	}
}

// Promise 15.1: a group tells its operations till it is told to stop, and again.
func TestGroup(t *testing.T) {
	g := just(0) | just(3) | just(47)
	for n := range 4 {
		var l []int
		for x := range g.all() {
			l = append(l, x)
			if len(l) > n {
				break
			}
		}
		same(t, fmt.Sprint("told till ", n), l, []int{0, 3, 47}[:min(n+1, 3)])
	}
}

// Promise 15.1: a thing is new to a set once.
func TestSet(t *testing.T) {
	var s set[string]
	for _, x := range []struct {
		thing string
		want  bool
	}{{"a", true}, {"a", false}, {"b", true}, {"a", false}, {"", true}, {"b", false}, {"", false}} {
		is(t, "add of "+x.thing, s.add(x.thing), x.want)
	}
}
