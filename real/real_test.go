package real

import (
	"fmt"
	"math"
	"slices"
	"testing"

	"jostle/api"
)

// is holds what was told against what should be. It ends the test, since what is wrong at all is mostly wrong of many lists.
func is[T comparable](t *testing.T, name string, got, want T) {
	t.Helper()
	if got != want {
		t.Fatalf("%s: %v, not %v", name, got, want)
	}
}

// same holds a list that was told against the one that should be; a nil one is as an empty one.
func same[T comparable](t *testing.T, name string, got, want []T) {
	t.Helper()
	if !slices.Equal(got, want) {
		t.Fatalf("%s: %s, not %s", name, short(got), short(want))
	}
}

// short is a thing's text, cut where it becomes too long to read.
func short(x any) string {
	s := fmt.Sprint(x)
	if len(s) > 600 {
		return s[:600] + ".."
	}
	return s
}

// oper is an operation from one place to another one.
func oper(from, to int) api.Oper { return api.Oper{From: from, To: to} }

// opers is operations, each one given by where it begins and where it ends.
func opers(places ...int) []api.Oper {
	var l []api.Oper
	for at := 0; at+1 < len(places); at += 2 {
		l = append(l, oper(places[at], places[at+1]))
	}
	return l
}

// edges is numbers at the edges of an int and of what an int may be cut down to, and around 0; in order.
func edges() []int {
	return []int{math.MinInt, math.MinInt + 1, math.MinInt32 - 1, math.MinInt32, -256, -2, -1, 0, 1, 2, 255, 256, math.MaxInt32, math.MaxInt32 + 1, 1<<32 - 1, 1 << 32, 1<<32 + 1, math.MaxInt - 1, math.MaxInt}
}

// chance is numbers that look like chance, and are the same each time.
type chance uint64

// next is the next one, below n.
func (c *chance) next(n int) int {
	*c = *c*6364136223846793005 + 1442695040888963407
	return int(uint64(*c)>>33) % n
}

// rises tells whether an operation is ahead of another one, by where each number stands among the edges.
func rises(a, b api.Oper) bool {
	l := edges()
	return slices.Index(l, a.To) >= slices.Index(l, 0) && slices.Index(l, a.To) < slices.Index(l, b.From)
}

// aheadOf tells by the chapter's words whether the operation at one place is ahead of another one.
func aheadOf(l []api.Oper, a, b int) bool {
	if a == b || l[a].To < 0 {
		return false
	}
	return l[b].From > l[a].To
}

// mayBe tells by the chapter's words whether an order may be: each two of it are held against each other.
func mayBe(l []api.Oper, order []int) bool {
	times := map[int]int{}
	for _, at := range order {
		times[at]++
	}
	for at, n := range times {
		if n != 1 || at < 0 || at > len(l)-1 {
			return false
		}
	}
	for at, o := range l {
		if !(o.To < 0) && times[at] == 0 {
			return false
		}
	}
	for behind := range order {
		for front := range behind {
			if aheadOf(l, order[behind], order[front]) {
				return false
			}
		}
	}
	return true
}

// nextOf is by the chapter's words what may be thought of as done next: each two that aren't done are held against each other.
func nextOf(l []api.Oper, done []bool) []int {
	told := make([]bool, len(l))
	copy(told, done)
	var places []int
	for at := range l {
		kept := told[at]
		for other := range l {
			kept = kept || !told[other] && aheadOf(l, other, at)
		}
		if !kept {
			places = append(places, at)
		}
	}
	return places
}

// openAt is how many operations are open at a place.
func openAt(l []api.Oper, place int) int {
	n := 0
	for _, o := range l {
		if o.From > place || o.To >= 0 && o.To < place {
			continue
		}
		n++
	}
	return n
}

// crowdOf is by the chapter's words how many are open at a time: each beginning is asked by itself.
func crowdOf(l []api.Oper) int {
	most := 0
	for _, o := range l {
		most = max(most, openAt(l, o.From))
	}
	return most
}

// kinds is all operations with places from -1 on, below n.
func kinds(n int) []api.Oper {
	var l []api.Oper
	for from := -1; from < n; from++ {
		for to := -1; to < n; to++ {
			l = append(l, oper(from, to))
		}
	}
	return l
}

// lists does something with all lists of up to n of these.
func lists[T any](of []T, n int, do func([]T)) {
	var grow func([]T)
	grow = func(l []T) {
		do(l)
		if len(l) == n {
			return
		}
		for _, x := range of {
			grow(append(slices.Clip(l), x))
		}
	}
	grow(nil)
}

// orders is all lists of up to n places, from one ahead of the first one to one behind the last one of n.
func orders(n int) [][]int {
	var places []int
	for at := -1; at <= n; at++ {
		places = append(places, at)
	}
	var all [][]int
	lists(places, n+1, func(l []int) { all = append(all, slices.Clone(l)) })
	return all
}

// flags is all lists of up to n bools.
func flags(n int) [][]bool {
	var all [][]bool
	lists([]bool{false, true}, n, func(l []bool) { all = append(all, slices.Clone(l)) })
	return all
}

// shuffled is numbers from 0 on, below n, in an order that looks like chance.
func shuffled(n int, c *chance) []int {
	l := make([]int, n)
	for at := range l {
		other := c.next(at + 1)
		l[at] = l[other]
		l[other] = at
	}
	return l
}

// lived is a list as a history would have it: threads begin and are answered by turns, some never; behind n calls no further one begins.
func lived(n, threads int, c *chance) []api.Oper {
	var l []api.Oper
	busy := map[int]int{}
	for place := 0; len(l) < n; place++ {
		thread := c.next(threads)
		if at, ok := busy[thread]; ok {
			l[at].To = place
			delete(busy, thread)
			continue
		}
		busy[thread] = len(l)
		l = append(l, api.Oper{Thread: thread, From: place, To: -1})
	}
	return l
}

// wild is operations whose places are any from -2 on, below n: they may end ahead of their beginning, and are in no order.
func wild(many, n int, c *chance) []api.Oper {
	l := make([]api.Oper, many)
	for at := range l {
		l[at] = oper(c.next(n+2)-2, c.next(n+2)-2)
	}
	return l
}

// Promises 14.1, 14.2: the chapter's example.
func TestExample(t *testing.T) {
	l := opers(0, 1, 2, -1)
	is(t, "Ahead of the first one and the second one", Ahead(l[0], l[1]), true)
	is(t, "Ahead of the second one and the first one", Ahead(l[1], l[0]), false)
	is(t, "May of 0", May(l, []int{0}), true)
	is(t, "May of 0, 1", May(l, []int{0, 1}), true)
	is(t, "May of 1, 0", May(l, []int{1, 0}), false)
	same(t, "Next of nothing done", Next(l, nil), []int{0})
	same(t, "Next of the first one done", Next(l, []bool{true}), []int{1})
	is(t, "Crowd", Crowd(l), 1)
}

// Promise 14.1: an operation is ahead of those that begin behind its answer.
func TestAhead(t *testing.T) {
	for _, x := range []struct {
		to, from int
		want     bool
	}{
		{0, 1, true}, {0, 2, true}, {3, 4, true}, {3, 100, true}, {0, math.MaxInt, true}, {math.MaxInt - 1, math.MaxInt, true}, {math.MaxInt32, math.MaxInt32 + 1, true},
		{0, 0, false}, {1, 1, false}, {4, 4, false}, {math.MaxInt, math.MaxInt, false}, // where it ends
		{1, 0, false}, {5, 4, false}, {5, 0, false}, {math.MaxInt, 0, false}, {math.MaxInt, math.MaxInt - 1, false}, {1 << 32, 1, false},
		{-1, 0, false}, {-1, 1, false}, {-1, math.MaxInt, false}, {-2, -1, false}, {-5, 7, false}, {math.MinInt, 0, false}, {math.MinInt, math.MinInt + 1, false}, {math.MinInt, math.MaxInt, false}, // not answered
		{0, -1, false}, {0, math.MinInt, false}, {7, -7, false}, {-1, -1, false}, {-3, -2, false}, {math.MaxInt, math.MinInt, false}, // a beginning below 0
	} {
		is(t, fmt.Sprintf("Ahead of one to %d and one from %d", x.to, x.from), Ahead(oper(0, x.to), oper(x.from, -1)), x.want)
	}
}

// Promise 14.1: nothing counts but where the one ends and where the other one begins.
func TestAheadOthers(t *testing.T) {
	for _, n := range edges() {
		a := api.Oper{Thread: n, Call: api.Call{Op: n, Key: 9}, Answer: api.Answer{Kind: n, Val: 9}, From: n, To: 3}
		b := api.Oper{Thread: -n, Call: api.Call{Op: -n}, Answer: api.Answer{Kind: -n}, From: 4, To: n}
		is(t, fmt.Sprint("Ahead with others ", n), Ahead(a, b), true)
		b.From = 3
		is(t, fmt.Sprint("Ahead with others, not behind it ", n), Ahead(a, b), false)
	}
}

// Promise 14.1: all operations with places at the edges of an int, and each one with itself.
func TestAheadEdges(t *testing.T) {
	for _, to := range edges() {
		for _, from := range edges() {
			a, b := oper(5, to), oper(from, 5)
			is(t, fmt.Sprintf("Ahead to %d, from %d", to, from), Ahead(a, b), rises(a, b))
			itself := oper(from, to)
			is(t, fmt.Sprintf("Ahead of itself, from %d to %d", from, to), Ahead(itself, itself), rises(itself, itself))
		}
	}
	is(t, "Ahead of zero ones", Ahead(api.Oper{}, api.Oper{}), false)
	is(t, "Ahead of itself", Ahead(oper(2, 5), oper(2, 5)), false)
	is(t, "Ahead of itself, ended at its beginning", Ahead(oper(5, 5), oper(5, 5)), false)
	is(t, "Ahead of one that is as it, ended ahead of its beginning", Ahead(oper(5, 4), oper(5, 4)), true)
}

// Promise 14.1: of no operations the order without places may be, and no other one.
func TestMayNone(t *testing.T) {
	for _, l := range [][]api.Oper{nil, {}} {
		is(t, "May of none, nil", May(l, nil), true)
		is(t, "May of none, empty", May(l, []int{}), true)
		for _, at := range edges() {
			is(t, fmt.Sprint("May of none, ", at), May(l, []int{at}), false)
		}
	}
}

// Promise 14.1: an order has places of theirs alone.
func TestMayPlaces(t *testing.T) {
	l := opers(0, -1, 1, -1, 2, -1)
	for _, at := range edges() {
		ours := at >= 0 && at <= 2
		is(t, fmt.Sprint("May of ", at), May(l, []int{at}), ours)
		if !ours {
			is(t, fmt.Sprint("May of all and ", at), May(l, []int{0, 1, 2, at}), false)
			is(t, fmt.Sprint("May of all behind ", at), May(l, []int{at, 0, 1, 2}), false)
			is(t, fmt.Sprint("May of some around ", at), May(l, []int{2, at, 1}), false)
		}
	}
	is(t, "May of as many as there are", May(l, []int{3}), false)
	is(t, "May of one below the first", May(l, []int{-1}), false)
}

// Promise 14.1: each place stands in an order at most once.
func TestMayTwice(t *testing.T) {
	l := opers(0, 5, 1, -1, 2, 7)
	for _, order := range [][]int{{0, 0, 2}, {0, 2, 0}, {0, 2, 2}, {0, 1, 1, 2}, {1, 0, 2, 1}, {0, 1, 2, 0, 1, 2}} {
		is(t, fmt.Sprint("May of ", order), May(l, order), false)
	}
	is(t, "May of each once", May(l, []int{2, 1, 0}), true)
}

// Promise 14.1: what is answered is in an order; what isn't may be left out.
func TestMayLeft(t *testing.T) {
	l := opers(0, 9, 1, -1, 2, 8, 3, math.MinInt)
	for _, order := range [][]int{{0, 2}, {2, 0}, {0, 1, 2}, {2, 3, 0}, {3, 2, 1, 0}} {
		is(t, fmt.Sprint("May of ", order), May(l, order), true)
	}
	for _, order := range [][]int{nil, {0}, {2}, {1}, {3, 1}, {1, 2, 3}, {3, 0, 1}} {
		is(t, fmt.Sprint("May of ", order), May(l, order), false)
	}
	is(t, "May of nothing, where an answer is at 0", May(opers(0, 0), nil), false)
	is(t, "May of nothing, where nothing is answered", May(opers(0, -1, 0, -9), nil), true)
}

// Promise 14.1: none stands behind one that it is ahead of, side by side or with others between.
func TestMayBehind(t *testing.T) {
	l := opers(0, 1, 2, 9, 3, 9, 4, -1)
	for _, order := range [][]int{{0, 1, 2, 3}, {0, 3, 2, 1}, {0, 2, 1}, {0, 3, 1, 2}} {
		is(t, fmt.Sprint("May of ", order), May(l, order), true)
	}
	for _, order := range [][]int{{1, 0, 2}, {3, 0, 1, 2}, {1, 2, 0}, {3, 1, 2, 0}, {2, 1, 3, 0}, {2, 3, 0, 1}} {
		is(t, fmt.Sprint("May of ", order), May(l, order), false)
	}
	near := opers(0, 3, 3, 5)
	is(t, "May of one that ends where the other one begins", May(near, []int{1, 0}), true)
	far := opers(5, 9, math.MaxInt, -1, 0, math.MaxInt-1)
	is(t, "May at the edge", May(far, []int{2, 0, 1}), true)
	is(t, "May at the edge, behind it", May(far, []int{0, 1, 2}), false)
}

// Promise 14.1: an operation that ends ahead of its beginning doesn't stand behind itself.
func TestMayItself(t *testing.T) {
	is(t, "May of one", May(opers(5, 2), []int{0}), true)
	is(t, "May of one, left out", May(opers(5, 2), nil), false)
	is(t, "May of two, each ahead of the other one", May(opers(5, 2, 6, 3), []int{0, 1}), false)
	is(t, "May of two, each ahead of the other one, turned", May(opers(5, 2, 6, 3), []int{1, 0}), false)
	is(t, "May of two, one ahead of the other one", May(opers(5, 2, 3, -1), []int{0, 1}), true)
	is(t, "May of two, one behind", May(opers(5, 2, 3, -1), []int{1, 0}), false)
}

// Promise 14.1: all orders of up to three operations, against the words of the chapter.
func TestMayAll(t *testing.T) {
	lists(kinds(3), 2, func(l []api.Oper) {
		for _, order := range orders(len(l)) {
			if got, want := May(l, order), mayBe(l, order); got != want {
				t.Fatalf("May of %v and %v: %v", l, order, got)
			}
		}
	})
	three := orders(3)
	few := []api.Oper{oper(0, -1), oper(0, 0), oper(1, 0), oper(0, 1), oper(1, 1), oper(1, -1), oper(2, 1), oper(2, 5), oper(-1, 0)}
	lists(few, 3, func(l []api.Oper) {
		if len(l) < 3 {
			return
		}
		for _, order := range three {
			if got, want := May(l, order), mayBe(l, order); got != want {
				t.Fatalf("May of %v and %v: %v", l, order, got)
			}
		}
	})
}

// Promise 14.1: orders of more operations, all of them in them or some left out, against the words of the chapter.
func TestMayMany(t *testing.T) {
	c := chance(1)
	yes := 0
	for round := range 20000 {
		l := wild(2+c.next(6), 4+c.next(20), &c)
		if round%2 == 0 {
			l = lived(2+c.next(6), 2+c.next(4), &c)
		}
		order := shuffled(len(l), &c)
		order = order[:len(order)-c.next(2)]
		got := May(l, order)
		if got != mayBe(l, order) {
			t.Fatalf("May of %v and %v: %v", l, order, got)
		}
		if got {
			yes++
		}
	}
	if yes < 500 {
		t.Fatal("too few orders that may be: ", yes)
	}
}

// Promise 14.2: where nothing is done, and where all is.
func TestNext(t *testing.T) {
	l := opers(0, 2, 1, 5, 3, 4, 6, -1)
	for _, x := range []struct {
		done []bool
		want []int
	}{
		{nil, []int{0, 1}},
		{[]bool{}, []int{0, 1}},
		{[]bool{false, false, false, false}, []int{0, 1}},
		{[]bool{true}, []int{1, 2}}, // what isn't told isn't done
		{[]bool{true, false, false, false}, []int{1, 2}},
		{[]bool{false, true}, []int{0}},
		{[]bool{true, true}, []int{2}},
		{[]bool{true, false, true}, []int{1}},
		{[]bool{false, false, true}, []int{0, 1}},
		{[]bool{true, true, true}, []int{3}},
		{[]bool{false, false, false, true}, []int{0, 1}},
		{[]bool{true, true, true, true}, nil},
		{[]bool{true, true, true, true, false, false}, nil}, // more than there are
		{[]bool{false, true, true, true, true, true}, []int{0}},
		{[]bool{true, true, true, false, true}, []int{3}},
	} {
		same(t, fmt.Sprint("Next of ", x.done), Next(l, x.done), x.want)
	}
}

// Promise 14.2: of no operations none comes next.
func TestNextNone(t *testing.T) {
	for _, l := range [][]api.Oper{nil, {}} {
		for _, done := range flags(3) {
			same(t, fmt.Sprint("Next of none, ", done), Next(l, done), nil)
		}
	}
}

// Promise 14.2: what isn't answered keeps none back, and is kept back itself.
func TestNextOpen(t *testing.T) {
	same(t, "Next of open ones", Next(opers(0, -1, 1, -1, 9, math.MinInt, math.MaxInt, -2), nil), []int{0, 1, 2, 3})
	same(t, "Next of open ones behind one", Next(opers(5, -1, 0, 4, 4, -1, 3, -1), nil), []int{1, 2, 3})
	same(t, "Next of one that ends where others begin", Next(opers(0, 4, 4, 4, 4, -1), nil), []int{0, 1, 2})
	same(t, "Next with a beginning below 0", Next(opers(-5, 0, -1, 3, 0, 3, 1, 3), nil), []int{0, 1, 2})
	same(t, "Next of ones that end below 0", Next(opers(-9, -8, -5, -4, 3, 4), nil), []int{0, 1, 2})
	same(t, "Next at the edge", Next(opers(math.MaxInt, math.MaxInt, 0, math.MaxInt-1, math.MaxInt-1, -1), nil), []int{1, 2})
}

// Promise 14.2: one that is done keeps none back, however many it was ahead of.
func TestNextDone(t *testing.T) {
	l := opers(9, -1, 0, 1, 8, 9, 2, 3)
	same(t, "Next of nothing done", Next(l, nil), []int{1})
	same(t, "Next of the first done", Next(l, []bool{false, true}), []int{3})
	same(t, "Next of both done", Next(l, []bool{false, true, false, true}), []int{0, 2})
	same(t, "Next of the one between done", Next(l, []bool{false, false, false, true}), []int{1})
}

// Promise 14.2: operations that end ahead of their beginning: another one keeps them back, not they themselves.
func TestNextItself(t *testing.T) {
	same(t, "Next of one", Next(opers(5, 2), nil), []int{0})
	same(t, "Next of one, done", Next(opers(5, 2), []bool{true}), nil)
	same(t, "Next of two, each ahead of the other one", Next(opers(5, 2, 6, 3), nil), nil)
	same(t, "Next of two that are like each other", Next(opers(5, 4, 5, 4), nil), nil)
	same(t, "Next of two, the other one done", Next(opers(5, 2, 6, 3), []bool{false, true}), []int{0})
	same(t, "Next of two, the first ahead", Next(opers(1, 0, 5, 3), nil), []int{0})
	same(t, "Next of two, the second ahead", Next(opers(5, 3, 1, 0), nil), []int{1})
	same(t, "Next of one among others", Next(opers(5, 2, 2, 9, 3, 9, 5, -1), nil), []int{0, 1})
	same(t, "Next of three, each ahead of the others", Next(opers(9, 1, 8, 2, 7, 3), nil), nil)
	same(t, "Next of three, the last ahead", Next(opers(9, 1, 8, 2, 0, 3), nil), []int{2})
}

// Promise 14.2: all lists of up to three operations with all that may be done of them, against the words of the chapter.
func TestNextAll(t *testing.T) {
	all := flags(4)
	lists(kinds(3), 3, func(l []api.Oper) {
		for _, done := range all {
			if got, want := Next(l, done), nextOf(l, done); !slices.Equal(got, want) {
				t.Fatalf("Next of %v and %v: %v, not %v", l, done, got, want)
			}
		}
	})
}

// Promise 14.2: the places rise; many operations, against the words of the chapter.
func TestNextMany(t *testing.T) {
	c := chance(2)
	for round := range 10000 {
		l := wild(c.next(20), 2+c.next(40), &c)
		if round%2 == 0 {
			l = lived(c.next(48), 1+c.next(6), &c)
		}
		done := make([]bool, c.next(len(l)+3))
		for at := range done {
			done[at] = c.next(3) > 0
		}
		got := Next(l, done)
		same(t, fmt.Sprintf("Next of %v and %v", short(l), short(done)), got, nextOf(l, done))
		is(t, "whether the places rise", slices.IsSorted(got), true)
	}
}

// Promise 14.2: what comes next is told till it is told to stop, and again.
func TestComing(t *testing.T) {
	s := coming(opers(0, -1, 0, 3, 1, -1, 9, 9), nil)
	for n := range 4 {
		var told []int
		for at := range s {
			told = append(told, at)
			if len(told) > n {
				break
			}
		}
		same(t, fmt.Sprint("told till ", n), told, []int{0, 1, 2}[:min(n+1, 3)])
	}
}

// Promise 14.2: the crowd of none, of one, one behind the other, all at once.
func TestCrowd(t *testing.T) {
	for _, x := range []struct {
		l    []api.Oper
		want int
	}{
		{nil, 0},
		{[]api.Oper{}, 0},
		{opers(0, 0), 1},
		{opers(0, 1), 1},
		{opers(7, -1), 1},
		{opers(-7, -7), 1},
		{opers(-7, 3), 1},
		{opers(math.MinInt, math.MinInt), 1},
		{opers(math.MinInt, math.MaxInt), 1},
		{opers(math.MaxInt, math.MaxInt), 1},
		{opers(math.MaxInt, math.MinInt), 1},
		{opers(0, 1, 2, 3, 4, 5), 1}, // one behind the other
		{opers(4, 5, 2, 3, 0, 1), 1},
		{opers(0, 1, 2, 3, 4, -1), 1},
		{opers(0, 5, 1, 5, 2, 5), 3}, // all at once
		{opers(0, 9, 1, 8, 2, 7, 3, 6), 4},
		{opers(5, 5, 5, 5, 5, 5), 3},
		{opers(0, -1, 1, -1, 2, -1), 3}, // open from their beginning on
		{opers(0, -1, 1, 2, 3, 4, 5, 6), 2},
		{opers(9, -1, 1, 2, 3, 4), 1},
		{opers(9, -7, 0, math.MinInt), 2},
		{opers(0, 3, 3, 5), 2}, // one ends where another one begins
		{opers(3, 5, 0, 3), 2},
		{opers(0, 3, 3, 5, 5, 7), 2},
		{opers(0, 2, 3, 5), 1},
		{opers(0, 3, 3, 5, 3, -1), 3},
		{opers(0, 4, 1, 2, 3, 6, 5, 7), 2}, // never all
		{opers(0, 10, 1, 2, 3, 4, 5, 20, 6, 20), 3},
		{opers(0, 20, 1, 3, 2, 3, 4, 9, 10, 11, 10, 12), 3},
		{opers(-5, 0, -3, 1, 0, 2, 2, -1), 3}, // beginnings below 0
		{opers(-5, -3, -4, -2), 2},
		{opers(math.MaxInt-1, math.MaxInt-1, math.MaxInt, math.MaxInt), 1},
		{opers(math.MaxInt-1, math.MaxInt, math.MaxInt, math.MaxInt), 2},
		{opers(math.MinInt, 0, 0, 0), 2},
		{opers(math.MinInt, 0, 1, 1), 1},
	} {
		is(t, fmt.Sprint("Crowd of ", short(x.l)), Crowd(x.l), x.want)
	}
}

// Promise 14.2: an operation that ends ahead of its beginning is open nowhere, not where it begins either.
func TestCrowdItself(t *testing.T) {
	is(t, "Crowd of one", Crowd(opers(5, 2)), 0)
	is(t, "Crowd of one that ends at the place below its beginning", Crowd(opers(1, 0)), 0)
	is(t, "Crowd of two", Crowd(opers(5, 2, 9, 0)), 0)
	is(t, "Crowd with one that is open then", Crowd(opers(5, 2, 0, 7)), 1)
	is(t, "Crowd with ones that are open then", Crowd(opers(5, 2, 0, 7, 6, -1)), 2)
	is(t, "Crowd with ones whose ends it would count", Crowd(opers(9, 0, 9, 0, 1, 2, 1, 2, 1, -1)), 3)
}

// Promise 14.2: the crowd of all lists of up to four operations, against the words of the chapter.
func TestCrowdAll(t *testing.T) {
	lists(kinds(3), 4, func(l []api.Oper) {
		if got, want := Crowd(l), crowdOf(l); got != want {
			t.Fatalf("Crowd of %v: %d, not %d", l, got, want)
		}
	})
}

// Promise 14.2: the crowd of places at the edges of an int, against the words of the chapter.
func TestCrowdEdges(t *testing.T) {
	var all []api.Oper
	for _, from := range edges() {
		for _, to := range edges() {
			all = append(all, oper(from, to))
		}
	}
	is(t, "Crowd of all", Crowd(all), crowdOf(all))
	lists(all, 2, func(l []api.Oper) { is(t, fmt.Sprint("Crowd of ", l), Crowd(l), crowdOf(l)) })
	c := chance(3)
	for range 5000 {
		l := make([]api.Oper, 2+c.next(8))
		for at := range l {
			l[at] = all[c.next(len(all))]
		}
		is(t, fmt.Sprint("Crowd of ", l), Crowd(l), crowdOf(l))
	}
}

// apart is how many there are at most of which none is ahead of another one: all choices of them are tried.
func apart(l []api.Oper) int {
	most := 0
	for choice := range 1 << len(l) {
		n, fits := 0, true
		for a := range l {
			if choice>>a&1 == 0 {
				continue
			}
			n++
			for b := range l {
				fits = fits && (choice>>b&1 == 0 || !aheadOf(l, a, b))
			}
		}
		if fits {
			most = max(most, n)
		}
	}
	return most
}

// Promise 14.2: where none ends ahead of its beginning, the crowd is the most of which none is ahead of another one.
func TestCrowdApart(t *testing.T) {
	c := chance(4)
	for range 3000 {
		l := lived(1+c.next(9), 1+c.next(6), &c)
		is(t, fmt.Sprint("Crowd of ", l), Crowd(l), apart(l))
	}
}

// key is an order as a value that can stand in a map.
func key(order []int) string { return fmt.Sprint(order) }

// told is all orders that are put together of Next again and again, whichever is taken, in which all is that is answered.
func told(l []api.Oper) map[string][]int {
	all := map[string][]int{}
	done := make([]bool, len(l))
	var grow func([]int)
	grow = func(order []int) {
		full := true
		for at, o := range l {
			full = full && (done[at] || o.To < 0)
		}
		if full {
			all[key(order)] = slices.Clone(order)
		}
		for _, at := range Next(l, done) {
			done[at] = true
			grow(append(slices.Clip(order), at))
			done[at] = false
		}
	}
	grow(nil)
	return all
}

// Promise 14.3: an order that is put together of Next again and again, till all that is answered is in it, may be; and there are no others that may be.
func TestOrders(t *testing.T) {
	all := [][][]int{orders(0), orders(1), orders(2), orders(3)}
	few := []api.Oper{oper(0, -1), oper(0, 0), oper(1, 0), oper(0, 1), oper(1, 1), oper(1, -1), oper(2, 1), oper(2, 5), oper(-1, 0), oper(3, 3), oper(3, -1)}
	lists(few, 3, func(l []api.Oper) {
		made := told(l)
		for _, order := range made {
			if !May(l, order) {
				t.Fatalf("May of %v and %v, put together: false", l, order)
			}
		}
		for _, order := range all[len(l)] {
			if _, ok := made[key(order)]; May(l, order) && !ok {
				t.Fatalf("May of %v and %v, not put together: true", l, order)
			}
		}
	})
}

// Promise 14.3: of more operations too, whichever is taken; none of a history is kept back for ever.
func TestOrdersMany(t *testing.T) {
	c := chance(5)
	for range 300 {
		l := lived(c.next(49), 1+c.next(6), &c)
		done := make([]bool, len(l))
		var order []int
		for {
			next := Next(l, done)
			if len(next) == 0 {
				break
			}
			at := next[c.next(len(next))]
			done[at] = true
			order = append(order, at)
			is(t, fmt.Sprint("May of ", short(order)), May(l, order), mayBe(l, order))
		}
		is(t, "how many are in", len(order), len(l))
		is(t, "May of all", May(l, order), true)
		is(t, "May of all by the chapter's words", mayBe(l, order), true)
	}
}

// whole is what is told of operations, of which these are done, and of an order.
func whole(l []api.Oper, done []bool, order []int) string {
	return fmt.Sprint(May(l, order), Next(l, done), Crowd(l))
}

// Promises 14.1, 14.2: lists that are handed in aren't changed, up to where they could be appended to; nor kept.
func TestHandedIn(t *testing.T) {
	c := chance(6)
	for range 300 {
		l := append(wild(9, 12, &c), lived(7, 3, &c)...)
		done := make([]bool, 12)
		for at := range done {
			done[at] = c.next(2) == 0
		}
		order := shuffled(16, &c)
		wasL, wasDone, wasOrder := slices.Clone(l), slices.Clone(done), slices.Clone(order)
		n, m, k := c.next(17), c.next(13), c.next(17)
		text := whole(l[:n], done[:m], order[:k])
		next := Next(l[:n], done[:m])
		same(t, "operations", l, wasL)
		same(t, "done", done, wasDone)
		same(t, "order", order, wasOrder)
		is(t, "told again", whole(l[:n], done[:m], order[:k]), text)
		kept := slices.Clone(next)
		for at := range l {
			l[at] = oper(c.next(9), -1)
		}
		clear(done)
		clear(order)
		same(t, "places, behind a change of all lists", next, kept)
		is(t, "told of the same again", whole(wasL[:n], wasDone[:m], wasOrder[:k]), text)
	}
}

// Promise 14.2: places that are told are new each time: changed or appended to, they play no part.
func TestTold(t *testing.T) {
	l, done := opers(0, 5, 1, 5, 2, 5, 6, 7), []bool{false, true}
	first, second := Next(l, done), Next(l, done)
	first[0] = 9
	_ = append(first, 9, 9)
	same(t, "told ahead of the change", second, []int{0, 2})
	same(t, "told behind it", Next(l, done), []int{0, 2})
	_ = append(second[:1], 7)
	same(t, "told behind both", Next(l, done), []int{0, 2})
	same(t, "operations", l, opers(0, 5, 1, 5, 2, 5, 6, 7))
	same(t, "done", done, []bool{false, true})
}

// P1: very many operations, one behind the other, all at once, and as a history has them.
func TestVeryMany(t *testing.T) {
	const n = 200000
	row, heap := make([]api.Oper, n), make([]api.Oper, n)
	order, done := make([]int, n), make([]bool, n)
	for at := range n {
		row[at], heap[at], order[at] = oper(2*at, 2*at+1), oper(at, n+at), at
		done[at] = at < n/2
	}
	is(t, "Crowd of a row", Crowd(row), 1)
	is(t, "Crowd of all at once", Crowd(heap), n)
	is(t, "May of a row", May(row, order), true)
	is(t, "May of all at once", May(heap, order), true)
	same(t, "Next of a row", Next(row, nil), []int{0})
	same(t, "Next of half a row", Next(row, done), []int{n / 2})
	same(t, "Next of all at once", Next(heap, nil), order)
	same(t, "Next of half of all at once", Next(heap, done), order[n/2:])
	same(t, "Next of zero ones", Next(make([]api.Oper, n), done[:n/4]), order[n/4:])
	slices.Reverse(order)
	is(t, "May of a row, turned", May(row, order), false)
	is(t, "May of all at once, turned", May(heap, order), true)
	is(t, "May of all but one", May(heap, order[1:]), false)
	c := chance(7)
	l := lived(n, 6, &c)
	is(t, "Crowd of a history", Crowd(l), 6)
	slices.Reverse(l)
	is(t, "Crowd of a history, turned", Crowd(l), 6)
	same(t, "Next of a history, turned", Next(l, nil), firstOf(l))
}

// firstOf is the places of those that begin ahead of the first answer, or where it stands.
func firstOf(l []api.Oper) []int {
	first := math.MaxInt
	for _, o := range l {
		if o.To >= 0 {
			first = min(first, o.To)
		}
	}
	var places []int
	for at, o := range l {
		if o.From <= first {
			places = append(places, at)
		}
	}
	return places
}
