package pile

import (
	"math"
	"slices"
	"strconv"
	"testing"
)

// thing is of a type that is neither a number nor a text.
type thing struct {
	name string
	size int
}

// of is a pile of these things, pushed one behind the other.
func of[T comparable](l ...T) *Pile[T] {
	p := new(Pile[T])
	for _, x := range l {
		p.Push(x)
	}
	return p
}

// took is what taking one out, or looking at one, told.
type took[T comparable] struct {
	x  T
	ok bool
}

func pop[T comparable](p *Pile[T]) took[T]       { x, ok := p.Pop(); return took[T]{x, ok} }
func shift[T comparable](p *Pile[T]) took[T]     { x, ok := p.Shift(); return took[T]{x, ok} }
func at[T comparable](p *Pile[T], i int) took[T] { x, ok := p.At(i); return took[T]{x, ok} }

// is holds what was told against what should be.
func is[T comparable](t *testing.T, name string, got, want T) {
	t.Helper()
	if got != want {
		t.Errorf("%s: %v, not %v", name, got, want)
	}
}

// holds asks p in every way that changes nothing whether it is these things, in this order.
func holds[T comparable](t *testing.T, name string, p *Pile[T], want ...T) {
	t.Helper()
	for range 2 {
		is(t, name+", Len", p.Len(), len(want))
		if got := p.List(); !slices.Equal(got, want) {
			t.Errorf("%s, List: %v, not %v", name, got, want)
		}
		for i, x := range want {
			is(t, name+", At "+strconv.Itoa(i), at(p, i), took[T]{x, true})
			is(t, name+", Has one of it", p.Has(x), true)
		}
		for _, i := range []int{math.MinInt, -len(want) - 1, -len(want), -1, len(want), len(want) + 1, math.MaxInt} {
			if i < 0 || i >= len(want) {
				is(t, name+", At "+strconv.Itoa(i), at(p, i), took[T]{})
			}
		}
	}
}

func even(n int) bool { return n%2 == 0 }
func always(int) bool { return true }
func never(int) bool  { return false }

// below is the numbers from 0 on, below n.
func below(n int) []int {
	var l []int
	for i := range n {
		l = append(l, i)
	}
	return l
}

// The chapter's example.
func TestExample(t *testing.T) {
	p := of(1, 2, 3)
	is(t, "Pop", pop(p), took[int]{3, true})
	is(t, "Shift", shift(p), took[int]{1, true})
	is(t, "Len", p.Len(), 1)
	holds(t, "what is left", p, 2)
}

// Promise 4.1, Push: behind all others, like ones too.
func TestPush(t *testing.T) {
	var numbers Pile[int]
	for i, x := range []int{3, 1, 0, 1, math.MinInt} {
		numbers.Push(x)
		holds(t, "numbers", &numbers, []int{3, 1, 0, 1, math.MinInt}[:i+1]...)
	}
	var texts Pile[string]
	texts.Push("b")
	texts.Push("")
	texts.Push("a")
	holds(t, "texts", &texts, "b", "", "a")
	var things Pile[thing]
	things.Push(thing{"x", 2})
	things.Push(thing{})
	things.Push(thing{"x", 1})
	holds(t, "things", &things, thing{"x", 2}, thing{}, thing{"x", 1})
	holds(t, "things without size", of(struct{}{}, struct{}{}), struct{}{}, struct{}{})
}

// Promise 4.1, Pop: the last one, till there is none, and none again and again.
func TestPop(t *testing.T) {
	p := of(4, 5, 6)
	for _, left := range [][]int{{4, 5}, {4}, {}} {
		is(t, "Pop", pop(p), took[int]{4 + len(left), true})
		holds(t, "behind Pop", p, left...)
	}
	for range 3 {
		is(t, "Pop of none", pop(p), took[int]{})
		holds(t, "behind Pop of none", p)
	}
	one := of("x")
	is(t, "Pop of one", pop(one), took[string]{"x", true})
	is(t, "Pop of none of texts", pop(one), took[string]{})
	zero := of(thing{"a", 1}, thing{})
	is(t, "Pop of a zero thing", pop(zero), took[thing]{thing{}, true})
	is(t, "Pop of a thing", pop(zero), took[thing]{thing{"a", 1}, true})
	is(t, "Pop of no thing", pop(zero), took[thing]{})
}

// Promise 4.1, Shift: the first one, till there is none, and none again and again.
func TestShift(t *testing.T) {
	p := of(4, 5, 6)
	for i, left := range [][]int{{5, 6}, {6}, {}} {
		is(t, "Shift", shift(p), took[int]{4 + i, true})
		holds(t, "behind Shift", p, left...)
	}
	for range 3 {
		is(t, "Shift of none", shift(p), took[int]{})
		holds(t, "behind Shift of none", p)
	}
	one := of("x")
	is(t, "Shift of one", shift(one), took[string]{"x", true})
	is(t, "Shift of none of texts", shift(one), took[string]{})
	zero := of(thing{}, thing{"a", 1})
	is(t, "Shift of a zero thing", shift(zero), took[thing]{thing{}, true})
	is(t, "Shift of a thing", shift(zero), took[thing]{thing{"a", 1}, true})
	is(t, "Shift of no thing", shift(zero), took[thing]{})
}

// Promise 4.1: Pop and Shift in turns, and Push behind them.
func TestInTurns(t *testing.T) {
	p := of("a", "b", "c", "d", "e")
	is(t, "Shift", shift(p), took[string]{"a", true})
	is(t, "Pop", pop(p), took[string]{"e", true})
	p.Push("f")
	holds(t, "behind Push", p, "b", "c", "d", "f")
	is(t, "Pop of what was pushed", pop(p), took[string]{"f", true})
	is(t, "Shift", shift(p), took[string]{"b", true})
	is(t, "Shift", shift(p), took[string]{"c", true})
	p.Push("g")
	p.Push("h")
	holds(t, "behind two", p, "d", "g", "h")
	is(t, "Pop", pop(p), took[string]{"h", true})
	is(t, "Pop", pop(p), took[string]{"g", true})
	is(t, "Shift of the one left", shift(p), took[string]{"d", true})
	is(t, "Pop of none", pop(p), took[string]{})
	is(t, "Shift of none", shift(p), took[string]{})
	p.Push("i")
	holds(t, "pushed behind none", p, "i")
	is(t, "Pop of the one left", pop(p), took[string]{"i", true})
	is(t, "Shift of none", shift(p), took[string]{})
	p.Push("j")
	p.Push("k")
	holds(t, "pushed again", p, "j", "k")
}

// Promise 4.1: all rows of eight of the calls that change a pile, held against a plain list.
func TestAllShortRows(t *testing.T) {
	const calls, long = 4, 8
	rows := 1
	for range long {
		rows *= calls
	}
	for row := range rows {
		var p Pile[int]
		var l []int
		for k, n := 0, row; k < long; k, n = k+1, n/calls {
			want := took[int]{}
			switch n % calls {
			case 0:
				p.Push(k)
				l = append(l, k)
			case 1:
				if len(l) > 0 {
					want, l = took[int]{l[len(l)-1], true}, l[:len(l)-1]
				}
				is(t, "Pop", pop(&p), want)
			case 2:
				if len(l) > 0 {
					want, l = took[int]{l[0], true}, l[1:]
				}
				is(t, "Shift", shift(&p), want)
			case 3:
				before := len(l)
				l = slices.DeleteFunc(slices.Clone(l), even)
				is(t, "Keep", p.Keep(func(n int) bool { return !even(n) }), before-len(l))
			}
			if p.Len() != len(l) || !slices.Equal(p.List(), l) {
				t.Fatalf("row %d, call %d: %v, not %v", row, k, p.List(), l)
			}
		}
	}
}

// Promise 4.1, Len and List: how many, all of them in order; none of none.
func TestLenAndList(t *testing.T) {
	p := of[thing]()
	for i := range 40 {
		is(t, "Len", p.Len(), i)
		is(t, "things told", len(p.List()), i)
		p.Push(thing{"x", i})
		is(t, "the last one told", p.List()[i], thing{"x", i})
		is(t, "the first one told", p.List()[0], thing{"x", 0})
	}
	is(t, "a list of none", len(of[string]().List()), 0)
}

// Promise 4.1, Has: one that is there, wherever it stands; not one that was taken out, nor one never put in.
func TestHas(t *testing.T) {
	p := of(7, 8, 9)
	for n, want := range map[int]bool{7: true, 8: true, 9: true, 0: false, 6: false, 10: false, -7: false} {
		is(t, "Has "+strconv.Itoa(n), p.Has(n), want)
	}
	pop(p)
	shift(p)
	for n, want := range map[int]bool{7: false, 8: true, 9: false, 0: false} {
		is(t, "behind Pop and Shift, Has "+strconv.Itoa(n), p.Has(n), want)
	}
	shift(p)
	is(t, "the last one taken out", p.Has(8), false)
	is(t, "a zero one of an emptied pile", p.Has(0), false)
	p.Push(0)
	is(t, "a zero one that was put in", p.Has(0), true)
	p.Keep(never)
	is(t, "a zero one that was not kept", p.Has(0), false)
}

// Promise 4.1, Has: of like ones, the other one is there still; things of other types.
func TestHasOfLikeOnes(t *testing.T) {
	p := of("a", "b", "a")
	pop(p)
	is(t, "the first a", p.Has("a"), true)
	shift(p)
	is(t, "neither a", p.Has("a"), false)
	is(t, "no text", p.Has(""), false)
	things := of(thing{"a", 1}, thing{"b", 2})
	is(t, "a thing", things.Has(thing{"b", 2}), true)
	is(t, "half a thing", things.Has(thing{"b", 1}), false)
	is(t, "a zero thing", things.Has(thing{}), false)
	one, other := thing{"a", 1}, thing{"a", 1}
	pointers := of(&one, nil)
	is(t, "a pointer", pointers.Has(&one), true)
	is(t, "another pointer", pointers.Has(&other), false)
	is(t, "nil", pointers.Has(nil), true)
}

// P1, Has: things that can't be compared are like none, and hide no other one.
func TestHasOfWhatCannotBeCompared(t *testing.T) {
	list, holder := []int{1}, struct{ x any }{[]int{1}}
	p := of[any](list, 5, holder, "a", nil)
	is(t, "a list", p.Has(list), false)
	is(t, "a struct with a list", p.Has(holder), false)
	is(t, "a map", p.Has(map[int]int{}), false)
	is(t, "a number behind a list", p.Has(5), true)
	is(t, "a text behind a list", p.Has("a"), true)
	is(t, "nil", p.Has(nil), true)
	is(t, "a number of another type", p.Has(int64(5)), false)
	is(t, "as many as before", p.Len(), 5)
	structs := of(struct{ x any }{[]int{1}}, struct{ x any }{2})
	is(t, "one behind such a one", structs.Has(struct{ x any }{2}), true)
	is(t, "such a one", structs.Has(struct{ x any }{[]int{1}}), false)
}

// Promise 4.1, At: the one at place i, from 0 on.
func TestAt(t *testing.T) {
	p := of("a", "b", "c")
	for i, want := range []string{"a", "b", "c"} {
		is(t, "At "+strconv.Itoa(i), at(p, i), took[string]{want, true})
	}
	for _, i := range []int{-1, -3, 3, 4, math.MaxInt, math.MinInt, math.MaxInt32 + 1} {
		is(t, "At "+strconv.Itoa(i), at(p, i), took[string]{})
	}
	shift(p)
	is(t, "behind Shift, At 0", at(p, 0), took[string]{"b", true})
	is(t, "behind Shift, At 2", at(p, 2), took[string]{})
	is(t, "behind Shift, At -1", at(p, -1), took[string]{})
	pop(p)
	is(t, "behind Pop, At 0", at(p, 0), took[string]{"b", true})
	is(t, "behind Pop, At 1", at(p, 1), took[string]{})
	pop(p)
	is(t, "of none, At 0", at(p, 0), took[string]{})
	is(t, "a zero thing", at(of(thing{"a", 1}, thing{}), 1), took[thing]{thing{}, true})
}

// Promise 4.1, Keep: those stay for which is is true, in their order; it tells how many went.
func TestKeep(t *testing.T) {
	for _, c := range []struct {
		name string
		is   func(int) bool
		went int
		left []int
	}{
		{"none", never, 7, nil},
		{"some", even, 3, []int{4, 2, 4, 0}},
		{"all", always, 0, []int{5, 4, 3, 2, 4, 1, 0}},
		{"the first", func(n int) bool { return n == 5 }, 6, []int{5}},
		{"the last", func(n int) bool { return n == 0 }, 6, []int{0}},
		{"all but the first", func(n int) bool { return n != 5 }, 1, []int{4, 3, 2, 4, 1, 0}},
		{"all but the last", func(n int) bool { return n != 0 }, 1, []int{5, 4, 3, 2, 4, 1}},
		{"like ones", func(n int) bool { return n == 4 }, 5, []int{4, 4}},
		{"nil", nil, 0, []int{5, 4, 3, 2, 4, 1, 0}},
	} {
		p := of(5, 4, 3, 2, 4, 1, 0)
		is(t, c.name+": how many went", p.Keep(c.is), c.went)
		holds(t, c.name, p, c.left...)
		is(t, c.name+", again: how many went", p.Keep(c.is), 0)
		holds(t, c.name+", again", p, c.left...)
		p.Push(9)
		holds(t, c.name+", and Push", p, append(slices.Clone(c.left), 9)...)
		is(t, c.name+", and Pop", pop(p), took[int]{9, true})
		is(t, c.name+", and Shift", shift(p).ok, len(c.left) > 0)
	}
}

// Promise 4.1, Keep: things of other types, one, none, and behind Shift.
func TestKeepOfOthers(t *testing.T) {
	big := func(x thing) bool { return x.size > 1 }
	things := of(thing{"a", 2}, thing{"b", 1}, thing{"c", 3})
	is(t, "things that went", things.Keep(big), 1)
	holds(t, "things", things, thing{"a", 2}, thing{"c", 3})
	shift(things)
	things.Push(thing{"d", 0})
	is(t, "behind Shift and Push, went", things.Keep(big), 1)
	holds(t, "behind Shift and Push", things, thing{"c", 3})
	is(t, "the one that is left goes", things.Keep(func(thing) bool { return false }), 1)
	holds(t, "none", things)
	for _, f := range []func(int) bool{always, never, nil} {
		is(t, "of none went", of[int]().Keep(f), 0)
	}
	texts := of("", "x")
	is(t, "a zero text stays", texts.Keep(func(s string) bool { return s == "" }), 1)
	holds(t, "texts", texts, "")
}

// Promise 4.1, Keep: each thing is asked of once, in order, and the pile is whole meanwhile.
func TestKeepAsksEachOnce(t *testing.T) {
	p := of(3, 1, 2, 1)
	var asked []int
	went := p.Keep(func(n int) bool {
		asked = append(asked, n)
		is(t, "List meanwhile", slices.Equal(p.List(), []int{3, 1, 2, 1}), true)
		return n > 1
	})
	is(t, "how many went", went, 2)
	is(t, "asked of each once", slices.Equal(asked, []int{3, 1, 2, 1}), true)
	holds(t, "what stayed", p, 3, 2)
}

// P1, Keep: a function that changes the pile makes nothing panic or go on for ever;
// what was there at first is asked of, and stays or goes.
func TestKeepWithChangesMeanwhile(t *testing.T) {
	for name, change := range map[string]func(*Pile[int]){
		"Push":  func(p *Pile[int]) { p.Push(8) },
		"Pop":   func(p *Pile[int]) { p.Pop() },
		"Shift": func(p *Pile[int]) { p.Shift() },
		"Keep":  func(p *Pile[int]) { p.Keep(never) },
	} {
		p := of(1, 2, 3, 4)
		went := p.Keep(func(n int) bool { change(p); return even(n) })
		is(t, name+": how many went", went, 2)
		holds(t, name, p, 2, 4)
	}
}

// The rule of what is refused: where a function that is handed in panics, the pile stays as it was.
func TestKeepThatPanics(t *testing.T) {
	p := of(1, 2, 3)
	func() {
		defer func() {
			if recover() == nil {
				t.Error("the panic of a function that was handed in was swallowed")
			}
		}()
		p.Keep(func(n int) bool {
			if n == 3 {
				panic("no more")
			}
			return false
		})
	}()
	holds(t, "behind it", p, 1, 2, 3)
}

// Promise 4.1: a zero pile is empty in every call.
func TestZeroPile(t *testing.T) {
	for name, do := range map[string]func(*Pile[int]) bool{
		"Pop":   func(p *Pile[int]) bool { return pop(p) == took[int]{} },
		"Shift": func(p *Pile[int]) bool { return shift(p) == took[int]{} },
		"Len":   func(p *Pile[int]) bool { return p.Len() == 0 },
		"Has":   func(p *Pile[int]) bool { return !p.Has(0) && !p.Has(1) },
		"At": func(p *Pile[int]) bool {
			return at(p, 0) == took[int]{} && at(p, -1) == took[int]{} && at(p, 1) == took[int]{}
		},
		"Keep":     func(p *Pile[int]) bool { return p.Keep(always) == 0 && p.Keep(never) == 0 },
		"Keep nil": func(p *Pile[int]) bool { return p.Keep(nil) == 0 },
		"List":     func(p *Pile[int]) bool { return len(p.List()) == 0 },
	} {
		var p Pile[int]
		is(t, name+" of a zero pile", do(&p), true)
		holds(t, "behind "+name, &p)
		p.Push(0)
		holds(t, "behind "+name+" and Push", &p, 0)

		var none *Pile[int]
		is(t, name+" of a nil pile", do(none), true)
	}
}

// Promise 4.1: of a nil pile nothing is done, told, had, and nobody is asked.
func TestNilPile(t *testing.T) {
	var p *Pile[thing]
	p.Push(thing{"a", 1})
	holds(t, "behind Push", p)
	is(t, "Has what was pushed", p.Has(thing{"a", 1}), false)
	is(t, "Has a zero one", p.Has(thing{}), false)
	is(t, "Pop", pop(p), took[thing]{})
	is(t, "Shift", shift(p), took[thing]{})
	is(t, "Keep", p.Keep(func(thing) bool { t.Error("asked"); return true }), 0)
	is(t, "Keep of nil", p.Keep(nil), 0)
	holds(t, "behind all", p)
}

// The rule of memory: lists that were told share none, neither with each other nor with the pile.
func TestListsAreNotShared(t *testing.T) {
	for name, laid := range map[string]func() *Pile[int]{
		"pushed":  func() *Pile[int] { return of(1, 2, 3) },
		"popped":  func() *Pile[int] { p := of(1, 2, 3, 4); p.Pop(); return p },
		"shifted": func() *Pile[int] { p := of(0, 1, 2, 3); p.Shift(); return p },
		"kept":    func() *Pile[int] { p := of(1, 2, 9, 3); p.Keep(func(n int) bool { return n < 9 }); return p },
		"as told": func() *Pile[int] { p := of(1, 2, 3); p.Keep(nil); return p },
	} {
		p := laid()
		a, b := p.List(), p.List()
		clear(a)
		_ = append(a, 7)
		_ = append(a[:1], 7)
		holds(t, name+": a list was changed, the pile", p, 1, 2, 3)
		is(t, name+": the other list is the same", slices.Equal(b, []int{1, 2, 3}), true)
		p.Push(4)
		p.Shift()
		p.Keep(even)
		p.Pop()
		p.Push(5)
		p.Push(6)
		is(t, name+": the pile was changed, a list is the same", slices.Equal(b, []int{1, 2, 3}), true)
		is(t, name+": behind the list's end", slices.Equal(append(p.List(), 8), []int{2, 5, 6, 8}), true)
		holds(t, name+": the pile", p, 2, 5, 6)
	}
}

// Two piles share nothing.
func TestPilesAreApart(t *testing.T) {
	p, q := of(1, 2), of(1, 2)
	p.Push(3)
	q.Shift()
	p.Keep(even)
	holds(t, "one", p, 2)
	holds(t, "the other", q, 2)
	p.Pop()
	holds(t, "one", p)
	holds(t, "the other", q, 2)
}

// What was taken out is not kept: no more is kept than the promises need.
func TestTakenOutIsLetGo(t *testing.T) {
	p := of(new(thing), new(thing), new(thing))
	whole := p.things
	p.Pop()
	is(t, "popped", whole[2], nil)
	p.Shift()
	is(t, "shifted", whole[0], nil)
	is(t, "the one between", p.Has(whole[1]), true)
}

// Promise 4.2: pushed and shifted, things keep their order; none is left.
func TestShiftedKeepsOrder(t *testing.T) {
	for _, many := range []int{1, 2, 3, 100, 100_000} {
		p, l := of(below(many)...), below(0)
		for x, ok := p.Shift(); ok; x, ok = p.Shift() {
			l = append(l, x)
		}
		is(t, strconv.Itoa(many)+" numbers in order", slices.Equal(l, below(many)), true)
		holds(t, "behind them", p)
	}
	p := of(thing{"b", 1}, thing{"a", 2}, thing{"b", 1})
	is(t, "a thing", shift(p), took[thing]{thing{"b", 1}, true})
	is(t, "a thing", shift(p), took[thing]{thing{"a", 2}, true})
	is(t, "a thing", shift(p), took[thing]{thing{"b", 1}, true})
}

// Promise 4.2: pushed and popped, they turn it round; none is left.
func TestPoppedTurnsOrderRound(t *testing.T) {
	for _, many := range []int{1, 2, 3, 100, 100_000} {
		p, l := of(below(many)...), below(0)
		for x, ok := p.Pop(); ok; x, ok = p.Pop() {
			l = append(l, x)
		}
		slices.Reverse(l)
		is(t, strconv.Itoa(many)+" numbers, turned round", slices.Equal(l, below(many)), true)
		holds(t, "behind them", p)
	}
	p := of("c", "a", "b")
	is(t, "a text", pop(p), took[string]{"b", true})
	is(t, "a text", pop(p), took[string]{"a", true})
	is(t, "a text", pop(p), took[string]{"c", true})
}

// Promise 4.2: so they do while others are pushed between.
func TestManyInTurns(t *testing.T) {
	const many = 50_000
	var p Pile[int]
	next := 0
	for i := range many {
		p.Push(2 * i)
		p.Push(2*i + 1)
		if x, ok := p.Shift(); !ok || x != next {
			t.Fatalf("shifted %d, %v, not %d", x, ok, next)
		}
		next++
	}
	is(t, "as many as are left", p.Len(), many)
	for i := range many {
		if x, ok := p.Pop(); !ok || x != 2*many-1-i {
			t.Fatalf("popped %d, %v, not %d", x, ok, 2*many-1-i)
		}
	}
	holds(t, "behind them", &p)
}
