package seqs

import (
	"iter"
	"math"
	"slices"
	"strconv"
	"testing"
)

// thing is of a type that is neither a number nor a text.
type thing struct {
	name string
	size int
}

// placed is what a sequence of two tells at once, so that one kind of test does for both.
type placed[T any] struct {
	place int
	thing T
}

// paired is a sequence of two as one of pairs.
func paired[T any](s iter.Seq2[int, T]) iter.Seq[placed[T]] {
	return func(yield func(placed[T]) bool) {
		s(func(i int, x T) bool { return yield(placed[T]{i, x}) })
	}
}

// told is what s tells till stop things were told, or to its end; what it tells behind the stop is there, too.
func told[T any](s iter.Seq[T], stop int) []T {
	var l []T
	s(func(x T) bool {
		l = append(l, x)
		return len(l) < stop
	})
	return l
}

// tells holds s against want: wholly, stopped at each thing, again and again, and within itself.
func tells[T comparable](t *testing.T, name string, s iter.Seq[T], want ...T) {
	t.Helper()
	if s == nil {
		t.Errorf("%s: nil", name)
		return
	}
	for range 2 {
		if got := told(s, math.MaxInt); !slices.Equal(got, want) {
			t.Errorf("%s: %v, not %v", name, got, want)
			return
		}
		for k := 1; k <= len(want); k++ {
			if got := told(s, k); !slices.Equal(got, want[:k]) {
				t.Errorf("%s, stopped at thing %d: %v, not %v", name, k, got, want[:k])
			}
		}
	}
	for x := range s {
		if got := told(s, math.MaxInt); !slices.Equal(got, want) {
			t.Errorf("%s, gone through within itself at %v: %v, not %v", name, x, got, want)
		}
	}
}

// watched is a sequence of numbers from 0 on, below n, that counts in asked how many it told.
func watched(n int, asked *int) iter.Seq[int] {
	return func(yield func(int) bool) {
		for i := range n {
			*asked++
			if !yield(i) {
				return
			}
		}
	}
}

// endless tells the numbers from 0 on, and ends only if it is told to stop.
func endless(yield func(int) bool) {
	for i := 0; yield(i); i++ {
	}
}

// stubborn tells the numbers from 0 on, below 5, and does not heed that it is told to stop.
func stubborn(yield func(int) bool) {
	for i := range 5 {
		yield(i)
	}
}

// late is a sequence of 0, 1, 2 that keeps whom it told, so that it can tell more behind its end.
func late(kept *func(int) bool) iter.Seq[int] {
	return func(yield func(int) bool) {
		*kept = yield
		for i := range 3 {
			if !yield(i) {
				return
			}
		}
	}
}

func even(n int) bool             { return n%2 == 0 }
func always(int) bool             { return true }
func never(int) bool              { return false }
func join(s string, n int) string { return s + strconv.Itoa(n) + "." }

// Promise 3.1, Count: the numbers from from on, below to.
func TestCount(t *testing.T) {
	tells(t, "Count(2, 5)", Count(2, 5), 2, 3, 4)
	tells(t, "Count(0, 1)", Count(0, 1), 0)
	tells(t, "Count(0, 4)", Count(0, 4), 0, 1, 2, 3)
	tells(t, "Count(-3, -1)", Count(-3, -1), -3, -2)
	tells(t, "Count(-2, 3)", Count(-2, 3), -2, -1, 0, 1, 2)
}

// Promise 3.1, Count: none, if from is to or above it.
func TestCountOfNone(t *testing.T) {
	for _, c := range []struct{ from, to int }{
		{0, 0}, {7, 7}, {-7, -7}, {1, 0}, {9, 2}, {0, -1}, {-1, -2},
		{math.MaxInt, math.MaxInt}, {math.MinInt, math.MinInt}, {math.MaxInt, math.MinInt},
		{math.MaxInt, math.MaxInt - 1}, {math.MinInt + 1, math.MinInt}, {math.MaxInt, 0}, {0, math.MinInt},
	} {
		tells(t, "Count("+strconv.Itoa(c.from)+", "+strconv.Itoa(c.to)+")", Count(c.from, c.to))
	}
}

// Promise 3.1, Count: both ends of what an int can be.
func TestCountAtTheEnds(t *testing.T) {
	const top, low = math.MaxInt, math.MinInt
	tells(t, "up to the greatest int", Count(top-3, top), top-3, top-2, top-1)
	tells(t, "the last one below the greatest int", Count(top-1, top), top-1)
	tells(t, "from the least int on", Count(low, low+3), low, low+1, low+2)
	tells(t, "the least int", Count(low, low+1), low)
	tells(t, "from the least one to the greatest one", First(Count(low, top), 2), low, low+1)
}

// Promise 3.1, Of: a list's things.
func TestOf(t *testing.T) {
	tells(t, "no list", Of[int](nil))
	tells(t, "an empty list", Of([]int{}))
	tells(t, "an empty piece", Of([]int{1, 2}[:0]))
	tells(t, "one", Of([]int{7}), 7)
	tells(t, "zeros", Of([]int{0, 0}), 0, 0)
	tells(t, "numbers", Of([]int{3, 1, 2, 1}), 3, 1, 2, 1)
	tells(t, "texts", Of([]string{"b", "", "a"}), "b", "", "a")
	tells(t, "things", Of([]thing{{"x", 2}, {}, {"x", 1}}), thing{"x", 2}, thing{}, thing{"x", 1})
}

// Promise 3.1, Only: those for which keep is true.
func TestOnly(t *testing.T) {
	tells(t, "some", Only(Count(0, 7), even), 0, 2, 4, 6)
	tells(t, "the last one not kept", Only(Count(1, 6), even), 2, 4)
	tells(t, "all", Only(Count(0, 3), always), 0, 1, 2)
	tells(t, "none", Only(Count(0, 3), never))
	tells(t, "of none", Only(Count(0, 0), always))
	tells(t, "only the first", Only(Count(4, 8), func(n int) bool { return n == 4 }), 4)
	tells(t, "only the last", Only(Count(4, 8), func(n int) bool { return n == 7 }), 7)
	big := func(x thing) bool { return x.size > 1 }
	tells(t, "things", Only(Of([]thing{{"a", 2}, {"b", 1}, {"c", 3}}), big), thing{"a", 2}, thing{"c", 3})
	tells(t, "twice", Only(Only(Count(0, 13), even), func(n int) bool { return n%3 == 0 }), 0, 6, 12)
}

// Promise 3.1, Each: what to makes of each.
func TestEach(t *testing.T) {
	double := func(n int) int { return 2 * n }
	tells(t, "numbers", Each(Count(1, 4), double), 2, 4, 6)
	tells(t, "texts of numbers", Each(Of([]int{10, -1}), strconv.Itoa), "10", "-1")
	tells(t, "numbers of things", Each(Of([]thing{{"a", 2}, {"b", 5}}), func(x thing) int { return x.size }), 2, 5)
	tells(t, "things of texts", Each(Of([]string{"a", "bc"}), func(s string) thing { return thing{s, len(s)} }), thing{"a", 1}, thing{"bc", 2})
	tells(t, "bools, all alike", Each(Count(0, 3), never), false, false, false)
	tells(t, "of none", Each(Count(3, 3), double))
	tells(t, "twice", Each(Each(Count(1, 3), double), strconv.Itoa), "2", "4")
}

// Promise 3.1, First: the first n.
func TestFirst(t *testing.T) {
	tells(t, "the chapter's example", First(Count(2, 9), 3), 2, 3, 4)
	three := Of([]string{"a", "b", "c"})
	for _, n := range []int{math.MinInt, -2, -1, 0} {
		tells(t, "First "+strconv.Itoa(n), First(three, n))
		tells(t, "First "+strconv.Itoa(n)+" of endless", First(endless, n))
	}
	tells(t, "one", First(three, 1), "a")
	tells(t, "one less", First(three, 2), "a", "b")
	tells(t, "just as many", First(three, 3), "a", "b", "c")
	tells(t, "one more", First(three, 4), "a", "b", "c")
	tells(t, "as many as can be", First(three, math.MaxInt), "a", "b", "c")
	tells(t, "of none", First(Of[thing](nil), 2))
	tells(t, "of endless", First(endless, 3), 0, 1, 2)
	tells(t, "fewer, then more", First(First(three, 2), 3), "a", "b")
	tells(t, "more, then fewer", First(First(three, 3), 2), "a", "b")
	tells(t, "of things", First(Of([]thing{{"a", 2}, {"b", 5}}), 1), thing{"a", 2})
}

// Promise 3.1: a nil sequence makes an empty one, whatever else is handed in.
func TestNilSequenceIsEmpty(t *testing.T) {
	tells(t, "Only", Only(nil, always))
	tells(t, "Each", Each(nil, strconv.Itoa))
	for _, n := range []int{math.MinInt, -1, 0, 1, 2, math.MaxInt} {
		tells(t, "First", First[thing](nil, n))
	}
	tells(t, "Only of neither", Only[thing](nil, nil))
	tells(t, "Each of neither", Each[thing, int](nil, nil))
}

// Promise 3.1: a nil function makes an empty one, though the sequence would not end.
func TestNilFunctionIsEmpty(t *testing.T) {
	tells(t, "Only", Only(Count(0, 3), nil))
	tells(t, "Only of endless", Only(endless, nil))
	tells(t, "Each", Each[int, string](Count(0, 3), nil))
	tells(t, "Each of endless", Each[int, thing](endless, nil))
}

// Promise 3.1: all of them one on the other, and stopped anywhere.
func TestOneOnTheOther(t *testing.T) {
	s := First(Each(Only(Count(-3, math.MaxInt), even), strconv.Itoa), 4)
	tells(t, "four of the even ones", s, "-2", "0", "2", "4")
	tells(t, "two of them", First(Only(s, func(s string) bool { return s >= "0" }), 2), "0", "2")
}

// Promise 3.1: no more is asked of a sequence than is told, and stopping reaches it.
func TestNoMoreIsAsked(t *testing.T) {
	asked, made := 0, 0
	w := watched(10, &asked)
	count := func(n int) int { made++; return n }
	keep := func(n int) bool { made++; return even(n) }
	for _, c := range []struct {
		name              string
		s                 iter.Seq[int]
		stop, asked, made int
	}{
		{"First, wholly", First(w, 3), 99, 3, 0},
		{"First of 1", First(w, 1), 99, 1, 0},
		{"First of 0", First(w, 0), 99, 0, 0},
		{"First below 0", First(w, -1), 99, 0, 0},
		{"First, just as many", First(w, 10), 99, 10, 0},
		{"First, stopped at the first thing", First(w, 3), 1, 1, 0},
		{"First, stopped in the middle", First(w, 3), 2, 2, 0},
		{"First, stopped at the last one", First(w, 3), 3, 3, 0},
		{"Only, wholly", Only(w, keep), 99, 10, 10},
		{"Only, stopped at the first thing", Only(w, keep), 1, 1, 1},
		{"Only, stopped in the middle", Only(w, keep), 3, 5, 5},
		{"Only, stopped at the last one", Only(w, keep), 5, 9, 9},
		{"Each, wholly", Each(w, count), 99, 10, 10},
		{"Each, stopped at the first thing", Each(w, count), 1, 1, 1},
		{"Each, stopped in the middle", Each(w, count), 4, 4, 4},
		{"Each, stopped at the last one", Each(w, count), 10, 10, 10},
		{"all three", First(Each(Only(w, even), count), 3), 99, 5, 3},
		{"Only without a function", Only(w, nil), 99, 0, 0},
		{"Each without a function", Each[int, int](w, nil), 99, 0, 0},
	} {
		for range 2 {
			asked, made = 0, 0
			told(c.s, c.stop)
			if asked != c.asked || made != c.made {
				t.Errorf("%s: asked for %d, made %d, not %d, %d", c.name, asked, made, c.asked, c.made)
			}
		}
	}
	asked, made = 0, 0
	Only(w, keep)
	Each(w, count)
	First(w, 5)
	if asked != 0 || made != 0 {
		t.Errorf("not gone through: asked for %d, made %d", asked, made)
	}
}

// Promise 3.2, Back: places and things, the last one first.
func TestBack(t *testing.T) {
	type number = placed[int]
	tells(t, "no list", paired(Back[int](nil)))
	tells(t, "an empty list", paired(Back([]int{})))
	tells(t, "an empty piece", paired(Back([]int{1, 2}[:0])))
	tells(t, "one", paired(Back([]int{7})), number{0, 7})
	tells(t, "numbers", paired(Back([]int{3, 1, 2, 1})), number{3, 1}, number{2, 2}, number{1, 1}, number{0, 3})
	tells(t, "a piece", paired(Back([]int{3, 1, 2, 1}[1:3])), number{1, 2}, number{0, 1})
	tells(t, "texts", paired(Back([]string{"b", "a"})), placed[string]{1, "a"}, placed[string]{0, "b"})
	tells(t, "things", paired(Back([]thing{{"x", 2}, {}})), placed[thing]{1, thing{}}, placed[thing]{0, thing{"x", 2}})
	for i, x := range Back([]string{"a", "b", "c"}) {
		if i != 2 || x != "c" {
			t.Errorf("the first one from behind: %d, %s", i, x)
		}
		break
	}
}

// Promise 3.2, List: all things as a list.
func TestList(t *testing.T) {
	if l := List(Count(-1, 3)); !slices.Equal(l, []int{-1, 0, 1, 2}) {
		t.Errorf("numbers: %v", l)
	}
	if l := List(First(Count(2, 9), 3)); !slices.Equal(l, []int{2, 3, 4}) {
		t.Errorf("the chapter's example: %v", l)
	}
	if l := List(Of([]thing{{"b", 1}, {"a", 2}, {}})); !slices.Equal(l, []thing{{"b", 1}, {"a", 2}, {}}) {
		t.Errorf("things: %v", l)
	}
	if l := List(Of([]string{"x"})); !slices.Equal(l, []string{"x"}) {
		t.Errorf("one: %v", l)
	}
	if l := List(Count(0, 5000)); len(l) != 5000 || l[0] != 0 || l[4999] != 4999 {
		t.Errorf("many: %d of them", len(l))
	}
	for _, s := range []iter.Seq[int]{nil, Count(2, 2), Of[int](nil), Of([]int{}), First(endless, 0), Only(Count(0, 9), never), Only(Count(0, 9), nil)} {
		if l := List(s); len(l) != 0 {
			t.Errorf("of none: %v", l)
		}
	}
}

// Promise 3.2, Some: whether there is one, wherever it stands; behind it no more is asked for.
func TestSome(t *testing.T) {
	asked := 0
	for _, c := range []struct{ n, want, asked int }{{5, 0, 1}, {5, 2, 3}, {5, 4, 5}, {1, 0, 1}, {5, 5, -1}, {5, -1, -1}, {0, 0, -1}} {
		asked = 0
		got := Some(watched(c.n, &asked), func(n int) bool { return n == c.want })
		if c.asked < 0 && (got || asked != c.n) || c.asked >= 0 && (!got || asked != c.asked) {
			t.Errorf("%d among %d: %v, asked for %d", c.want, c.n, got, asked)
		}
	}
	things := Of([]thing{{"a", 2}, {"b", 5}})
	if !Some(things, func(x thing) bool { return x.name == "b" }) || Some(things, func(x thing) bool { return x.name == "c" }) {
		t.Error("things")
	}
	if !Some(endless, func(n int) bool { return n == 100 }) {
		t.Error("endless")
	}
	if !Some(Count(0, 3), always) || Some(Count(0, 3), never) || Some(Count(0, 0), always) {
		t.Error("all, none, of none")
	}
}

// Promise 3.2, Some: of a nil sequence or function there is none.
func TestSomeOfNil(t *testing.T) {
	if Some(nil, always) || Some(Count(0, 3), nil) || Some[thing](nil, nil) || Some(endless, nil) {
		t.Error("there is one of nil")
	}
}

// Promise 3.2, Fold: u, joined with each thing, in their order.
func TestFold(t *testing.T) {
	if s := Fold(Count(1, 4), "u", join); s != "u1.2.3." {
		t.Errorf("texts: %s", s)
	}
	if n := Fold(Of([]int{1, 2, 3}), 10, func(u, n int) int { return 2*u - n }); n != 69 {
		t.Errorf("numbers: %d", n)
	}
	if n := Fold(Of([]thing{{"a", 2}, {"b", 5}}), 100, func(u int, x thing) int { return u - x.size }); n != 93 {
		t.Errorf("things: %d", n)
	}
	sum := func(u thing, n int) thing { return thing{u.name + "+", u.size + n} }
	if x := Fold(Count(0, 5), thing{"x", 1}, sum); x != (thing{"x+++++", 11}) {
		t.Errorf("to a thing: %v", x)
	}
	if s := Fold(Of([]int{7}), "", join); s != "7." {
		t.Errorf("one: %s", s)
	}
	if s := Fold(Count(4, 4), "u", join); s != "u" {
		t.Errorf("of none: %s", s)
	}
}

// Promise 3.2, Fold: u of a nil sequence or function, though the sequence would not end.
func TestFoldOfNil(t *testing.T) {
	if s := Fold(nil, "u", join); s != "u" {
		t.Errorf("a nil sequence: %s", s)
	}
	if s := Fold(Count(1, 4), "u", nil); s != "u" {
		t.Errorf("a nil function: %s", s)
	}
	if x := Fold[int](nil, thing{"x", 1}, nil); x != (thing{"x", 1}) {
		t.Errorf("neither: %v", x)
	}
	if s := Fold(endless, "u", nil); s != "u" {
		t.Errorf("a nil function, endless: %s", s)
	}
}

// Promise 3.3: broken off and gone through again, side by side, each tells all from its beginning on.
func TestGoneThroughAgain(t *testing.T) {
	for _, c := range []struct {
		name string
		s    iter.Seq[int]
	}{
		{"Count", Count(1, 6)},
		{"Of", Of([]int{1, 2, 3, 4, 5})},
		{"Only", Only(Count(-9, 6), func(n int) bool { return n > 0 })},
		{"Each", Each(Count(0, 5), func(n int) int { return n + 1 })},
		{"First", First(Count(1, math.MaxInt), 5)},
		{"First of First", First(First(Count(1, 99), 7), 5)},
		{"Back's things", func(yield func(int) bool) {
			for _, x := range Back([]int{5, 4, 3, 2, 1}) {
				if !yield(x) {
					return
				}
			}
		}},
	} {
		tells(t, c.name, c.s, 1, 2, 3, 4, 5)
		for range 2 {
			if l := List(c.s); !slices.Equal(l, []int{1, 2, 3, 4, 5}) {
				t.Errorf("List of %s: %v", c.name, l)
			}
			if !Some(c.s, func(n int) bool { return n == 2 }) || Some(c.s, func(n int) bool { return n == 6 }) {
				t.Errorf("Some of %s", c.name)
			}
			if s := Fold(c.s, "", join); s != "1.2.3.4.5." {
				t.Errorf("Fold of %s: %s", c.name, s)
			}
			if l := List(First(c.s, 2)); !slices.Equal(l, []int{1, 2}) {
				t.Errorf("First of %s: %v", c.name, l)
			}
		}
	}
}

// Promise 3.3: what becomes of the list behind the call, or while it is gone through, is not told.
func TestTellsTheSameOfAChangedList(t *testing.T) {
	l := []thing{{"a", 1}, {"b", 2}, {"c", 3}}
	was := slices.Clone(l)
	of, back, on := Of(l), Back(l), First(Only(Of(l), func(thing) bool { return true }), 3)
	for range of {
		l[2].size++
	}
	for range back {
		l[0].size++
	}
	clear(l[:2])
	tells(t, "Of", of, was...)
	tells(t, "First of Only of Of", on, was...)
	tells(t, "Back", paired(back), placed[thing]{2, was[2]}, placed[thing]{1, was[1]}, placed[thing]{0, was[0]})
}

// The rule of memory: a list that is handed in stays as it is, and one that is told is new.
func TestListsAreNotShared(t *testing.T) {
	l := make([]int, 3, 8)
	s := Of(l)
	List(s)
	for range Back(l) {
	}
	if !slices.Equal(l[:8], make([]int, 8)) {
		t.Errorf("the list was changed: %v", l[:8])
	}
	a, b := List(s), List(s)
	a[0], a[1], a[2] = 7, 8, 9
	if !slices.Equal(b, []int{0, 0, 0}) || !slices.Equal(List(s), []int{0, 0, 0}) || !slices.Equal(l, []int{0, 0, 0}) {
		t.Errorf("a list that was told is shared: %v, %v, %v", b, List(s), l)
	}
}

// P1: a sequence that goes on though it was told to stop is not heard any more, and nothing panics.
func TestStubbornSequence(t *testing.T) {
	tells(t, "Only", Only(stubborn, even), 0, 2, 4)
	tells(t, "Each", Each(stubborn, strconv.Itoa), "0", "1", "2", "3", "4")
	tells(t, "First", First(stubborn, 2), 0, 1)
	tells(t, "First of all", First(stubborn, 5), 0, 1, 2, 3, 4)
	tells(t, "one on the other", First(Each(Only(stubborn, even), strconv.Itoa), 2), "0", "2")
	asked := 0
	if !Some(stubborn, func(n int) bool { asked++; return n == 1 }) || asked != 2 {
		t.Errorf("Some: asked for %d", asked)
	}
	if l := List(stubborn); len(l) != 5 {
		t.Errorf("List: %v", l)
	}
	if s := Fold(stubborn, "", join); s != "0.1.2.3.4." {
		t.Errorf("Fold: %s", s)
	}
}

// P1: nor is one that tells more behind its end.
func TestLateSequence(t *testing.T) {
	var kept func(int) bool
	s := late(&kept)
	heard := 0
	hear := func(n int) bool { heard++; return true }
	for name, do := range map[string]func(){
		"Only":  func() { List(Only(s, hear)) },
		"Each":  func() { List(Each(s, hear)) },
		"First": func() { told(First(s, 5), 99) },
		"List":  func() { List(s) },
		"Some":  func() { Some(s, func(n int) bool { hear(n); return false }) },
		"Fold":  func() { Fold(s, "", func(u string, n int) string { hear(n); return u }) },
	} {
		do()
		heard = 0
		if kept(9) || heard != 0 {
			t.Errorf("%s heard what was told behind the end", name)
		}
	}
}
