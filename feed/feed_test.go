package feed

import (
	"fmt"
	"math"
	"slices"
	"strconv"
	"strings"
	"testing"
)

// is holds what was told against what should be. It ends the test, since draws behind a wrong one are mostly wrong, too.
func is[T comparable](t *testing.T, name string, got, want T) {
	t.Helper()
	if got != want {
		t.Fatalf("%s: %v, not %v", name, got, want)
	}
}

// A deed is a call that may take a byte.
const (
	next = iota
	level
	deeds
)

// deed is one such call, with its argument.
type deed struct{ call, arg int }

// String is how a deed is told.
func (d deed) String() string {
	return fmt.Sprint([deeds]string{"Next", "Level"}[d.call], "(", d.arg, ")")
}

// do has a feed do a deed.
func do(f *Feed, d deed) int {
	if d.call == next {
		return f.Next(d.arg)
	}
	return f.Level(d.arg)
}

// model is a feed as the chapter has it, built otherwise than the program's: what is left is cut off from the front.
type model struct {
	left []byte
	used int
}

// of is a model of its own of these bytes.
func of(b []byte) *model { return &model{left: slices.Clone(b)} }

// take is the next byte, as a number.
func (m *model) take() int {
	m.used++
	if len(m.left) == 0 {
		return 0
	}
	b := int(m.left[0])
	m.left = m.left[1:]
	return b
}

// do is what a deed should tell.
func (m *model) do(d deed) int {
	switch {
	case d.call == next && d.arg < 1:
		return 0
	case d.call == next:
		return rest(m.take(), d.arg)
	case d.arg < 1:
		return 1
	}
	return height(m.take(), d.arg)
}

// rest is what is left of b, when n is taken off again and again.
func rest(b, n int) int {
	for b >= n {
		b -= n
	}
	return b
}

// height reads the ones at the end of a byte's eight digits.
func height(b, most int) int {
	digits := fmt.Sprintf("%08b", b)
	ones := len(digits) - len(strings.TrimRight(digits, "1"))
	if 1+ones > most {
		return most
	}
	return 1 + ones
}

// tryOne has a feed and its model do one deed, and looks at all that came of it.
func tryOne(t *testing.T, name string, f *Feed, m *model, d deed) {
	t.Helper()
	name = name + ", " + d.String()
	is(t, name, do(f, d), m.do(d))
	// Asked twice, since asking takes no byte.
	is(t, name+", Used", f.Used(), m.used)
	is(t, name+", Used again", f.Used(), m.used)
}

// none is arguments of which no byte is taken.
func none() []int {
	return []int{0, -1, -2, -8, -255, -256, -1 << 32, math.MinInt32, math.MinInt + 1, math.MinInt}
}

// some is arguments of which a byte is taken: at the edges of both calls, and far beyond them.
func some() []int {
	return []int{1, 2, 3, 4, 5, 6, 7, 8, 9, 10, 11, 63, 64, 100, 127, 128, 129, 200, 254, 255, 256, 257, 258,
		1 << 16, math.MaxInt32, 1 << 32, 1<<32 + 1, math.MaxInt - 1, math.MaxInt}
}

// allBytes is every byte there is, in order.
func allBytes() []byte {
	var l []byte
	for b := range 256 {
		l = append(l, byte(b))
	}
	return l
}

// The chapter's example.
func TestExample(t *testing.T) {
	f := New([]byte{7, 200})
	is(t, "Used at first", f.Used(), 0)
	is(t, "Level(6) of 7", f.Level(6), 4)
	is(t, "Used behind it", f.Used(), 1)
	is(t, "Next(100) of 200", f.Next(100), 0)
	is(t, "Used behind both", f.Used(), 2)
	is(t, "Next(5) behind the last one", f.Next(5), 0)
	is(t, "Used behind all", f.Used(), 3)
}

// Promise 8.1: ordinary draws, with numbers that were reckoned by hand.
func TestOrdinary(t *testing.T) {
	f := New([]byte{10, 200, 5, 31, 0, 255, 255, 64, 47})
	for at, c := range []struct {
		deed
		want int
	}{
		{deed{next, 7}, 3},
		{deed{next, 300}, 200},
		{deed{level, 6}, 2},
		{deed{level, 4}, 4},
		{deed{level, 6}, 1},
		{deed{level, 20}, 9},
		{deed{next, 16}, 15},
		{deed{next, 64}, 0},
		{deed{level, 5}, 5},
		{deed{next, 3}, 0},
		{deed{level, 3}, 1},
	} {
		is(t, fmt.Sprint("draw ", at, ", ", c.deed), do(f, c.deed), c.want)
		is(t, fmt.Sprint("draw ", at, ", Used"), f.Used(), at+1)
	}
}

// Promise 8.1, Next: the edges that stand around a byte's numbers, by hand.
func TestNextByHand(t *testing.T) {
	for _, c := range []struct {
		b       byte
		n, want int
	}{
		{0, 1, 0}, {1, 1, 0}, {255, 1, 0},
		{0, 2, 0}, {1, 2, 1}, {128, 2, 0}, {254, 2, 0}, {255, 2, 1},
		{0, 255, 0}, {1, 255, 1}, {253, 255, 253}, {254, 255, 254}, {255, 255, 0},
		{127, 256, 127}, {128, 256, 128}, {254, 256, 254}, {255, 256, 255},
		{0, 257, 0}, {255, 257, 255},
		{0, math.MaxInt, 0}, {128, math.MaxInt, 128}, {255, math.MaxInt, 255},
		{200, 1 << 32, 200}, {255, 254, 1}, {255, 128, 127}, {200, 199, 1},
	} {
		f := New([]byte{c.b, 77})
		is(t, fmt.Sprint("Next(", c.n, ") of ", c.b), f.Next(c.n), c.want)
		is(t, fmt.Sprint("Next(", c.n, ") of ", c.b, ", Used"), f.Used(), 1)
		is(t, fmt.Sprint("Next(", c.n, ") of ", c.b, ", what comes then"), f.Next(256), 77)
	}
}

// Promise 8.1, Level: how many ones stand at the lower end, by hand, and what most makes of them.
func TestLevelByHand(t *testing.T) {
	for _, c := range []struct {
		b          byte
		most, want int
	}{
		{0, 9, 1}, {1, 9, 2}, {3, 9, 3}, {7, 9, 4}, {15, 9, 5}, {31, 9, 6}, {63, 9, 7}, {127, 9, 8}, {255, 9, 9},
		{255, 1, 1}, {255, 2, 2}, {255, 8, 8}, {255, 10, 9}, {255, 64, 9}, {255, math.MaxInt, 9},
		{127, 1, 1}, {127, 7, 7}, {127, 8, 8}, {127, 10, 8}, {127, math.MaxInt, 8},
		{0, 1, 1}, {0, 2, 1}, {0, math.MaxInt, 1}, {1, 1, 1}, {1, 2, 2}, {3, 2, 2},
		{2, 9, 1}, {4, 9, 1}, {128, 9, 1}, {254, 9, 1}, {252, 9, 1}, // ones, none of them at the lower end
		{5, 9, 2}, {9, 9, 2}, {253, 9, 2}, {11, 9, 3}, {251, 9, 3}, {247, 9, 4}, {191, 9, 7}, {129, 9, 2}, // a 0 ends them
	} {
		f := New([]byte{c.b, 77})
		is(t, fmt.Sprint("Level(", c.most, ") of ", c.b), f.Level(c.most), c.want)
		is(t, fmt.Sprint("Level(", c.most, ") of ", c.b, ", Used"), f.Used(), 1)
		is(t, fmt.Sprint("Level(", c.most, ") of ", c.b, ", what comes then"), f.Next(256), 77)
	}
}

// Promise 8.1: every byte with every argument, by both calls, as a feed's first one, last one, and between others.
func TestEveryByte(t *testing.T) {
	for _, b := range allBytes() {
		for _, row := range [][]byte{{b}, {b, 255}, {255, b}, {170, b, 85}} {
			for call := range deeds {
				for _, arg := range append(some(), none()...) {
					f, m := New(row), of(row)
					for range len(row) + 2 {
						tryOne(t, fmt.Sprint(row), f, m, deed{call, arg})
					}
				}
			}
		}
	}
}

// Promise 8.1: all bytes of one feed, one behind the other, with every argument.
func TestAllBytesInARow(t *testing.T) {
	for _, arg := range some() {
		for call := range deeds {
			f, m := New(allBytes()), of(allBytes())
			for at := range 300 {
				tryOne(t, fmt.Sprint("all bytes, at ", at), f, m, deed{call, arg})
			}
		}
	}
}

// Promise 8.1, Level: how often each level comes, of all bytes: half of them, half of the rest, and on.
func TestHowOftenLevelsCome(t *testing.T) {
	for _, c := range []struct {
		most int
		want [10]int
	}{
		{1, [10]int{1: 256}},
		{2, [10]int{1: 128, 2: 128}},
		{6, [10]int{1: 128, 2: 64, 3: 32, 4: 16, 5: 8, 6: 8}},
		{8, [10]int{1: 128, 2: 64, 3: 32, 4: 16, 5: 8, 6: 4, 7: 2, 8: 2}},
		{9, [10]int{1: 128, 2: 64, 3: 32, 4: 16, 5: 8, 6: 4, 7: 2, 8: 1, 9: 1}},
		{math.MaxInt, [10]int{1: 128, 2: 64, 3: 32, 4: 16, 5: 8, 6: 4, 7: 2, 8: 1, 9: 1}},
	} {
		var got [10]int
		f := New(allBytes())
		for range 256 {
			got[min(max(f.Level(c.most), 0), 9)]++
		}
		is(t, fmt.Sprint("levels of at most ", c.most), got, c.want)
	}
}

// Promise 8.1: an argument below 1 takes no byte, wherever the feed is: what comes then is what would have come.
func TestNoByteIsTaken(t *testing.T) {
	for _, arg := range none() {
		f := New([]byte{255, 254, 1})
		for at, want := range []int{255, 254, 1, 0, 0} {
			for range 3 {
				is(t, fmt.Sprint("Next(", arg, ") at ", at), f.Next(arg), 0)
				is(t, fmt.Sprint("Level(", arg, ") at ", at), f.Level(arg), 1)
				is(t, fmt.Sprint("Used at ", at, ", behind arguments of ", arg), f.Used(), at)
			}
			is(t, fmt.Sprint("Next(256) at ", at, ", behind arguments of ", arg), f.Next(256), want)
		}
		is(t, "Used behind all", f.Used(), 5)
	}
}

// Promise 8.1: a byte is taken by Next(1) and Level(1), too, though they can tell but one number.
func TestOneTakesAByte(t *testing.T) {
	f := New([]byte{255, 255, 9})
	is(t, "Next(1)", f.Next(1), 0)
	is(t, "Used behind Next(1)", f.Used(), 1)
	is(t, "Level(1)", f.Level(1), 1)
	is(t, "Used behind Level(1)", f.Used(), 2)
	is(t, "what comes then", f.Next(256), 9)
}

// Promise 8.1: behind the last byte all bytes are 0, near it and far from it, for both calls in turn; Used goes on.
func TestBehindTheLastByte(t *testing.T) {
	for _, row := range [][]byte{nil, {}, {255}, {255, 255}, {1, 2, 3, 255}} {
		f := New(row)
		for at, b := range row {
			is(t, fmt.Sprint(row, " at ", at), f.Next(256), int(b))
		}
		for at := range 10_000 {
			d, want := deed{next, 256}, 0
			if at%2 == 1 {
				d, want = deed{level, 9}, 1
			}
			is(t, fmt.Sprint(row, ", ", at, " behind the last one"), do(f, d), want)
			is(t, fmt.Sprint(row, ", ", at, " behind the last one, Used"), f.Used(), len(row)+at+1)
		}
		is(t, fmt.Sprint(row, ", Next(1) far behind"), f.Next(1), 0)
		is(t, fmt.Sprint(row, ", Next of the greatest int far behind"), f.Next(math.MaxInt), 0)
		is(t, fmt.Sprint(row, ", Level of the greatest int far behind"), f.Level(math.MaxInt), 1)
		is(t, fmt.Sprint(row, ", Used far behind"), f.Used(), len(row)+10_003)
	}
}

// Promise 8.1: the last byte, the one ahead of it and the one behind it, by each of the two calls.
func TestAroundTheLastByte(t *testing.T) {
	for k := range 8 {
		f, m := New([]byte{7, 255}), of([]byte{7, 255})
		for at := range 3 {
			tryOne(t, fmt.Sprint("row ", k, " at ", at), f, m, deed{k >> at & 1, 256})
		}
	}
}

// Promise 8.1: a feed of no bytes is one, nil or empty, and tells what is told behind the last byte.
func TestNoBytes(t *testing.T) {
	for name, row := range map[string][]byte{"nil": nil, "empty": {}, "cut to nothing": []byte{255, 255}[:0]} {
		if New(row) == nil {
			t.Fatalf("New of %s bytes: nil", name)
		}
		is(t, name+" bytes, Used at first", New(row).Used(), 0)
		for call := range deeds {
			for _, arg := range append(some(), none()...) {
				f, m := New(row), of(nil)
				for range 3 {
					tryOne(t, name+" bytes", f, m, deed{call, arg})
				}
			}
		}
	}
}

// Promises 8.1 and P1: a nil feed tells what is told of byte 0, and has used none, whatever is asked of it.
func TestNilFeed(t *testing.T) {
	var f *Feed
	is(t, "Used of nil", f.Used(), 0)
	for range 3 {
		for _, arg := range append(some(), none()...) {
			is(t, fmt.Sprint("Next(", arg, ") of nil"), f.Next(arg), 0)
			is(t, fmt.Sprint("Used of nil behind Next(", arg, ")"), f.Used(), 0)
			is(t, fmt.Sprint("Level(", arg, ") of nil"), f.Level(arg), 1)
			is(t, fmt.Sprint("Used of nil behind Level(", arg, ")"), f.Used(), 0)
		}
	}
}

// Promise 8.1: a feed has no limit of its own: api's greatest number of draws is none here.
func TestManyBytes(t *testing.T) {
	for _, n := range []int{255, 256, 257, 4095, 4096, 4097, 70_000} {
		b := make([]byte, n)
		for at := range b {
			b[at] = byte(at*at + at/256)
		}
		f, m := New(b), of(b)
		for at := range n + 3 {
			tryOne(t, fmt.Sprint(n, " bytes, at ", at), f, m, deed{at % deeds, 256})
		}
	}
}

// Promise 8.1: bytes that lie behind the end of what was handed in are none of the feed's.
func TestBytesBehindTheEnd(t *testing.T) {
	all := []byte{1, 2, 255, 255}
	f := New(all[:2])
	is(t, "the first one", f.Next(256), 1)
	is(t, "the second one", f.Next(256), 2)
	is(t, "behind them", f.Next(256), 0)
	is(t, "behind them, a level", f.Level(9), 1)
	g := New(all[1:3])
	is(t, "from the second one on", g.Next(256), 2)
	is(t, "from the second one on, then", g.Next(256), 255)
	is(t, "from the second one on, behind them", g.Next(256), 0)
}

// deedsOf is a row of deeds, by a number: ordinary ones, and every so often one that takes no byte.
func deedsOf(k uint64, n int) []deed {
	var l []deed
	args := slices.Concat(some(), none())
	for range n {
		k = k*6364136223846793005 + 1442695040888963407
		l = append(l, deed{int(k>>40) % deeds, args[int(k>>45)%len(args)]})
	}
	return l
}

// bytesOf is bytes, by a number, with many ones at their lower ends.
func bytesOf(k uint64, n int) []byte {
	var l []byte
	for range n {
		k = k*2862933555777941757 + 3037000493
		l = append(l, byte(k>>33)|byte(1<<(k>>60%9)-1))
	}
	return l
}

// Promises 8.1 and 8.2: long rows of both calls on one feed, ahead of its end and behind it.
func TestLongRows(t *testing.T) {
	for k := range uint64(200) {
		b := bytesOf(k, int(k))
		f, m := New(b), of(b)
		for at, d := range deedsOf(k, 300) {
			tryOne(t, fmt.Sprint("row ", k, ", deed ", at), f, m, d)
		}
	}
}

// Promise 8.1: all rows of five deeds, of both calls, taking a byte and not, on three bytes.
func TestAllShortRows(t *testing.T) {
	kinds := []deed{{next, 256}, {next, 3}, {next, 0}, {level, 9}, {level, 2}, {level, -1}}
	for k := range 6 * 6 * 6 * 6 * 6 {
		b := []byte{7, 254, 255}
		f, m := New(b), of(b)
		for range 5 {
			tryOne(t, "row "+strconv.Itoa(k), f, m, kinds[k%6])
			k /= 6
		}
	}
}

// Promise 8.2: two feeds of the same bytes tell the same, be they asked one behind the other or by turns.
func TestSameBytesTellTheSame(t *testing.T) {
	for k := range uint64(50) {
		b := bytesOf(k, 100)
		row := deedsOf(k, 200)
		one, other := New(b), New(b)
		var first []int
		for _, d := range row {
			x, y := do(one, d), do(other, d)
			is(t, fmt.Sprint("row ", k, ", by turns, ", d), x, y)
			first = append(first, x)
		}
		third := New(slices.Clone(b))
		for at, d := range row {
			is(t, fmt.Sprint("row ", k, ", later, ", d), do(third, d), first[at])
		}
		is(t, "Used of all", [3]int{one.Used(), other.Used(), third.Used()}, [3]int{one.Used(), one.Used(), one.Used()})
	}
}

// Promise 8.2: how often Used is asked, and deeds that take no byte, change nothing of what comes.
func TestAskingChangesNothing(t *testing.T) {
	b := bytesOf(3, 40)
	quiet, asked := New(b), New(b)
	for at := range 60 {
		for range at % 4 {
			asked.Used()
			asked.Next(0)
			asked.Level(-at)
		}
		is(t, fmt.Sprint("draw ", at), asked.Next(256), quiet.Next(256))
	}
}

// Two feeds have nothing in common, though they be of the very same list.
func TestTwoFeeds(t *testing.T) {
	b := []byte{5, 6, 7}
	one, other := New(b), New(b)
	if one == other || New(nil) == New(nil) {
		t.Fatal("New told one feed twice")
	}
	is(t, "the one", one.Next(256), 5)
	is(t, "the one, then", one.Next(256), 6)
	is(t, "Used of the other one", other.Used(), 0)
	is(t, "the other one", other.Next(256), 5)
	is(t, "Used of the one", one.Used(), 2)
	is(t, "the one, at last", one.Level(9), 4)
	is(t, "the other one, then", other.Level(9), 1)
	is(t, "Used of both", [2]int{one.Used(), other.Used()}, [2]int{3, 2})
	is(t, "a new one", New([]byte{9}).Next(256), 9)
	is(t, "the other one, at last", other.Next(256), 7)
}

// Bytes that are changed behind New's back play no part, whether they are changed at once or between draws.
func TestChangedBytes(t *testing.T) {
	b := []byte{10, 20, 30, 40}
	f := New(b)
	b[0] = 99
	is(t, "changed at once", f.Next(256), 10)
	b[1], b[2] = 0, 0
	is(t, "changed ahead of it", f.Next(256), 20)
	clear(b)
	is(t, "cleared", f.Next(256), 30)
	b = append(b[:0], 1, 1, 1, 1)
	is(t, "laid anew", f.Next(256), 40)
	is(t, "behind the last one", f.Next(256), 0)

	long := append(make([]byte, 0, 8), 1)
	g := New(long)
	long = append(long, 255)
	is(t, "the one that was there", g.Next(256), 1)
	is(t, "one that was put behind it, which shares its memory", g.Next(256), 0)
	is(t, "what was put there", long[1], 255)
}

// What is handed in is not changed, neither by New nor by draws.
func TestBytesStay(t *testing.T) {
	b := bytesOf(9, 50)
	was := slices.Clone(b)
	f := New(b)
	for _, d := range deedsOf(9, 200) {
		do(f, d)
		if !slices.Equal(b, was) {
			t.Fatalf("%v: the bytes are %v, not %v", d, b, was)
		}
	}
}
