package script

import (
	"bytes"
	"encoding/binary"
	"fmt"
	"math"
	"slices"
	"testing"

	"jostle/api"
	"jostle/call"
	"jostle/conf"
)

// is holds what was told against what should be. It ends the test, since what is wrong at all is mostly wrong of many scripts.
func is[T comparable](t *testing.T, name string, got, want T) {
	t.Helper()
	if got != want {
		t.Fatalf("%s: %v, not %v", name, got, want)
	}
}

// short is a thing's text, cut where it becomes too long to read.
func short(x any) string {
	s := fmt.Sprint(x)
	if len(s) > 400 {
		return s[:400] + ".."
	}
	return s
}

// insert is the call that puts a pair in.
func insert(key, val uint32) api.Call { return api.Call{Op: api.Insert, Key: key, Val: val} }

// The calls that have no numbers.
var (
	deleteMin = api.Call{Op: api.DeleteMin}
	peekMin   = api.Call{Op: api.PeekMin}
)

// confOf is an ordinary configuration of an algorithm and of so many threads.
func confOf(algo, threads int) api.Conf {
	return api.Conf{Algo: algo, Threads: threads, Nodes: 8, Level: 3, Batch: 1, Probes: 2, Scan: 4}
}

// confBytes is its seven bytes.
func confBytes(algo, threads int) []byte {
	return []byte{byte(algo), byte(threads), 8, 3, 1, 2, 4}
}

// join is rows of bytes, one behind the other, in memory of their own.
func join(rows ...[]byte) []byte { return slices.Concat(rows...) }

// same tells whether two scripts are one; a list that is nil is as one that is empty.
func same(a, b api.Script) bool {
	return a.Conf == b.Conf && slices.EqualFunc(a.Calls, b.Calls, slices.Equal) && slices.Equal(a.Picks, b.Picks) && bytes.Equal(a.Draws, b.Draws)
}

// copied is a script that shares no memory with another one.
func copied(s api.Script) api.Script {
	c := api.Script{Conf: s.Conf, Picks: slices.Clone(s.Picks), Draws: bytes.Clone(s.Draws)}
	for _, l := range s.Calls {
		c.Calls = append(c.Calls, slices.Clone(l))
	}
	return c
}

// told is a script and an error, as Parse tells them.
type told struct {
	s api.Script
	e api.Errno
}

// fault is what is told where there is no script.
func fault(e api.Errno) told { return told{api.Script{}, e} }

func parse(b []byte) told {
	s, e := Parse(b)
	return told{s, e}
}

// tells asks that bytes are parsed as they should be.
func tells(t *testing.T, name string, b []byte, want told) {
	t.Helper()
	if got := parse(b); got.e != want.e || !same(got.s, want.s) {
		t.Fatalf("Parse of %s, %s: %s, not %s", name, short(b), short(got), short(want))
	}
}

// mayConf tells by the chapters' words whether a configuration may be.
func mayConf(c api.Conf) bool {
	least := 1
	if c.Algo == 1 || c.Algo == 2 {
		least = 3
	}
	in := func(n, least, most int) bool { return least <= n && n <= most }
	return in(c.Algo, 0, 2) && in(c.Threads, 1, 6) && in(c.Nodes, least, 64) && in(c.Level, 1, 6) && in(c.Batch, 1, 16) && in(c.Probes, 1, 16) && in(c.Scan, 1, 64)
}

// mayCall tells by the chapter's words whether a call may be.
func mayCall(c api.Call) bool {
	return c.Op == 0 || (c.Op == 1 || c.Op == 2) && c.Key == 0 && c.Val == 0
}

// may tells by the chapter's words whether a script may be.
func may(s api.Script) bool {
	all := slices.Concat(s.Calls...)
	wrongCall := slices.ContainsFunc(all, func(c api.Call) bool { return !mayCall(c) })
	wrongPick := slices.ContainsFunc(s.Picks, func(p int) bool { return p < 0 || p > s.Conf.Threads-1 })
	return mayConf(s.Conf) && len(s.Calls) == s.Conf.Threads && !wrongCall && len(all) <= 48 && !wrongPick && len(s.Picks) <= 60_000 && len(s.Draws) <= 4096
}

// parseModel is what Parse should tell, by places that are reckoned ahead of all reading.
func parseModel(b []byte) told {
	if len(b) < 7 {
		return fault(api.ErrEnd)
	}
	c := api.Conf{Algo: int(b[0]), Threads: int(b[1]), Nodes: int(b[2]), Level: int(b[3]), Batch: int(b[4]), Probes: int(b[5]), Scan: int(b[6])}
	if !mayConf(c) {
		return fault(api.ErrConfig)
	}
	if len(b) == 7 {
		return fault(api.ErrEnd)
	}
	calls := int(b[7])
	picksAt := 8 + 10*calls
	if calls > 48 {
		return fault(api.ErrLong)
	}
	if len(b) < picksAt+2 {
		return fault(api.ErrEnd)
	}
	picks := int(binary.LittleEndian.Uint16(b[picksAt:]))
	drawsAt := picksAt + 2 + picks
	if picks > 60_000 {
		return fault(api.ErrLong)
	}
	if len(b) < drawsAt {
		return fault(api.ErrEnd)
	}
	if len(b)-drawsAt > 4096 {
		return fault(api.ErrLong)
	}
	s := api.Script{Conf: c, Calls: make([][]api.Call, c.Threads), Draws: bytes.Clone(b[drawsAt:])}
	for i := range calls {
		row := b[8+10*i:]
		one := api.Call{Op: int(row[1]) % 3}
		if one.Op == 0 {
			one.Key, one.Val = binary.LittleEndian.Uint32(row[2:]), binary.LittleEndian.Uint32(row[6:])
		}
		thread := int(row[0]) % c.Threads
		s.Calls[thread] = append(s.Calls[thread], one)
	}
	for _, p := range b[picksAt+2 : drawsAt] {
		s.Picks = append(s.Picks, int(p)%c.Threads)
	}
	return told{s, api.OK}
}

// writeModel is the bytes of a script that may be, by the chapter's words.
func writeModel(s api.Script) []byte {
	c := s.Conf
	b := []byte{byte(c.Algo), byte(c.Threads), byte(c.Nodes), byte(c.Level), byte(c.Batch), byte(c.Probes), byte(c.Scan), byte(len(slices.Concat(s.Calls...)))}
	for thread := range 6 {
		for at := 0; thread < len(s.Calls) && at < len(s.Calls[thread]); at++ {
			one := s.Calls[thread][at]
			b = append(b, byte(thread), byte(one.Op))
			b = binary.LittleEndian.AppendUint32(b, one.Key)
			b = binary.LittleEndian.AppendUint32(b, one.Val)
		}
	}
	b = binary.LittleEndian.AppendUint16(b, uint16(len(s.Picks)))
	for _, p := range s.Picks {
		b = append(b, byte(p))
	}
	return append(b, s.Draws...)
}

// tryBytes holds what is told of bytes, and of their script, against what should be.
func tryBytes(t *testing.T, name string, b []byte) {
	t.Helper()
	want := parseModel(b)
	tells(t, name, b, want)
	if want.e == api.OK {
		s, _ := Parse(b)
		tryScript(t, "what is parsed of "+name, s)
		is(t, "whether what is parsed of "+name+" may be", Right(s), true)
	}
}

// tryScript holds all that is told of a script against what should be.
func tryScript(t *testing.T, name string, s api.Script) {
	t.Helper()
	is(t, "Calls of "+name, Calls(s), len(slices.Concat(s.Calls...)))
	if !may(s) {
		refused(t, name, s)
		return
	}
	is(t, "Right of "+name, Right(s), true)
	b, e := Write(s)
	is(t, "the error of Write of "+name, e, api.OK)
	if want := writeModel(s); !bytes.Equal(b, want) {
		t.Fatalf("Write of %s: %s, not %s", name, short(b), short(want))
	}
	tells(t, "what is written of "+name, b, told{s, api.OK})
}

// refused asks that a script may not be, and that it has no bytes.
func refused(t *testing.T, name string, s api.Script) {
	t.Helper()
	is(t, "Right of "+name, Right(s), false)
	b, e := Write(s)
	is(t, "the error of Write of "+name, e, api.ErrArg)
	is(t, "how many bytes are written of "+name, len(b), 0)
}

// usual is an ordinary script of an algorithm and of so many threads, some of which have no call.
func usual(algo, threads int) api.Script {
	s := api.Script{Conf: confOf(algo, threads), Calls: make([][]api.Call, threads), Draws: []byte{0, 7, 255}}
	for i := range 2 * threads {
		at := i * 5 % threads
		if at == 1 {
			continue
		}
		s.Calls[at] = append(s.Calls[at], insert(uint32(i), uint32(1000*i)), deleteMin, peekMin)
	}
	for i := range 7 * threads {
		s.Picks = append(s.Picks, i*i%threads)
	}
	return s
}

// usualBytes is bytes of an ordinary script, whose threads' calls stand among one another: 3 calls, 5 picks and 2 draws.
func usualBytes() []byte {
	return join(confBytes(0, 2), []byte{3},
		[]byte{1, 0, 5, 0, 0, 0, 7, 0, 0, 0},
		[]byte{0, 1, 0, 0, 0, 0, 0, 0, 0, 0},
		[]byte{1, 2, 0, 0, 0, 0, 0, 0, 0, 0},
		[]byte{5, 0}, []byte{1, 0, 0, 1, 1}, []byte{200, 9})
}

// usualScript is the script of usualBytes.
func usualScript() api.Script {
	return api.Script{Conf: confOf(0, 2), Calls: [][]api.Call{{deleteMin}, {insert(5, 7), peekMin}}, Picks: []int{1, 0, 0, 1, 1}, Draws: []byte{200, 9}}
}

// edges is numbers at the edges of 32 bits and of their bytes.
func edges() []uint32 {
	return []uint32{0, 1, 2, 127, 128, 255, 256, 257, 65535, 65536, 1<<24 - 1, 1 << 24, 0x01020304, 0x80402010, 1<<31 - 1, 1 << 31, math.MaxUint32 - 1, math.MaxUint32}
}

// farNumbers is numbers that are nothing of a script's: the edges of many sizes, and such as one byte or 32 bits of them may be.
func farNumbers() []int {
	return []int{-1, -2, -6, -255, -256, -255 - 256, 255, 256, 257, 258, 1 << 16, 1<<31 - 1, 1 << 31, 1<<31 + 1, 1<<32 - 1, 1 << 32, 1<<32 + 1, 1<<32 + 2,
		math.MinInt32, math.MinInt32 - 1, math.MinInt, math.MinInt + 1, math.MaxInt - 1, math.MaxInt}
}

// callBytes is a call's thread and its nine bytes, all alike but for the thread.
func callBytes(thread int) []byte { return []byte{byte(thread), 0, 1, 2, 3, 4, 5, 6, 7, 8} }

// manyCalls is the bytes of so many calls, of threads in turn.
func manyCalls(n int) []byte {
	var b []byte
	for i := range n {
		b = append(b, callBytes(i)...)
	}
	return b
}

// number is the two bytes of a number of picks.
func number(n int) []byte { return []byte{byte(n % 256), byte(n / 256)} }

// The chapter's example, of each algorithm and of each number of threads.
func TestExample(t *testing.T) {
	s := api.Script{Conf: api.Conf{Algo: 0, Threads: 1, Nodes: 2, Level: 1, Batch: 1, Probes: 1, Scan: 1}, Calls: [][]api.Call{nil}}
	tells(t, "the chapter's example", []byte{0, 1, 2, 1, 1, 1, 1, 0, 0, 0}, told{s, api.OK})
	for algo := range 3 {
		for threads := 1; threads <= 6; threads++ {
			name := fmt.Sprint("algorithm ", algo, " of ", threads, " threads without calls, picks, draws")
			b := join(confBytes(algo, threads), []byte{0, 0, 0})
			s := api.Script{Conf: confOf(algo, threads), Calls: make([][]api.Call, threads)}
			tells(t, name, b, told{s, api.OK})
			got, _ := Write(s)
			is(t, "Write of "+name, string(got), string(b))
			is(t, "Calls of "+name, Calls(s), 0)
		}
	}
}

// The document's example of bytes that end too soon.
func TestEndTooSoon(t *testing.T) {
	tells(t, "bytes that end too soon", []byte{0, 1, 2, 1, 1, 1, 1, 0, 0}, fault(api.ErrEnd))
	tells(t, "bytes that end too soon", []byte{0, 1, 2, 1, 1, 1, 1, 1, 0, 0}, fault(api.ErrEnd))
	tells(t, "bytes that end too soon", []byte{0, 1, 2, 1, 1, 1, 1, 0, 1, 0}, fault(api.ErrEnd))
	tells(t, "bytes that end too soon", []byte{0, 1, 2, 1, 1, 1, 1}, fault(api.ErrEnd))
}

// Promises 11.1, 11.2: by hand, bytes that are written as they were.
func TestParseAndWriteByHand(t *testing.T) {
	for _, c := range []struct {
		name string
		b    []byte
		s    api.Script
	}{
		{"one call", join(confBytes(1, 1), []byte{1, 0, 0, 5, 0, 0, 0, 7, 0, 0, 0, 0, 0}),
			api.Script{Conf: confOf(1, 1), Calls: [][]api.Call{{insert(5, 7)}}}},
		{"one pick", join(confBytes(2, 3), []byte{0, 1, 0, 2}),
			api.Script{Conf: confOf(2, 3), Calls: make([][]api.Call, 3), Picks: []int{2}}},
		{"one draw", join(confBytes(0, 6), []byte{0, 0, 0, 99}),
			api.Script{Conf: confOf(0, 6), Calls: make([][]api.Call, 6), Draws: []byte{99}}},
		{"draws as what looks like another script", join(confBytes(0, 1), []byte{0, 0, 0}, usualBytes()),
			api.Script{Conf: confOf(0, 1), Calls: make([][]api.Call, 1), Draws: usualBytes()}},
		{"calls of the last thread alone", join(confBytes(1, 4), []byte{2}, []byte{3, 1, 0, 0, 0, 0, 0, 0, 0, 0}, []byte{3, 0, 1, 2, 3, 4, 5, 6, 7, 8}, []byte{4, 0, 3, 3, 0, 3}),
			api.Script{Conf: confOf(1, 4), Calls: [][]api.Call{nil, nil, nil, {deleteMin, insert(0x04030201, 0x08070605)}}, Picks: []int{3, 3, 0, 3}}},
		{"calls of each thread, and all parts", join(confBytes(2, 3), []byte{4},
			[]byte{0, 2, 0, 0, 0, 0, 0, 0, 0, 0}, []byte{1, 0, 255, 255, 255, 255, 0, 0, 0, 128}, []byte{1, 1, 0, 0, 0, 0, 0, 0, 0, 0}, []byte{2, 0, 0, 0, 0, 0, 0, 0, 0, 0},
			[]byte{3, 0}, []byte{2, 1, 0}, []byte{0, 0, 255, 1}),
			api.Script{Conf: confOf(2, 3), Calls: [][]api.Call{{peekMin}, {insert(math.MaxUint32, 1<<31), deleteMin}, {insert(0, 0)}}, Picks: []int{2, 1, 0}, Draws: []byte{0, 0, 255, 1}}},
	} {
		tells(t, c.name, c.b, told{c.s, api.OK})
		is(t, "Right of "+c.name, Right(c.s), true)
		got, e := Write(c.s)
		is(t, "the error of Write of "+c.name, e, api.OK)
		is(t, "Write of "+c.name, string(got), string(c.b))
	}
}

// Promises 11.1, 11.2: calls that stand among those of other threads are parsed in their order, and written thread by thread.
func TestCallsAmongOthers(t *testing.T) {
	tells(t, "an ordinary script", usualBytes(), told{usualScript(), api.OK})
	got, e := Write(usualScript())
	is(t, "the error of Write of it", e, api.OK)
	is(t, "Write of it", string(got), string(join(confBytes(0, 2), []byte{3},
		[]byte{0, 1, 0, 0, 0, 0, 0, 0, 0, 0},
		[]byte{1, 0, 5, 0, 0, 0, 7, 0, 0, 0},
		[]byte{1, 2, 0, 0, 0, 0, 0, 0, 0, 0},
		[]byte{5, 0}, []byte{1, 0, 0, 1, 1}, []byte{200, 9})))

	b := join(confBytes(0, 3), []byte{7})
	for i, thread := range []byte{2, 0, 2, 1, 0, 2, 2} {
		b = append(b, thread, 0, byte(i), 0, 0, 0, 0, 0, 0, 0)
	}
	want := [][]api.Call{{insert(1, 0), insert(4, 0)}, {insert(3, 0)}, {insert(0, 0), insert(2, 0), insert(5, 0), insert(6, 0)}}
	tells(t, "calls of three threads", append(b, 0, 0), told{api.Script{Conf: confOf(0, 3), Calls: want}, api.OK})
}

// Promises 11.1, 11.2, 11.3: an ordinary script of each algorithm and of each number of threads.
func TestUsualScripts(t *testing.T) {
	for algo := range 3 {
		for threads := 1; threads <= 6; threads++ {
			name := fmt.Sprint("algorithm ", algo, " of ", threads, " threads")
			s := usual(algo, threads)
			is(t, "whether the test's own script of "+name+" may be", may(s), true)
			tryScript(t, name, s)
			tryBytes(t, name, writeModel(s))
		}
	}
}

// Promise 11.1: the error of layer 10, whatever stands behind the seven bytes.
func TestWrongConfigurations(t *testing.T) {
	for _, b := range [][]byte{nil, {}, {0}, {0, 2}, {0, 2, 8}, {0, 2, 8, 3}, {0, 2, 8, 3, 1}, {0, 2, 8, 3, 1, 2}, {9, 9, 99, 9, 99, 99}, {255}} {
		tells(t, "fewer than seven bytes", b, fault(api.ErrEnd))
	}
	for _, seven := range [][]byte{{0, 0, 0, 0, 0, 0, 0}, {255, 255, 255, 255, 255, 255, 255}, {3, 2, 8, 3, 1, 2, 4}, {0, 0, 8, 3, 1, 2, 4}, {0, 7, 8, 3, 1, 2, 4},
		{0, 2, 0, 3, 1, 2, 4}, {1, 2, 2, 3, 1, 2, 4}, {2, 2, 2, 3, 1, 2, 4}, {0, 2, 65, 3, 1, 2, 4}, {0, 2, 8, 0, 1, 2, 4}, {0, 2, 8, 7, 1, 2, 4},
		{0, 2, 8, 3, 0, 2, 4}, {0, 2, 8, 3, 17, 2, 4}, {0, 2, 8, 3, 1, 0, 4}, {0, 2, 8, 3, 1, 17, 4}, {0, 2, 8, 3, 1, 2, 0}, {0, 2, 8, 3, 1, 2, 65}} {
		for _, behind := range [][]byte{nil, {0}, {0, 0, 0}, {1}, {49}, {255}, {0, 255, 255}, usualBytes()[7:], make([]byte, 70_000)} {
			tells(t, "what is no configuration", join(seven, behind), fault(api.ErrConfig))
		}
	}
	for at := range 7 {
		for n := range 256 {
			b := usualBytes()
			b[at] = byte(n)
			tryBytes(t, "a script with another configuration", b)
			tryBytes(t, "another configuration alone", b[:7])
		}
	}
}

// Promise 11.1: bytes that end at each place are too few, but where only draws are missing.
func TestEndAtEachPlace(t *testing.T) {
	b := usualBytes()
	whole := len(b) - 2
	for n := range whole {
		tells(t, fmt.Sprint("the first ", n), b[:n], fault(api.ErrEnd))
		tells(t, fmt.Sprint("the first ", n, " in memory of their own"), bytes.Clone(b[:n]), fault(api.ErrEnd))
	}
	for n := range 3 {
		s := usualScript()
		s.Draws = s.Draws[:n]
		tells(t, fmt.Sprint("all but some draws: ", n), b[:whole+n], told{s, api.OK})
	}
	// By their places: ahead of the number of calls, ahead of a call and within it, ahead of the number of picks and within it, within the picks.
	for _, n := range []int{7, 8, 9, 10, 17, 18, 19, 27, 28, 37, 38, 39, 40, 41, 44} {
		tells(t, fmt.Sprint("the first ", n), b[:n], fault(api.ErrEnd))
	}
	is(t, "where the draws begin", whole, 45)
}

// Promise 11.1: the same of each algorithm, of each number of threads, and of many picks.
func TestEndOfMany(t *testing.T) {
	for algo := range 3 {
		for threads := 1; threads <= 6; threads++ {
			b := writeModel(usual(algo, threads))
			for n := range len(b) + 1 {
				tryBytes(t, fmt.Sprint("the first ", n), b[:n])
			}
		}
	}
	b := join(confBytes(0, 2), []byte{0}, number(300), make([]byte, 300))
	for n := range len(b) {
		tells(t, fmt.Sprint("the first ", n), b[:n], fault(api.ErrEnd))
	}
	is(t, "the error of all of them", parse(b).e, api.OK)
}

// Promise 11.1: a call of each operation, and of bytes that are taken modulo 3; the numbers of those that aren't Insert play no part.
func TestOperations(t *testing.T) {
	for op := range 256 {
		for _, behind := range [][]byte{make([]byte, 8), {1, 2, 3, 4, 5, 6, 7, 8}, bytes.Repeat([]byte{255}, 8)} {
			b := join(confBytes(1, 2), []byte{1, 1, byte(op)}, behind, []byte{0, 0})
			want := api.Call{Op: op % 3}
			if op%3 == 0 {
				want = insert(binary.LittleEndian.Uint32(behind), binary.LittleEndian.Uint32(behind[4:]))
			}
			tells(t, "one call", b, told{api.Script{Conf: confOf(1, 2), Calls: [][]api.Call{nil, {want}}}, api.OK})
		}
	}
	// By hand, operations above 2.
	for op, want := range map[byte]api.Call{3: insert(1, 2), 4: deleteMin, 5: peekMin, 127: deleteMin, 128: peekMin, 254: peekMin, 255: insert(1, 2)} {
		b := join(confBytes(0, 1), []byte{1, 0, op, 1, 0, 0, 0, 2, 0, 0, 0, 0, 0})
		tells(t, "one call", b, told{api.Script{Conf: confOf(0, 1), Calls: [][]api.Call{{want}}}, api.OK})
	}
}

// Promises 11.1, 11.2, 11.3: keys and values at the edges of 32 bits.
func TestKeysAndValues(t *testing.T) {
	for _, key := range edges() {
		for _, val := range edges() {
			s := api.Script{Conf: confOf(2, 2), Calls: [][]api.Call{{insert(key, val)}, {insert(val, key), insert(key, key)}}}
			tryScript(t, fmt.Sprint("inserts of ", key, " and ", val), s)
			tryBytes(t, fmt.Sprint("inserts of ", key, " and ", val), writeModel(s))
		}
	}
}

// Promise 11.1: every byte as a call's thread and as a pick, by each number of threads.
func TestThreadsAndPicksModulo(t *testing.T) {
	for threads := 1; threads <= 6; threads++ {
		for n := range 256 {
			b := join(confBytes(0, threads), []byte{1}, callBytes(n), []byte{1, 0, byte(n)})
			s := api.Script{Conf: confOf(0, threads), Calls: make([][]api.Call, threads), Picks: []int{n % threads}}
			s.Calls[n%threads] = []api.Call{insert(0x04030201, 0x08070605)}
			tells(t, fmt.Sprint("thread ", n, " of ", threads), b, told{s, api.OK})
		}
	}
	// By hand: Threads, one above it, and 255.
	for _, c := range []struct{ threads, n, want int }{{1, 0, 0}, {1, 1, 0}, {1, 2, 0}, {1, 255, 0}, {2, 1, 1}, {2, 2, 0}, {2, 3, 1}, {2, 255, 1}, {3, 3, 0}, {3, 4, 1}, {3, 255, 0},
		{4, 4, 0}, {4, 5, 1}, {4, 255, 3}, {5, 5, 0}, {5, 6, 1}, {5, 255, 0}, {6, 5, 5}, {6, 6, 0}, {6, 7, 1}, {6, 255, 3}} {
		got, e := Parse(join(confBytes(2, c.threads), []byte{1}, callBytes(c.n), []byte{1, 0, byte(c.n)}))
		is(t, "the error", e, api.OK)
		is(t, fmt.Sprint("how many calls of thread ", c.n, " of ", c.threads), len(got.Calls[c.want]), 1)
		is(t, fmt.Sprint("pick ", c.n, " of ", c.threads), got.Picks[0], c.want)
	}
}

// Promise 11.1: draws are as they were, whatever their bytes are.
func TestDrawsAreNotTakenModulo(t *testing.T) {
	var draws []byte
	for n := range 256 {
		draws = append(draws, byte(n), byte(255-n))
	}
	for threads := 1; threads <= 6; threads++ {
		b := join(confBytes(1, threads), []byte{0, 0, 0}, draws)
		tells(t, "all draws", b, told{api.Script{Conf: confOf(1, threads), Calls: make([][]api.Call, threads), Draws: draws}, api.OK})
	}
}

// Promise 11.1: each number of calls, with all their bytes, with one byte less, with none, and with more.
func TestNumberOfCalls(t *testing.T) {
	for n := range 256 {
		b := join(confBytes(1, 5), []byte{byte(n)}, manyCalls(n), []byte{2, 0, 7, 4}, []byte{1, 2})
		if n > 48 {
			for _, cut := range []int{8, 9, 8 + 10*48, 8 + 10*n, len(b)} {
				tells(t, fmt.Sprint(n, " calls, ", cut, " bytes"), b[:cut], fault(api.ErrLong))
			}
			continue
		}
		s := api.Script{Conf: confOf(1, 5), Calls: make([][]api.Call, 5), Picks: []int{2, 4}, Draws: []byte{1, 2}}
		for i := range n {
			s.Calls[i%5] = append(s.Calls[i%5], insert(0x04030201, 0x08070605))
		}
		tells(t, fmt.Sprint(n, " calls"), b, told{s, api.OK})
		is(t, fmt.Sprint("Calls of ", n), Calls(s), n)
		for cut := range 8 + 10*n + 4 {
			tells(t, fmt.Sprint(n, " calls, ", cut, " bytes"), b[:cut], fault(api.ErrEnd))
		}
	}
	// By hand: 47 and 48 may be, but need their bytes; 49 and 255 may not, with them or without.
	for _, c := range []struct {
		n         int
		all, none api.Errno
	}{{0, api.OK, api.ErrEnd}, {47, api.OK, api.ErrEnd}, {48, api.OK, api.ErrEnd}, {49, api.ErrLong, api.ErrLong}, {255, api.ErrLong, api.ErrLong}} {
		b := join(confBytes(0, 1), []byte{byte(c.n)}, manyCalls(c.n), []byte{0, 0})
		is(t, fmt.Sprint("the error of ", c.n, " calls"), parse(b).e, c.all)
		is(t, fmt.Sprint("the error of ", c.n, " calls without their bytes"), parse(b[:8]).e, c.none)
		if c.n > 0 {
			is(t, fmt.Sprint("the error of ", c.n, " calls without the last byte"), parse(b[:8+10*c.n-1]).e, c.none)
		}
	}
}

// Promise 11.1: numbers of picks, with all their bytes, with one byte less, with none.
func TestNumberOfPicks(t *testing.T) {
	for _, n := range []int{0, 1, 2, 127, 128, 254, 255, 256, 257, 511, 512, 1000, 32_767, 32_768, 59_999, 60_000, 60_001, 60_002, 60_160, 65_280, 65_534, 65_535} {
		head := join(confBytes(0, 4), []byte{1}, callBytes(3), number(n))
		b := join(head, make([]byte, n))
		for i := range n {
			b[len(head)+i] = byte(i * 7)
		}
		for _, cut := range []int{0, 1, n / 2, n - 1} {
			if cut < 0 || cut >= n {
				continue
			}
			want := fault(api.ErrEnd)
			if n > 60_000 {
				want = fault(api.ErrLong)
			}
			tells(t, fmt.Sprint(cut, " of ", n, " picks"), b[:len(head)+cut], want)
		}
		tells(t, fmt.Sprint(n, " picks"), b, parseModel(b))
		tells(t, fmt.Sprint(n, " picks and a draw"), append(b, 77), parseModel(append(b, 77)))
		is(t, fmt.Sprint("whether ", n, " picks may be"), parse(b).e == api.OK, n <= 60_000)
	}
}

// Promise 11.1: each number of picks without their bytes.
func TestEachNumberOfPicks(t *testing.T) {
	for n := range 1 << 16 {
		want := api.ErrEnd
		switch {
		case n == 0:
			want = api.OK
		case n > 60_000:
			want = api.ErrLong
		}
		is(t, fmt.Sprint("the error of ", n, " picks without their bytes"), parse(join(confBytes(0, 1), []byte{0}, number(n))).e, want)
	}
}

// Promise 11.1: which of a number's two bytes is the lower one.
func TestLowerByteFirst(t *testing.T) {
	head := join(confBytes(0, 2), []byte{0})
	is(t, "the error of 1 pick and 255 draws", parse(join(head, []byte{1, 0}, make([]byte, 256))).e, api.OK)
	is(t, "how many picks 1, 0 is", len(parse(join(head, []byte{1, 0}, make([]byte, 256))).s.Picks), 1)
	is(t, "how many picks 0, 1 is", len(parse(join(head, []byte{0, 1}, make([]byte, 256))).s.Picks), 256)
	is(t, "how many picks 96, 234 is", len(parse(join(head, []byte{96, 234}, make([]byte, 60_000))).s.Picks), 60_000)
	tells(t, "97, 234", join(head, []byte{97, 234}, make([]byte, 60_001)), fault(api.ErrLong))

	s := api.Script{Conf: confOf(0, 2), Calls: make([][]api.Call, 2), Picks: make([]int, 258)}
	got, _ := Write(s)
	is(t, "the number's bytes of 258 picks", string(got[8:10]), "\x02\x01")
	s.Picks = make([]int, 60_000)
	got, _ = Write(s)
	is(t, "the number's bytes of 60,000 picks", string(got[8:10]), "\x60\xea")
	is(t, "how many bytes there are of 60,000 picks", len(got), 60_010)
}

// Promise 11.1: numbers of draws, behind no picks and behind many.
func TestNumberOfDraws(t *testing.T) {
	for _, picks := range []int{0, 1, 300, 60_000} {
		head := join(confBytes(2, 3), []byte{1}, callBytes(1), number(picks), bytes.Repeat([]byte{2}, picks))
		for _, n := range []int{0, 1, 255, 256, 4095, 4096, 4097, 4098, 5000, 8192, 65_536, 65_536 + 4096, 1 << 20} {
			b := join(head, bytes.Repeat([]byte{byte(n), 3, 200}, n/3+1)[:n])
			tells(t, fmt.Sprint(n, " draws behind ", picks, " picks"), b, parseModel(b))
			is(t, fmt.Sprint("whether ", n, " draws may be"), parse(b).e == api.OK, n <= 4096)
		}
	}
	head := join(confBytes(0, 1), []byte{0, 0, 0})
	is(t, "how many of 4096 draws there are", len(parse(join(head, make([]byte, 4096))).s.Draws), 4096)
	tells(t, "4097 draws", join(head, make([]byte, 4097)), fault(api.ErrLong))
}

// Promise 11.1: which of several errors is told.
func TestErrorsInOrder(t *testing.T) {
	right := confBytes(0, 2)
	wrong := confBytes(3, 2)
	for _, c := range []struct {
		name string
		b    []byte
		want api.Errno
	}{
		{"six bytes of no configuration", wrong[:6], api.ErrEnd},
		{"no configuration, and nothing else", wrong, api.ErrConfig},
		{"no configuration, too many calls", join(wrong, []byte{49}), api.ErrConfig},
		{"no configuration, too many picks", join(wrong, []byte{0, 255, 255}), api.ErrConfig},
		{"no configuration, too many draws", join(wrong, []byte{0, 0, 0}, make([]byte, 5000)), api.ErrConfig},
		{"too many calls, and nothing else", join(right, []byte{49}), api.ErrLong},
		{"too many calls, a part of one of them", join(right, []byte{49, 0, 0, 0}), api.ErrLong},
		{"too many calls, too many picks", join(right, []byte{49}, manyCalls(49), []byte{255, 255}), api.ErrLong},
		{"too many calls, picks that are missing", join(right, []byte{49}, manyCalls(49), []byte{1, 0}), api.ErrLong},
		{"a call that is missing, bytes that are too many picks as picks", join(right, []byte{1, 255, 255, 255}), api.ErrEnd},
		{"a call too few, what would be picks", join(right, []byte{2}, manyCalls(1), []byte{0, 0}), api.ErrEnd},
		{"a call too few, what would be too many picks", join(right, []byte{2}, manyCalls(1), []byte{255, 255}), api.ErrEnd},
		{"too many picks, and nothing else", join(right, []byte{0, 97, 234}), api.ErrLong},
		{"too many picks, one of them", join(right, []byte{0, 97, 234, 1}), api.ErrLong},
		{"too many picks, all of them", join(right, []byte{0, 97, 234}, make([]byte, 60_001)), api.ErrLong},
		{"too many picks, all of them, too many draws", join(right, []byte{0, 97, 234}, make([]byte, 70_000)), api.ErrLong},
		{"one byte of too many picks' number", join(right, []byte{0, 255}), api.ErrEnd},
		{"a pick that is missing", join(right, []byte{0, 1, 0}), api.ErrEnd},
		{"as many picks as may be, one of which is missing", join(right, []byte{0, 96, 234}, make([]byte, 59_999)), api.ErrEnd},
		{"too many draws", join(right, []byte{0, 0, 0}, make([]byte, 4097)), api.ErrLong},
		{"too many draws behind a call and picks", join(right, []byte{1}, manyCalls(1), []byte{1, 0, 1}, make([]byte, 4097)), api.ErrLong},
	} {
		tells(t, c.name, c.b, fault(c.want))
	}
}

// Promise 11.1: of bytes with one byte changed to each other one, at each place.
func TestOneByteOff(t *testing.T) {
	for at := range usualBytes() {
		for n := range 256 {
			b := usualBytes()
			b[at] = byte(n)
			tryBytes(t, fmt.Sprint("a script with byte ", at, " changed"), b)
			tryBytes(t, "its other bytes", slices.Delete(b, at, at+1))
		}
	}
}

// wrongScripts is scripts that may not be, each in one way, by their names.
func wrongScripts() map[string]api.Script {
	l := map[string]api.Script{"a zero script": {}}
	add := func(name string, change func(s *api.Script)) {
		s := usualScript()
		change(&s)
		l[name] = s
	}
	add("a zero configuration", func(s *api.Script) { s.Conf = api.Conf{} })
	add("a zero configuration and no calls", func(s *api.Script) { s.Conf, s.Calls = api.Conf{}, nil })
	add("no threads, no lists", func(s *api.Script) { s.Conf.Threads, s.Calls, s.Picks = 0, nil, nil })
	add("threads below 0", func(s *api.Script) { s.Conf.Threads, s.Picks = -1, nil })
	add("7 threads, 7 lists", func(s *api.Script) { s.Conf.Threads, s.Calls = 7, make([][]api.Call, 7) })
	add("too few nodes", func(s *api.Script) { s.Conf.Algo, s.Conf.Nodes = 1, 2 })
	add("an algorithm that is none", func(s *api.Script) { s.Conf.Algo = 3 })
	add("one list too few", func(s *api.Script) { s.Calls = s.Calls[:1] })
	add("one list too many", func(s *api.Script) { s.Calls = append(s.Calls, nil) })
	add("many lists too many", func(s *api.Script) { s.Calls = append(s.Calls, make([][]api.Call, 1000)...) })
	add("no lists", func(s *api.Script) { s.Calls = nil })
	add("lists that are none", func(s *api.Script) { s.Calls = [][]api.Call{} })
	add("a call that may not be", func(s *api.Script) { s.Calls[0][0].Op = 3 })
	add("another call that may not be", func(s *api.Script) { s.Calls[1][1].Key = 1 })
	add("a third call that may not be", func(s *api.Script) { s.Calls[0][0].Val = math.MaxUint32 })
	add("a pick below 0", func(s *api.Script) { s.Picks[0] = -1 })
	add("a pick that is Threads", func(s *api.Script) { s.Picks[4] = 2 })
	add("49 calls in the first list", func(s *api.Script) { s.Calls[0], s.Calls[1] = make([]api.Call, 49), nil })
	add("49 calls in the last list", func(s *api.Script) { s.Calls[0], s.Calls[1] = nil, make([]api.Call, 49) })
	add("49 calls in two lists", func(s *api.Script) { s.Calls[0], s.Calls[1] = make([]api.Call, 24), make([]api.Call, 25) })
	add("96 calls in two lists", func(s *api.Script) { s.Calls[0], s.Calls[1] = make([]api.Call, 48), make([]api.Call, 48) })
	add("256 calls", func(s *api.Script) { s.Calls[0], s.Calls[1] = make([]api.Call, 128), make([]api.Call, 128) })
	add("60,001 picks", func(s *api.Script) { s.Picks = make([]int, 60_001) })
	add("65,536 picks", func(s *api.Script) { s.Picks = make([]int, 65_536) })
	add("4097 draws", func(s *api.Script) { s.Draws = make([]byte, 4097) })
	add("65,536 draws", func(s *api.Script) { s.Draws = make([]byte, 65_536) })
	return l
}

// Promise 11.2, Right and Write: by hand, each way in which a script may not be.
func TestWrongScripts(t *testing.T) {
	for name, s := range wrongScripts() {
		is(t, "whether the test's model takes "+name, may(s), false)
		refused(t, name, s)
	}
}

// Promise 11.2, Right and Write: by hand, scripts that may be, at all limits.
func TestRightScripts(t *testing.T) {
	for name, change := range map[string]func(s *api.Script){
		"an ordinary script":        func(s *api.Script) {},
		"lists that are nil":        func(s *api.Script) { s.Calls = [][]api.Call{nil, nil} },
		"lists that are empty":      func(s *api.Script) { s.Calls = [][]api.Call{{}, {}} },
		"one of each":               func(s *api.Script) { s.Calls = [][]api.Call{nil, {}} },
		"no picks":                  func(s *api.Script) { s.Picks = nil },
		"picks that are none":       func(s *api.Script) { s.Picks = []int{} },
		"no draws":                  func(s *api.Script) { s.Draws = nil },
		"draws that are none":       func(s *api.Script) { s.Draws = []byte{} },
		"48 calls in one list":      func(s *api.Script) { s.Calls[0], s.Calls[1] = make([]api.Call, 48), nil },
		"48 calls in the last list": func(s *api.Script) { s.Calls[0], s.Calls[1] = nil, make([]api.Call, 48) },
		"48 calls in two lists":     func(s *api.Script) { s.Calls[0], s.Calls[1] = make([]api.Call, 24), make([]api.Call, 24) },
		"47 calls":                  func(s *api.Script) { s.Calls[0], s.Calls[1] = make([]api.Call, 40), make([]api.Call, 7) },
		"60,000 picks":              func(s *api.Script) { s.Picks = make([]int, 60_000) },
		"59,999 picks":              func(s *api.Script) { s.Picks = make([]int, 59_999) },
		"4096 draws":                func(s *api.Script) { s.Draws = bytes.Repeat([]byte{255}, 4096) },
		"4095 draws":                func(s *api.Script) { s.Draws = make([]byte, 4095) },
		"all at their most": func(s *api.Script) {
			s.Calls[0], s.Calls[1], s.Picks, s.Draws = make([]api.Call, 1), make([]api.Call, 47), make([]int, 60_000), make([]byte, 4096)
		},
	} {
		s := usualScript()
		change(&s)
		is(t, "whether the test's model takes "+name, may(s), true)
		tryScript(t, name, s)
	}
}

// Promise 11.2, Right: what layer 10 and layer 9 say of a configuration and of a call.
func TestRightIsOfTheLayersBelow(t *testing.T) {
	for at := range 7 {
		for _, n := range append(farNumbers(), 0, 1, 2, 3, 4, 6, 7, 16, 17, 64, 65) {
			s := usualScript()
			*[]*int{&s.Conf.Algo, &s.Conf.Threads, &s.Conf.Nodes, &s.Conf.Level, &s.Conf.Batch, &s.Conf.Probes, &s.Conf.Scan}[at] = n
			if n > 0 && n < 8 {
				s.Calls, s.Picks = make([][]api.Call, s.Conf.Threads), nil
			}
			tryScript(t, fmt.Sprint("configuration ", s.Conf), s)
			if len(s.Calls) == s.Conf.Threads {
				is(t, fmt.Sprint("Right of configuration ", s.Conf), Right(s), conf.Check(s.Conf) == api.OK)
			}
		}
	}
	for _, op := range append(farNumbers(), 0, 1, 2, 3, 4) {
		for _, c := range []api.Call{{Op: op}, {Op: op, Key: 1}, {Op: op, Val: 1}, {Op: op, Key: math.MaxUint32, Val: 1 << 31}} {
			for at := range 2 {
				for place := range 3 {
					s := usualScript()
					s.Calls[at] = slices.Insert([]api.Call{deleteMin, insert(2, 3)}, place, c)
					tryScript(t, fmt.Sprint("a script with ", c), s)
					is(t, fmt.Sprint("Right of a script with ", c), Right(s), call.Right(c))
				}
			}
		}
	}
}

// Promise 11.2, Right: how many lists, by each number of threads.
func TestNumberOfLists(t *testing.T) {
	for algo := range 3 {
		for threads := 1; threads <= 6; threads++ {
			for lists := range 9 {
				s := api.Script{Conf: confOf(algo, threads), Calls: make([][]api.Call, lists)}
				tryScript(t, fmt.Sprint(lists, " lists of ", threads, " threads"), s)
				is(t, fmt.Sprint("Right of ", lists, " lists of ", threads, " threads"), Right(s), lists == threads)
			}
		}
	}
}

// Promise 11.2, Right: picks, by each number of threads, at each place of a row.
func TestPicksAtEdges(t *testing.T) {
	for threads := 1; threads <= 6; threads++ {
		for _, p := range append(farNumbers(), 0, 1, 2, 3, 4, 5, 6, 7, threads-1, threads, threads+1, -threads, 256+threads-1) {
			for at := range 4 {
				s := api.Script{Conf: confOf(1, threads), Calls: make([][]api.Call, threads), Picks: slices.Insert(make([]int, 3), at, p)}
				tryScript(t, fmt.Sprint("pick ", p, " of ", threads, " threads"), s)
				is(t, fmt.Sprint("Right of pick ", p, " of ", threads, " threads"), Right(s), p >= 0 && p < threads)
			}
		}
	}
	s := usualScript()
	s.Picks = make([]int, 60_000)
	s.Picks[59_999] = 2
	refused(t, "a script whose last pick may not be", s)
	s.Picks[59_999] = 1
	tryScript(t, "one whose last pick may be", s)
}

// Promise 11.2: how many calls there are over several lists, up to the limit and past it.
func TestCallsOverSeveralLists(t *testing.T) {
	for threads := 1; threads <= 6; threads++ {
		for _, n := range []int{0, 1, 2, 6, 7, 46, 47, 48, 49, 50, 96, 255, 256, 257, 256 + 48, 65_536} {
			for first := range threads {
				s := api.Script{Conf: confOf(0, threads), Calls: make([][]api.Call, threads)}
				for i := range n {
					at := (first + i*i) % threads
					s.Calls[at] = append(s.Calls[at], insert(uint32(i), uint32(first)))
				}
				name := fmt.Sprint(n, " calls of ", threads, " threads")
				tryScript(t, name, s)
				is(t, "Calls of "+name, Calls(s), n)
				is(t, "Right of "+name, Right(s), n <= 48)
			}
		}
	}
}

// Promise 11.2, Calls: of scripts that may not be, too.
func TestCallsOfAnyScript(t *testing.T) {
	for _, c := range []struct {
		lists [][]api.Call
		want  int
	}{{nil, 0}, {[][]api.Call{}, 0}, {[][]api.Call{nil}, 0}, {[][]api.Call{{}}, 0}, {[][]api.Call{{{Op: 9}}}, 1}, {[][]api.Call{make([]api.Call, 49)}, 49},
		{[][]api.Call{make([]api.Call, 2), nil, make([]api.Call, 3), {}, {}, {}, {}, make([]api.Call, 60_000)}, 60_005}, {make([][]api.Call, 100_000), 0}} {
		is(t, fmt.Sprint("Calls of ", len(c.lists), " lists"), Calls(api.Script{Calls: c.lists}), c.want)
		is(t, fmt.Sprint("Calls of ", len(c.lists), " lists and more"), Calls(api.Script{Conf: confOf(0, 2), Calls: c.lists, Picks: []int{1, 2, 3}, Draws: []byte{9}}), c.want)
	}
}

// chance tells bytes that are as good as chance, and always the same.
type chance uint64

func (c *chance) next(n int) int {
	*c = *c*2862933555777941757 + 3037000493
	return int(uint64(*c) >> 33 % uint64(n))
}

// edge is a number of 32 bits, often one at the edges.
func (c *chance) edge() uint32 {
	l := edges()
	if c.next(2) == 0 {
		return l[c.next(len(l))]
	}
	return uint32(c.next(1 << 31))
}

// script is one that may be.
func (c *chance) script() api.Script {
	s := api.Script{Conf: confOf(c.next(3), 1+c.next(6))}
	s.Conf.Nodes, s.Conf.Level, s.Conf.Batch, s.Conf.Probes, s.Conf.Scan = 3+c.next(62), 1+c.next(6), 1+c.next(16), 1+c.next(16), 1+c.next(64)
	s.Calls = make([][]api.Call, s.Conf.Threads)
	for range c.next(49) {
		at := c.next(s.Conf.Threads)
		s.Calls[at] = append(s.Calls[at], []api.Call{insert(c.edge(), c.edge()), deleteMin, peekMin}[c.next(3)])
	}
	for range c.next(400) {
		s.Picks = append(s.Picks, c.next(s.Conf.Threads))
	}
	for range c.next(60) {
		s.Draws = append(s.Draws, byte(c.next(256)))
	}
	return s
}

// Promise 11.3: what is written is parsed, of many scripts; each of them with one part changed is written, too, or refused.
func TestWrittenIsParsed(t *testing.T) {
	k := chance(3)
	for at := range 4000 {
		s := k.script()
		name := fmt.Sprint("script ", at)
		is(t, "whether the test's own "+name+" may be", may(s), true)
		tryScript(t, name, s)
		tryBytes(t, name, writeModel(s))

		other := copied(s)
		switch k.next(4) {
		case 0:
			other.Picks = append(other.Picks, k.next(9)-1)
		case 1:
			list := &other.Calls[k.next(len(other.Calls))]
			*list = append(*list, api.Call{Op: k.next(4), Key: uint32(k.next(2)), Val: uint32(k.next(2))})
		case 2:
			other.Conf.Threads = k.next(8)
		case 3:
			other.Conf.Nodes = k.next(66)
		}
		tryScript(t, name+" with one part changed", other)
	}
}

// Promise 11.3: what is parsed may be, and what is parsed and written is parsed as the same: of many bytes as good as chance.
func TestParsedMayBe(t *testing.T) {
	k := chance(11)
	good := 0
	for at := range 30_000 {
		b := confBytes(k.next(3), 1+k.next(6))
		b = append(b, byte(k.next(8)))
		for range k.next(120) {
			b = append(b, byte(k.next(256)))
		}
		if picksAt := 8 + 10*int(b[7]); len(b) > picksAt+1 && k.next(8) > 0 {
			b[picksAt], b[picksAt+1] = byte(k.next(40)), 0
		}
		tryBytes(t, fmt.Sprint("bytes ", at), b)
		s, e := Parse(b)
		if e != api.OK {
			continue
		}
		good++
		is(t, "Right of what is parsed", Right(s), true)
		again, e := Write(s)
		is(t, "the error of Write of what is parsed", e, api.OK)
		is(t, "how many bytes are written of what is parsed", len(again), len(b))
		tells(t, "what is written of what is parsed", again, told{s, api.OK})
	}
	if good < 5000 {
		t.Fatalf("only %d of the bytes were a script's", good)
	}
}

// Promise P1: of any bytes at all, all short ones of a few values among them, there is a script or an error.
func TestAnyBytes(t *testing.T) {
	rows := [][]byte{nil}
	for range 7 {
		var longer [][]byte
		for _, b := range rows {
			for _, n := range []byte{0, 1, 3, 255} {
				longer = append(longer, join(b, []byte{n}))
			}
		}
		rows = longer
		for _, b := range rows {
			tryBytes(t, "short bytes", b)
			tryBytes(t, "short bytes behind a configuration", join(confBytes(0, 2), b))
			tryBytes(t, "short bytes behind a call", join(confBytes(2, 3), []byte{1}, callBytes(7), b))
		}
	}
	k := chance(5)
	for range 20_000 {
		b := make([]byte, k.next(600))
		for i := range b {
			b[i] = byte(k.next(256))
		}
		tryBytes(t, "any bytes", b)
	}
	for _, n := range []byte{0, 1, 2, 3, 48, 255} {
		tryBytes(t, "very many bytes", bytes.Repeat([]byte{n}, 1<<22))
		tryBytes(t, "very many bytes behind a configuration", join(confBytes(1, 3), bytes.Repeat([]byte{n}, 1<<22)))
	}
}

// Promise P1: of scripts that are far too long there is an answer, too.
func TestVeryLongScripts(t *testing.T) {
	for threads := 1; threads <= 6; threads++ {
		s := api.Script{Conf: confOf(0, threads), Calls: make([][]api.Call, threads), Picks: make([]int, 1<<22)}
		refused(t, "very many picks", s)
		s.Picks, s.Draws = nil, make([]byte, 1<<24)
		refused(t, "very many draws", s)
		s.Draws, s.Calls[threads-1] = nil, make([]api.Call, 1<<20)
		refused(t, "very many calls", s)
		is(t, "Calls of very many", Calls(s), 1<<20)
		s.Calls = make([][]api.Call, 1<<20)
		refused(t, "very many lists", s)
		is(t, "Calls of very many lists", Calls(s), 0)
	}
}

// Bytes that lie behind the end of what was handed in are none of Parse's.
func TestBytesBehindTheEnd(t *testing.T) {
	all := append([]byte{9}, append(usualBytes(), 1, 2, 3)...)
	for n := range len(usualBytes()) + 1 {
		tells(t, fmt.Sprint(n, " bytes ahead of others"), all[1:1+n], parseModel(usualBytes()[:n]))
	}
	tells(t, "all of them", all[1:], parseModel(append(usualBytes(), 1, 2, 3)))
	tells(t, "all of them with the one ahead", all, fault(api.ErrConfig))
}

// Bytes that were handed in stay as they are, and play no part in what was told, once they are changed.
func TestHandedBytes(t *testing.T) {
	b := append(usualBytes(), 1, 2, 3)
	was := bytes.Clone(b)
	n := len(usualBytes())
	first, e := Parse(b[:n])
	is(t, "the error", e, api.OK)
	is(t, "the bytes behind Parse", string(b), string(was))

	// What is put behind what was told comes into no byte that was handed in.
	_ = append(first.Draws, 77, 78, 79)
	for _, l := range first.Calls {
		_ = append(l, insert(9, 9))
	}
	_ = append(first.Picks, 77, 78, 79)
	first.Draws[0]++
	is(t, "the bytes behind a change of what was told", string(b), string(was))
	first.Draws[0]--

	clear(b)
	if !same(first, usualScript()) {
		t.Fatalf("what was parsed ahead of a change: %v", first)
	}
	tells(t, "what was changed", b[:n], fault(api.ErrConfig))
	copy(b, was)
	tells(t, "what was changed back", b[:n], told{usualScript(), api.OK})
}

// Lists that were told share nothing: changed or put behind, they play no part in others, or in what is told later.
func TestToldListsAreNew(t *testing.T) {
	b := join(confBytes(0, 3), []byte{9}, manyCalls(9), []byte{2, 0, 1, 1, 5, 6})
	first, _ := Parse(b)
	second, _ := Parse(b)
	want := parseModel(b).s
	for at := range first.Calls {
		was := copied(first)
		l := first.Calls[at]
		for len(l) < 40 {
			l = append(l, insert(9, 9))
		}
		clear(l[:cap(l)])
		for other := range first.Calls {
			if other != at && !slices.Equal(first.Calls[other], was.Calls[other]) {
				t.Fatalf("calls of thread %d behind a change of those of thread %d: %v", other, at, first.Calls[other])
			}
		}
		clear(first.Calls[at])
	}
	clear(first.Picks)
	clear(first.Draws)
	clear(first.Calls)
	if !same(second, want) {
		t.Fatalf("what was told the second time: %v", second)
	}
	tells(t, "the same bytes", b, told{want, api.OK})
}

// A list's memory ends where the list ends or is its own: what is put behind it is in no other one.
func TestPutBehind(t *testing.T) {
	for n := range 49 {
		b := join(confBytes(0, 6), []byte{byte(n)}, manyCalls(n), []byte{3, 0, 1, 2, 3, 4, 5})
		s, _ := Parse(b)
		want := copied(s)
		for _, l := range s.Calls {
			clear(l[len(l):cap(l)])
			_ = append(l, insert(99, 99))
		}
		_ = append(s.Picks, 99)
		_ = append(s.Draws, 99)
		if !same(s, want) {
			t.Fatalf("a script of %d calls behind what was put behind its lists: %v, not %v", n, s, want)
		}
	}
}

// The chapter's way: the reader's pieces end where they end, so that what is put behind one isn't in the bytes.
func TestPiecesEnd(t *testing.T) {
	for n := range 5 {
		all := []byte{1, 2, 3, 4, 5}
		r := scriptReader{reader: reader{rest: all[:4]}}
		piece, ok := r.take(n)
		is(t, fmt.Sprint("whether there is a piece of ", n), ok, true)
		is(t, fmt.Sprint("a piece of ", n), string(piece), string(all[:n]))
		is(t, fmt.Sprint("what is left behind a piece of ", n), string(r.rest), string(all[n:4]))
		is(t, fmt.Sprint("where the memory of a piece of ", n, " ends"), cap(piece), n)
		_ = append(piece, 77)
		is(t, "the bytes behind it", string(all), "\x01\x02\x03\x04\x05")
		piece, ok = r.take(5 - n)
		is(t, "whether there is a piece of more than are left", ok, false)
		is(t, "how many bytes that piece has", len(piece), 0)
		is(t, "what is left behind it", string(r.rest), string(all[n:4]))
	}
}

// A script that was handed in stays as it is, and plays no part in what was told, once it is changed; what was told is new each time.
func TestHandedScripts(t *testing.T) {
	s := usualScript()
	s.Draws = append(make([]byte, 0, 100), s.Draws...)
	first, _ := Write(s)
	second, _ := Write(s)
	was := writeModel(usualScript())
	Right(s)
	Calls(s)
	if !same(s, usualScript()) {
		t.Fatalf("the script behind Write, Right and Calls: %v", s)
	}
	clear(first)
	_ = append(first, 1, 2, 3)
	if !same(s, usualScript()) {
		t.Fatalf("the script behind a change of what was told: %v", s)
	}
	is(t, "another Write", string(second), string(was))
	_ = append(second[:9], 1, 2, 3)
	third, _ := Write(s)
	is(t, "a later Write", string(third), string(was))

	s.Calls[0][0] = insert(8, 8)
	s.Calls[1] = nil
	clear(s.Picks)
	clear(s.Draws)
	s.Conf.Threads = 5
	is(t, "what was written ahead of a change", string(third), string(was))
	refused(t, "what was changed", s)
}

// Scripts that share their lists with one another, or a list with itself, are as good as others.
func TestSharedLists(t *testing.T) {
	l := []api.Call{insert(1, 2), deleteMin}
	s := api.Script{Conf: confOf(0, 3), Calls: [][]api.Call{l, l, l[:1]}, Picks: []int{0, 1, 2}}
	tryScript(t, "one list three times", s)
	is(t, "Calls of one list three times", Calls(s), 5)
	b, _ := Write(s)
	got, _ := Parse(b)
	got.Calls[0][0] = peekMin
	is(t, "the call of the second list", got.Calls[1][0], insert(1, 2))
	is(t, "the call of the list that was handed in", l[0], insert(1, 2))
}

// What is told hangs on nothing that was asked ahead of it.
func TestAskedAgain(t *testing.T) {
	for range 3 {
		tells(t, "an ordinary script", usualBytes(), told{usualScript(), api.OK})
		tells(t, "none", nil, fault(api.ErrEnd))
		tryScript(t, "an ordinary script", usualScript())
		refused(t, "a zero script", api.Script{})
		tells(t, "too many calls", join(confBytes(0, 2), []byte{49}), fault(api.ErrLong))
		tryScript(t, "another script", usual(2, 6))
	}
}
