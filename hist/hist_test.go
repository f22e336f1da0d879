package hist

import (
	"fmt"
	"math"
	"slices"
	"strings"
	"testing"

	"jostle/api"
	"jostle/call"
)

// is holds what was told against what should be. It ends the test, since what is wrong at all is mostly wrong of many histories.
func is[T comparable](t *testing.T, name string, got, want T) {
	t.Helper()
	if got != want {
		t.Fatalf("%s: %v, not %v", name, got, want)
	}
}

// same holds a list that was told against the one that should be; a nil one is as an empty one.
func same[T comparable](t *testing.T, name string, got, want []T) {
	t.Helper()
	if !slices.Equal(got, want) {
		t.Fatalf("%s: %s, not %s", name, short(got), short(want))
	}
}

// short is a thing's text, cut where it becomes too long to read.
func short(x any) string {
	s := fmt.Sprint(x)
	if len(s) > 600 {
		return s[:600] + ".."
	}
	return s
}

// insert is the call that puts a pair in.
func insert(key, val uint32) api.Call { return api.Call{Op: api.Insert, Key: key, Val: val} }

// pair is the answer that is a pair.
func pair(key, val uint32) api.Answer { return api.Answer{Kind: api.Pair, Key: key, Val: val} }

// The calls and the answers that have no numbers.
var (
	deleteMin = api.Call{Op: api.DeleteMin}
	peekMin   = api.Call{Op: api.PeekMin}
	done      = api.Answer{Kind: api.Done}
	full      = api.Answer{Kind: api.Full}
	empty     = api.Answer{Kind: api.Empty}
)

// begins is the event of a call.
func begins(thread int, c api.Call) api.Event { return api.Event{Thread: thread, Call: c} }

// ends is the event of an answer.
func ends(thread int, a api.Answer) api.Event {
	return api.Event{Thread: thread, Back: true, Answer: a}
}

// edges is numbers at the edges of 32 bits and of their bytes.
func edges() []uint32 {
	return []uint32{0, 1, 5, 9, 10, 127, 128, 255, 256, 65535, 65536, 1<<24 - 1, 1 << 24, 1<<31 - 1, 1 << 31, math.MaxUint32 - 1, math.MaxUint32}
}

// farNumbers is numbers that are no thread, no operation and no kind, though one byte or 32 bits of some of them are.
func farNumbers() []int {
	return []int{-1, -2, -5, -6, -254, -255, -256, -257, 255, 256, 257, 258, 261, 262, 1 << 16, 1<<31 - 1, 1 << 31, 1<<31 + 1, 1<<32 - 1, 1 << 32, 1<<32 + 1, 1<<32 + 5,
		math.MinInt32, math.MinInt32 - 1, math.MinInt, math.MinInt + 1, math.MinInt + 5, math.MaxInt - 1, math.MaxInt}
}

// noThreads is numbers of which there is no thread.
func noThreads() []int { return append(farNumbers(), 6, 7, 8, 10, 48, 49, 63, 64) }

// wrongCalls is calls that may not be.
func wrongCalls() []api.Call {
	var l []api.Call
	for _, op := range append(farNumbers(), 3, 4, 5) {
		l = append(l, api.Call{Op: op}, api.Call{Op: op, Key: 5, Val: 7})
	}
	for _, n := range edges()[1:] {
		for op := api.DeleteMin; op <= api.PeekMin; op++ {
			l = append(l, api.Call{Op: op, Key: n}, api.Call{Op: op, Val: n}, api.Call{Op: op, Key: n, Val: n})
		}
	}
	return l
}

// wrongAnswers is answers that may not be, of whatever call.
func wrongAnswers() []api.Answer {
	var l []api.Answer
	for _, kind := range append(farNumbers(), 4, 5, 6) {
		l = append(l, api.Answer{Kind: kind}, api.Answer{Kind: kind, Key: 5, Val: 7})
	}
	for _, n := range edges()[1:] {
		for _, kind := range []int{api.Done, api.Full, api.Empty} {
			l = append(l, api.Answer{Kind: kind, Key: n}, api.Answer{Kind: kind, Val: n}, api.Answer{Kind: kind, Key: n, Val: n})
		}
	}
	return l
}

// mayCall tells by chapter 9's words whether a call may be.
func mayCall(c api.Call) bool {
	return c.Op == 0 || (c.Op == 1 || c.Op == 2) && c.Key == 0 && c.Val == 0
}

// mayAnswer tells by chapter 9's words whether an answer may be.
func mayAnswer(a api.Answer) bool {
	return a.Kind == 2 || (a.Kind == 0 || a.Kind == 1 || a.Kind == 3) && a.Key == 0 && a.Val == 0
}

// fits tells by chapter 9's words whether a call may be answered so.
func fits(c api.Call, a api.Answer) bool {
	return mayCall(c) && mayAnswer(a) && (c.Op == 0) == (a.Kind == 0 || a.Kind == 1)
}

// textOf is an event's line, by the chapters' words.
func textOf(v api.Event) string {
	thread := "?"
	if slices.Contains([]int{0, 1, 2, 3, 4, 5}, v.Thread) {
		thread = fmt.Sprint(v.Thread)
	}
	switch {
	case v.Back && mayAnswer(v.Answer) && v.Answer.Kind == 2:
		return fmt.Sprintf("%s > %d %d\n", thread, v.Answer.Key, v.Answer.Val)
	case v.Back && mayAnswer(v.Answer):
		return thread + " > " + map[int]string{0: "done", 1: "full", 3: "empty"}[v.Answer.Kind] + "\n"
	case v.Back:
		return thread + " > ?\n"
	case mayCall(v.Call) && v.Call.Op == 0:
		return fmt.Sprintf("%s < insert %d %d\n", thread, v.Call.Key, v.Call.Val)
	case mayCall(v.Call):
		return thread + " < " + map[int]string{1: "deletemin", 2: "peekmin"}[v.Call.Op] + "\n"
	}
	return thread + " < ?\n"
}

// ofThread is a thread's events, and their places.
func ofThread(l []api.Event, thread int) ([]api.Event, []int) {
	var own []api.Event
	var places []int
	for at, v := range l {
		if v.Thread == thread {
			own, places = append(own, v), append(places, at)
		}
	}
	return own, places
}

// may tells by the chapter's words whether a history may be, thread by thread: each one's events are calls and answers by turns.
func may(l []api.Event) bool {
	seen := 0
	for thread := range 6 {
		own, _ := ofThread(l, thread)
		seen += len(own)
		for at, v := range own {
			isAnswer := at%2 == 1
			if v.Back != isAnswer {
				return false
			}
			if isAnswer && (v.Call != api.Call{} || !fits(own[at-1].Call, v.Answer)) {
				return false
			}
			if !isAnswer && (v.Answer != api.Answer{} || !mayCall(v.Call)) {
				return false
			}
		}
	}
	return seen == len(l)
}

// opersModel is the operations of a history that may be: each thread's events two by two, sorted by their beginnings.
func opersModel(l []api.Event) []api.Oper {
	var opers []api.Oper
	for thread := range 6 {
		own, places := ofThread(l, thread)
		for at := 0; at < len(own); at += 2 {
			o := api.Oper{Thread: thread, Call: own[at].Call, From: places[at], To: -1}
			if at+1 < len(own) {
				o.Answer, o.To = own[at+1].Answer, places[at+1]
			}
			opers = append(opers, o)
		}
	}
	slices.SortFunc(opers, func(a, b api.Oper) int { return a.From - b.From })
	return opers
}

// toldBack is the events that operations tell: each at its place.
func toldBack(t *testing.T, opers []api.Oper) []api.Event {
	t.Helper()
	at := map[int]api.Event{}
	events := 0
	for _, o := range opers {
		at[o.From] = begins(o.Thread, o.Call)
		events++
		if o.To != -1 {
			at[o.To] = ends(o.Thread, o.Answer)
			events++
		}
	}
	is(t, "how many places the operations have", len(at), events)
	l := make([]api.Event, events)
	for place, v := range at {
		if place < 0 || place >= events {
			t.Fatalf("an operation's place: %d of %d", place, events)
		}
		l[place] = v
	}
	return l
}

// tryList holds all that is told of a list of events against what should be.
func tryList(t *testing.T, l []api.Event) {
	t.Helper()
	var text strings.Builder
	for _, v := range l {
		text.WriteString(textOf(v))
	}
	var wantOpers []api.Oper
	want := api.ErrOrder
	if may(l) {
		wantOpers, want = opersModel(l), api.OK
	}
	opers, e := Opers(l)
	// The events' text is made only where it is needed, since very many lists come here.
	switch {
	case Show(l) != text.String():
		t.Fatalf("Show of %s: %s, not %s", short(l), short(Show(l)), short(text.String()))
	case Right(l) != may(l):
		t.Fatalf("Right of %s: %v", short(l), Right(l))
	case e != want || !slices.Equal(opers, wantOpers):
		t.Fatalf("Opers of %s: %s and %v, not %s and %v", short(l), short(opers), e, short(wantOpers), want)
	case may(l) && !slices.Equal(toldBack(t, opers), l):
		t.Fatalf("what the operations tell back of %s: %s", short(l), short(toldBack(t, opers)))
	}
}

// refusedList asks that a list of events may not be.
func refusedList(t *testing.T, name string, l []api.Event) {
	t.Helper()
	is(t, "Right of "+name, Right(l), false)
	opers, e := Opers(l)
	is(t, "the error of Opers of "+name, e, api.ErrOrder)
	is(t, "how many operations there are of "+name, len(opers), 0)
	tryList(t, l)
}

// model is a Hist beside what it should have noted.
type model struct {
	h     *Hist
	noted []api.Event
}

// last is a thread's last event, and whether it is a call.
func (m *model) last(thread int) (api.Event, bool) {
	own, _ := ofThread(m.noted, thread)
	if len(own) == 0 {
		return api.Event{}, false
	}
	v := own[len(own)-1]
	return v, !v.Back
}

// want is what an event's note should answer.
func (m *model) want(v api.Event) api.Errno {
	isThread := v.Thread == 0 || v.Thread == 1 || v.Thread == 2 || v.Thread == 3 || v.Thread == 4 || v.Thread == 5
	before, busy := m.last(v.Thread)
	switch {
	case !isThread:
		return api.ErrRange
	case !v.Back && !mayCall(v.Call):
		return api.ErrArg
	case !v.Back && busy:
		return api.ErrBusy
	case v.Back && !busy:
		return api.ErrNone
	case v.Back && !fits(before.Call, v.Answer):
		return api.ErrArg
	}
	return api.OK
}

// do has an event noted, and asks that it is answered as it should be.
func (m *model) do(t *testing.T, v api.Event) api.Errno {
	t.Helper()
	want := m.want(v)
	var e api.Errno
	bare := begins(v.Thread, v.Call)
	if v.Back {
		bare = ends(v.Thread, v.Answer)
		e = m.h.Respond(v.Thread, v.Answer)
	} else {
		e = m.h.Invoke(v.Thread, v.Call)
	}
	if e != want {
		t.Fatalf("the error of %v behind %s: %v, not %v", bare, short(m.noted), e, want)
	}
	if e == api.OK {
		m.noted = append(m.noted, bare)
	}
	return e
}

// holds asks that the Hist tells what it should.
func (m *model) holds(t *testing.T) {
	t.Helper()
	same(t, "Events", m.h.Events(), m.noted)
	for thread := -2; thread < 9; thread++ {
		if _, want := m.last(thread); m.h.Busy(thread) != want {
			t.Fatalf("Busy of %d behind %s: %v, not %v", thread, short(m.noted), !want, want)
		}
	}
}

// try has events noted one behind the other, and asks at each one for all that is told.
func (m *model) try(t *testing.T, l ...api.Event) {
	t.Helper()
	for _, v := range l {
		m.do(t, v)
		m.holds(t)
	}
}

// fresh is a model of a zero Hist, which has noted what it is handed.
func fresh(t *testing.T, l ...api.Event) *model {
	t.Helper()
	m := &model{h: new(Hist)}
	for _, v := range l {
		is(t, fmt.Sprint("the error of ", v), m.do(t, v), api.OK)
	}
	m.holds(t)
	return m
}

// usual is an ordinary history of all threads, with calls of all operations and answers of all kinds; threads 1 and 4 are busy at its end.
func usual() []api.Event {
	return []api.Event{
		begins(1, peekMin), begins(0, insert(5, 7)), ends(1, empty), ends(0, done),
		begins(5, deleteMin), begins(2, insert(3, 2)), begins(3, peekMin), begins(4, insert(9, 1)),
		ends(2, full), ends(5, pair(5, 7)), begins(5, insert(math.MaxUint32, 0)), ends(3, pair(5, 7)),
		begins(1, deleteMin), ends(4, done), ends(5, full), begins(4, peekMin),
	}
}

// usualText is its text.
const usualText = `1 < peekmin
0 < insert 5 7
1 > empty
0 > done
5 < deletemin
2 < insert 3 2
3 < peekmin
4 < insert 9 1
2 > full
5 > 5 7
5 < insert 4294967295 0
3 > 5 7
1 < deletemin
4 > done
5 > full
4 < peekmin
`

// usualOpers is its operations.
func usualOpers() []api.Oper {
	return []api.Oper{
		{Thread: 1, Call: peekMin, Answer: empty, From: 0, To: 2},
		{Thread: 0, Call: insert(5, 7), Answer: done, From: 1, To: 3},
		{Thread: 5, Call: deleteMin, Answer: pair(5, 7), From: 4, To: 9},
		{Thread: 2, Call: insert(3, 2), Answer: full, From: 5, To: 8},
		{Thread: 3, Call: peekMin, Answer: pair(5, 7), From: 6, To: 11},
		{Thread: 4, Call: insert(9, 1), Answer: done, From: 7, To: 13},
		{Thread: 5, Call: insert(math.MaxUint32, 0), Answer: full, From: 10, To: 14},
		{Thread: 1, Call: deleteMin, From: 12, To: -1},
		{Thread: 4, Call: peekMin, From: 15, To: -1},
	}
}

// The chapter's example, and what it says of its operations.
func TestExample(t *testing.T) {
	var h Hist
	is(t, "Invoke(1, peekmin)", h.Invoke(1, peekMin), api.OK)
	is(t, "Busy(1) behind it", h.Busy(1), true)
	is(t, "Respond(1, empty)", h.Respond(1, empty), api.OK)
	is(t, "Busy(1) behind that", h.Busy(1), false)
	same(t, "Events", h.Events(), []api.Event{{Thread: 1, Call: api.Call{Op: 2}}, {Thread: 1, Back: true, Answer: api.Answer{Kind: 3}}})
	is(t, "Show", Show(h.Events()), "1 < peekmin\n1 > empty\n")
	opers, e := Opers(h.Events())
	is(t, "the error of Opers", e, api.OK)
	same(t, "Opers", opers, []api.Oper{{Thread: 1, Call: api.Call{Op: 2}, Answer: api.Answer{Kind: 3}, From: 0, To: 1}})
}

// Promise 12.1: a zero Hist has no events, and nobody is busy.
func TestZero(t *testing.T) {
	var h Hist
	is(t, "how many events there are", len(h.Events()), 0)
	for _, thread := range append(noThreads(), 0, 1, 2, 3, 4, 5) {
		is(t, fmt.Sprint("Busy of ", thread), h.Busy(thread), false)
	}
	for thread := range 6 {
		for _, a := range []api.Answer{done, full, empty, pair(5, 7), pair(0, 0), {Kind: 4}} {
			is(t, fmt.Sprint("Respond of ", thread, ", ", a), new(Hist).Respond(thread, a), api.ErrNone)
			is(t, fmt.Sprint("Respond again of ", thread, ", ", a), h.Respond(thread, a), api.ErrNone)
		}
		is(t, fmt.Sprint("Invoke of ", thread), new(Hist).Invoke(thread, insert(0, 0)), api.OK)
	}
	is(t, "how many events there are behind what was refused", len(h.Events()), 0)
	is(t, "Invoke behind what was refused", h.Invoke(3, peekMin), api.OK)
	same(t, "Events", h.Events(), []api.Event{begins(3, peekMin)})
}

// Promise 12.1 and P1: of a nil one each call is ErrArg, ahead of all else; it tells false, and none.
func TestNil(t *testing.T) {
	var h *Hist
	for _, thread := range append(noThreads(), 0, 1, 2, 3, 4, 5) {
		for _, c := range append(wrongCalls(), insert(5, 7), deleteMin, peekMin) {
			is(t, fmt.Sprint("Invoke of ", thread, ", ", c), h.Invoke(thread, c), api.ErrArg)
		}
		for _, a := range append(wrongAnswers(), done, full, empty, pair(5, 7)) {
			is(t, fmt.Sprint("Respond of ", thread, ", ", a), h.Respond(thread, a), api.ErrArg)
		}
		is(t, fmt.Sprint("Busy of ", thread), h.Busy(thread), false)
	}
	is(t, "how many events there are", len(h.Events()), 0)
}

// Promises 12.1 and 12.2: an ordinary history of all six threads, by hand.
func TestOrdinary(t *testing.T) {
	m := fresh(t, usual()...)
	same(t, "Events", m.h.Events(), usual())
	for thread, want := range []bool{false, true, false, false, true, false} {
		is(t, fmt.Sprint("Busy of ", thread), m.h.Busy(thread), want)
	}
	is(t, "Show", Show(usual()), usualText)
	is(t, "Right", Right(usual()), true)
	opers, e := Opers(usual())
	is(t, "the error of Opers", e, api.OK)
	same(t, "Opers", opers, usualOpers())
	for n := range usual() {
		tryList(t, usual()[:n])
	}
}

// Promise 12.1: each operation with each kind of answer that fits it, of each thread; keys and values are at the edges.
func TestWhatFits(t *testing.T) {
	for thread := range 6 {
		for _, key := range edges() {
			for _, val := range edges() {
				for _, row := range [][]api.Event{
					{begins(thread, insert(key, val)), ends(thread, done)},
					{begins(thread, insert(key, val)), ends(thread, full)},
					{begins(thread, deleteMin), ends(thread, pair(key, val))},
					{begins(thread, peekMin), ends(thread, pair(val, key))},
				} {
					same(t, "Events", fresh(t, row...).h.Events(), row)
					tryList(t, row)
				}
			}
		}
		same(t, "Events", fresh(t, begins(thread, deleteMin), ends(thread, empty)).h.Events(), []api.Event{begins(thread, deleteMin), ends(thread, empty)})
		same(t, "Events", fresh(t, begins(thread, peekMin), ends(thread, empty)).h.Events(), []api.Event{begins(thread, peekMin), ends(thread, empty)})
	}
}

// Promise 12.1: threads are from 0 to 5; of others there are ErrRange and false, ahead of all else.
func TestThreads(t *testing.T) {
	for thread := range 6 {
		m := fresh(t)
		is(t, fmt.Sprint("Invoke of ", thread), m.h.Invoke(thread, deleteMin), api.OK)
		for other := range 6 {
			is(t, fmt.Sprint("Busy of ", other), m.h.Busy(other), other == thread)
		}
		is(t, fmt.Sprint("Respond of ", thread), m.h.Respond(thread, empty), api.OK)
		is(t, fmt.Sprint("Busy of ", thread), m.h.Busy(thread), false)
	}
	m := fresh(t, usual()...)
	for _, thread := range noThreads() {
		for _, c := range []api.Call{insert(5, 7), deleteMin, peekMin, {Op: 3}, {Op: -1}, {Op: 1, Key: 1}, {Op: 2, Val: 1}} {
			is(t, fmt.Sprint("Invoke of ", thread, ", ", c), m.h.Invoke(thread, c), api.ErrRange)
		}
		for _, a := range []api.Answer{done, full, empty, pair(5, 7), {Kind: 4}, {Kind: -1}, {Kind: 3, Key: 1}} {
			is(t, fmt.Sprint("Respond of ", thread, ", ", a), m.h.Respond(thread, a), api.ErrRange)
		}
		is(t, fmt.Sprint("Busy of ", thread), m.h.Busy(thread), false)
		m.holds(t)
	}
}

// Promise 12.1: a call that may not be is ErrArg, of a busy thread, too.
func TestCallsThatMayNotBe(t *testing.T) {
	m := fresh(t, begins(2, insert(1, 2)))
	for _, c := range wrongCalls() {
		is(t, fmt.Sprint("whether the test's model takes ", c), mayCall(c), false)
		for thread := range 6 {
			is(t, fmt.Sprint("Invoke of ", thread, ", ", c), m.h.Invoke(thread, c), api.ErrArg)
		}
		m.holds(t)
		for _, thread := range []int{-1, 6, math.MinInt, math.MaxInt} {
			is(t, fmt.Sprint("Invoke of ", thread, ", ", c), m.h.Invoke(thread, c), api.ErrRange)
		}
	}
	is(t, "Respond behind what was refused", m.h.Respond(2, done), api.OK)
}

// Promise 12.1: a call of a busy thread is ErrBusy, whichever it is; those of others are noted.
func TestBusyThread(t *testing.T) {
	for thread := range 6 {
		for _, c := range []api.Call{insert(5, 7), deleteMin, peekMin} {
			m := fresh(t, begins(thread, c))
			for _, next := range []api.Call{c, insert(5, 7), insert(0, 0), deleteMin, peekMin} {
				is(t, "Invoke of a busy thread", m.h.Invoke(thread, next), api.ErrBusy)
				m.holds(t)
			}
			for other := range 6 {
				if other != thread {
					is(t, "Invoke of another thread", m.do(t, begins(other, c)), api.OK)
					m.holds(t)
				}
			}
			for other := range 6 {
				is(t, "Invoke, when all are busy", m.do(t, begins(other, c)), api.ErrBusy)
			}
		}
	}
}

// Promise 12.1: an answer of a thread that isn't busy is ErrNone, be it such or not: one that never was, one that is no longer, and one beside busy ones.
func TestThreadIsNotBusy(t *testing.T) {
	never := fresh(t)
	noLonger := fresh(t, begins(4, insert(1, 1)), ends(4, done))
	beside := fresh(t, begins(0, peekMin), begins(5, insert(1, 1)), begins(3, deleteMin))
	for _, a := range append(wrongAnswers(), done, full, empty, pair(5, 7), pair(0, 0)) {
		for _, m := range []*model{never, noLonger, beside} {
			is(t, fmt.Sprint("Respond of ", a), m.h.Respond(4, a), api.ErrNone)
			m.holds(t)
		}
	}
	is(t, "Respond of the one that never was, behind its call", fresh(t, begins(4, peekMin)).do(t, ends(4, empty)), api.OK)
	is(t, "Invoke of the one that is no longer", noLonger.do(t, begins(4, peekMin)), api.OK)
	is(t, "Respond behind that", noLonger.do(t, ends(4, pair(1, 1))), api.OK)
	is(t, "Respond again", noLonger.do(t, ends(4, pair(1, 1))), api.ErrNone)
	noLonger.holds(t)
}

// Promise 12.1: an answer that doesn't fit its call is ErrArg, and the thread stays busy with that call.
func TestAnswersThatDoNotFit(t *testing.T) {
	for thread := range 6 {
		for _, c := range []struct {
			call  api.Call
			wrong []api.Answer
			right []api.Answer
		}{
			{insert(5, 7), []api.Answer{empty, pair(0, 0), pair(5, 7), pair(0, math.MaxUint32), pair(math.MaxUint32, 0)}, []api.Answer{done, full}},
			{insert(0, 0), []api.Answer{empty, pair(0, 0), pair(1, 0), pair(0, 1)}, []api.Answer{full, done}},
			{deleteMin, []api.Answer{done, full}, []api.Answer{pair(5, 7), empty, pair(0, 0), pair(math.MaxUint32, math.MaxUint32)}},
			{peekMin, []api.Answer{done, full}, []api.Answer{empty, pair(5, 7), pair(0, 0), pair(1<<31, 1<<31-1)}},
		} {
			for _, right := range c.right {
				m := fresh(t, begins(thread, c.call), begins((thread+1)%6, peekMin), begins((thread+2)%6, insert(1, 1)))
				for _, wrong := range append(wrongAnswers(), c.wrong...) {
					is(t, fmt.Sprint("Respond of ", c.call, " with ", wrong), m.h.Respond(thread, wrong), api.ErrArg)
				}
				m.holds(t)
				is(t, fmt.Sprint("Respond of ", c.call, " with ", right), m.do(t, ends(thread, right)), api.OK)
				m.holds(t)
			}
		}
	}
}

// Promise 12.1: which error comes first, where several apply.
func TestErrorsInTheirOrder(t *testing.T) {
	m := fresh(t, begins(2, deleteMin))
	for _, c := range []struct {
		name string
		got  api.Errno
		want api.Errno
	}{
		{"Invoke, no thread and no call", m.h.Invoke(6, api.Call{Op: 3}), api.ErrRange},
		{"Invoke, no thread and a call", m.h.Invoke(-1, peekMin), api.ErrRange},
		{"Invoke, a busy thread and no call", m.h.Invoke(2, api.Call{Op: 3}), api.ErrArg},
		{"Invoke, a busy thread and a key too much", m.h.Invoke(2, api.Call{Op: 1, Key: 1}), api.ErrArg},
		{"Invoke, a busy thread and a call", m.h.Invoke(2, deleteMin), api.ErrBusy},
		{"Invoke, another thread and no call", m.h.Invoke(3, api.Call{Op: -1}), api.ErrArg},
		{"Respond, no thread and no answer", m.h.Respond(6, api.Answer{Kind: 4}), api.ErrRange},
		{"Respond, no thread and an answer", m.h.Respond(-1, empty), api.ErrRange},
		{"Respond, another thread and no answer", m.h.Respond(3, api.Answer{Kind: -1}), api.ErrNone},
		{"Respond, another thread and an answer", m.h.Respond(3, empty), api.ErrNone},
		{"Respond, the busy thread and no answer", m.h.Respond(2, api.Answer{Kind: 4}), api.ErrArg},
		{"Respond, the busy thread and one that doesn't fit", m.h.Respond(2, done), api.ErrArg},
		{"Respond, the busy thread and a number too much", m.h.Respond(2, api.Answer{Kind: 3, Val: 1}), api.ErrArg},
	} {
		is(t, c.name, c.got, c.want)
	}
	m.holds(t)
	is(t, "Respond, the busy thread and one that fits", m.h.Respond(2, empty), api.OK)
}

// Promise 12.1: a thread begins again behind its answer, and the answer must fit the new call.
func TestBeginsAgain(t *testing.T) {
	m := fresh(t)
	for round := range 50 {
		for thread := range 6 {
			first := insert(uint32(round), uint32(thread))
			m.try(t, begins(thread, first), begins(thread, first), ends(thread, empty), ends(thread, full), ends(thread, full))
			m.try(t, begins(thread, deleteMin), ends(thread, done), ends(thread, pair(1, uint32(round))))
			m.do(t, begins(thread, peekMin))
			if round%7 != thread {
				m.do(t, ends(thread, empty))
			}
		}
	}
	m.holds(t)
	tryList(t, m.noted)
}

// deeds is events of two threads and of one that there isn't, some of which can't follow on others.
func deeds() []api.Event {
	l := []api.Event{begins(6, peekMin), ends(-1, empty)}
	for _, thread := range []int{0, 5} {
		l = append(l, begins(thread, insert(1, 2)), begins(thread, peekMin), begins(thread, api.Call{Op: 1, Val: 1}),
			ends(thread, done), ends(thread, pair(1, 2)), ends(thread, api.Answer{Kind: 1, Key: 1}))
	}
	return l
}

// Promises 12.1 and 12.3: all rows of four deeds, against the model; what was noted may be.
func TestAllRowsOfDeeds(t *testing.T) {
	for _, a := range deeds() {
		for _, b := range deeds() {
			for _, c := range deeds() {
				for _, d := range deeds() {
					m := &model{h: new(Hist)}
					for _, v := range []api.Event{a, b, c, d} {
						m.do(t, v)
					}
					m.holds(t)
					is(t, "Right of what was noted", Right(m.h.Events()), true)
					tryList(t, m.h.Events())
				}
			}
		}
	}
}

// Promise 12.2: of no events there is nothing wrong and nothing to tell.
func TestNoEvents(t *testing.T) {
	for _, l := range [][]api.Event{nil, {}, make([]api.Event, 0, 9), usual()[:0]} {
		is(t, "Right", Right(l), true)
		opers, e := Opers(l)
		is(t, "the error of Opers", e, api.OK)
		is(t, "how many operations there are", len(opers), 0)
		is(t, "Show", Show(l), "")
	}
}

// Promise 12.2: a history of one call that isn't answered, of a zero event alone, and of one that is.
func TestOneCall(t *testing.T) {
	opers, e := Opers([]api.Event{{}})
	is(t, "the error of Opers of a zero event", e, api.OK)
	same(t, "Opers of a zero event", opers, []api.Oper{{To: -1}})
	is(t, "Show of a zero event", Show([]api.Event{{}}), "0 < insert 0 0\n")
	opers, _ = Opers([]api.Event{{}, {Back: true}})
	same(t, "Opers of a zero event and its answer", opers, []api.Oper{{From: 0, To: 1}})
	is(t, "Show of a zero event and its answer", Show([]api.Event{{}, {Back: true}}), "0 < insert 0 0\n0 > done\n")
	for thread := range 6 {
		for _, c := range []api.Call{insert(5, 7), deleteMin, peekMin} {
			opers, e := Opers([]api.Event{begins(thread, c)})
			is(t, "the error of Opers", e, api.OK)
			same(t, "Opers", opers, []api.Oper{{Thread: thread, Call: c, Answer: api.Answer{}, From: 0, To: -1}})
		}
	}
}

// wrongRows is lists of events that may not be, each in a way of its own; of all of them only the last event is wrong.
func wrongRows() map[string][]api.Event {
	both := begins(2, insert(5, 7))
	both.Back, both.Answer = true, done
	return map[string][]api.Event{
		"a call of thread 6":                          {begins(6, peekMin)},
		"a call of thread -1":                         {begins(-1, peekMin)},
		"a call of the least number":                  {begins(math.MinInt, peekMin)},
		"a call of the greatest number":               {begins(math.MaxInt, peekMin)},
		"a call of a number whose lower half is 0":    {begins(1<<32, peekMin)},
		"an answer of thread 6":                       {ends(6, empty)},
		"an answer of thread -1":                      {ends(-1, empty)},
		"an answer of a thread that never called":     {ends(2, empty)},
		"an answer beside another thread's call":      {begins(3, peekMin), ends(2, empty)},
		"an answer behind one":                        {begins(2, peekMin), ends(2, empty), ends(2, empty)},
		"a call while the thread is busy":             {begins(2, peekMin), begins(2, peekMin)},
		"another call while the thread is busy":       {begins(2, insert(1, 2)), begins(3, deleteMin), begins(2, deleteMin)},
		"an Insert answered by a pair":                {begins(2, insert(1, 2)), ends(2, pair(1, 2))},
		"an Insert answered by Empty":                 {begins(2, insert(1, 2)), ends(2, empty)},
		"a DeleteMin answered by Done":                {begins(2, deleteMin), ends(2, done)},
		"a DeleteMin answered by Full":                {begins(2, deleteMin), ends(2, full)},
		"a PeekMin answered by Done":                  {begins(2, peekMin), ends(2, done)},
		"a PeekMin answered by Full":                  {begins(2, peekMin), ends(2, full)},
		"an answer that fits another thread's call":   {begins(2, peekMin), begins(3, insert(1, 2)), ends(3, empty)},
		"an answer that fits the thread's call ahead": {begins(2, insert(1, 2)), ends(2, done), begins(2, peekMin), ends(2, done)},
		"an operation of 3":                           {begins(2, api.Call{Op: 3})},
		"an operation of -1":                          {begins(2, api.Call{Op: -1})},
		"a DeleteMin with a key":                      {begins(2, api.Call{Op: 1, Key: 1})},
		"a DeleteMin with a value":                    {begins(2, api.Call{Op: 1, Val: 1 << 31})},
		"a PeekMin with a key":                        {begins(2, api.Call{Op: 2, Key: math.MaxUint32})},
		"a PeekMin with a value":                      {begins(2, api.Call{Op: 2, Val: 1})},
		"a kind of 4":                                 {begins(2, peekMin), ends(2, api.Answer{Kind: 4})},
		"a kind of -1":                                {begins(2, peekMin), ends(2, api.Answer{Kind: -1})},
		"a Done with a key":                           {begins(2, insert(1, 2)), ends(2, api.Answer{Kind: 0, Key: 1})},
		"a Full with a value":                         {begins(2, insert(1, 2)), ends(2, api.Answer{Kind: 1, Val: 2})},
		"an Empty with a key":                         {begins(2, deleteMin), ends(2, api.Answer{Kind: 3, Key: math.MaxUint32})},
		"a call with an answer's kind beside it":      {{Thread: 2, Call: peekMin, Answer: empty}},
		"a call with a pair beside it":                {{Thread: 2, Call: deleteMin, Answer: pair(1, 2)}},
		"a call with an answer's key beside it":       {{Thread: 2, Call: insert(1, 2), Answer: api.Answer{Key: 1}}},
		"a call with an answer's value beside it":     {{Thread: 2, Call: insert(1, 2), Answer: api.Answer{Val: 1}}},
		"a call with Full beside it":                  {{Thread: 2, Call: insert(1, 2), Answer: full}},
		"an answer with its call beside it":           {begins(2, peekMin), {Thread: 2, Back: true, Call: peekMin, Answer: empty}},
		"an answer with a call's key beside it":       {begins(2, insert(1, 0)), {Thread: 2, Back: true, Call: insert(1, 0), Answer: done}},
		"an answer with a call's value beside it":     {begins(2, insert(0, 1)), {Thread: 2, Back: true, Call: insert(0, 1), Answer: done}},
		"an answer with DeleteMin beside it":          {begins(2, deleteMin), {Thread: 2, Back: true, Call: deleteMin, Answer: pair(1, 1)}},
		"an answer with a number of no operation":     {begins(2, deleteMin), {Thread: 2, Back: true, Call: api.Call{Op: -1}, Answer: pair(1, 1)}},
		"an event that is a call and an answer":       {both},
	}
}

// Promise 12.2: each way in which events may not be a history, alone, behind others, and ahead of others.
func TestWrongRows(t *testing.T) {
	ahead := []api.Event{begins(0, insert(5, 7)), begins(1, peekMin), ends(0, full), begins(0, deleteMin), ends(0, pair(5, 7))}
	behind := []api.Event{ends(1, empty), begins(1, insert(4, 4)), begins(0, peekMin)}
	tryList(t, slices.Concat(ahead, behind))
	is(t, "Right of what stands ahead and behind", Right(slices.Concat(ahead, behind)), true)
	for name, row := range wrongRows() {
		good := row[:len(row)-1]
		is(t, "Right of what stands ahead of "+name, Right(good), true)
		tryList(t, slices.Concat(ahead, good, behind))
		is(t, "Right of others without "+name, Right(slices.Concat(ahead, good, behind)), true)
		refusedList(t, name, row)
		refusedList(t, name+", behind others", slices.Concat(ahead, row))
		refusedList(t, name+", ahead of others", slices.Concat(row, ahead, behind))
		refusedList(t, name+", among others", slices.Concat(ahead, row, behind))
	}
}

// Promise 12.2: whatever is changed of one event of a history, at whichever place, it is told of just if it may be.
func TestOneEventChanged(t *testing.T) {
	right, wrong := 0, 0
	for at := range usual() {
		for _, v := range []api.Event{begins(2, peekMin), begins(6, peekMin), ends(5, empty), ends(1, done), ends(4, pair(3, 3)), {Thread: 3, Back: true, Call: peekMin, Answer: empty}, {Thread: 2, Call: peekMin, Answer: full}} {
			rows := [][]api.Event{usual(), slices.Insert(usual(), at, v)}
			rows[0][at] = v
			for _, row := range rows {
				tryList(t, row)
				if may(row) {
					right++
				} else {
					wrong++
				}
			}
		}
		tryList(t, slices.Delete(usual(), at, at+1))
		for thread := -1; thread < 7; thread++ {
			l := usual()
			l[at].Thread = thread
			tryList(t, l)
		}
		for other := range at {
			l := usual()
			l[at], l[other] = l[other], l[at]
			tryList(t, l)
		}
		l := usual()
		l[at].Back = !l[at].Back
		refusedList(t, "a call for an answer, or an answer for a call", l)
	}
	if right < 10 || wrong < 50 {
		t.Fatalf("%d changed histories may be, %d may not", right, wrong)
	}
}

// rowEvents is events of two threads, and such as are wrong in themselves.
func rowEvents() []api.Event {
	l := []api.Event{begins(7, deleteMin), begins(3, api.Call{Op: 4}), ends(-9, done), {Thread: 4, Call: deleteMin, Answer: empty}, {Thread: 4, Back: true, Call: deleteMin, Answer: empty}}
	for _, thread := range []int{3, 4} {
		l = append(l, begins(thread, insert(0, 0)), begins(thread, deleteMin), ends(thread, done), ends(thread, full), ends(thread, empty), ends(thread, pair(0, 9)))
	}
	return l
}

// Promises 12.2 and 12.3: all rows of up to four events, against the models.
func TestAllRowsOfEvents(t *testing.T) {
	rows := [][]api.Event{nil}
	for range 4 {
		var longer [][]api.Event
		for _, row := range rows {
			for _, v := range rowEvents() {
				longer = append(longer, append(slices.Clip(row), v))
			}
		}
		rows = longer
		for _, row := range rows {
			tryList(t, row)
		}
	}
}

// Promise 12.2: operations stand in the order of their beginnings, whatever the order of the answers; the calls of six threads, answered in all orders.
func TestAnswersInAllOrders(t *testing.T) {
	calls := []api.Call{insert(0, 0), deleteMin, peekMin, insert(5, 7), peekMin, deleteMin}
	answers := []api.Answer{full, pair(1, 2), empty, done, pair(0, 0), empty}
	threads := []int{4, 0, 5, 2, 1, 3}
	orders := [][]int{nil}
	for range threads {
		var longer [][]int
		for _, order := range orders {
			for next := range threads {
				if !slices.Contains(order, next) {
					longer = append(longer, append(slices.Clip(order), next))
				}
			}
		}
		orders = longer
		for _, order := range orders {
			var l []api.Event
			var want []api.Oper
			for at, thread := range threads {
				l = append(l, begins(thread, calls[at]))
				want = append(want, api.Oper{Thread: thread, Call: calls[at], From: at, To: -1})
			}
			for at, which := range order {
				l = append(l, ends(threads[which], answers[which]))
				want[which].Answer, want[which].To = answers[which], 6+at
			}
			opers, e := Opers(l)
			is(t, "the error of Opers", e, api.OK)
			same(t, "Opers", opers, want)
			tryList(t, l)
		}
	}
	is(t, "how many orders there are", len(orders), 720)
}

// Promise 12.2, Show: events that aren't a history have lines, too; of threads that there aren't the digit is "?".
func TestShowOfAnyEvents(t *testing.T) {
	for _, thread := range noThreads() {
		is(t, fmt.Sprint("Show of a call of ", thread), Show([]api.Event{begins(thread, insert(5, 7))}), "? < insert 5 7\n")
		is(t, fmt.Sprint("Show of an answer of ", thread), Show([]api.Event{ends(thread, pair(5, 7))}), "? > 5 7\n")
		is(t, fmt.Sprint("Show of no call of ", thread), Show([]api.Event{begins(thread, api.Call{Op: 7})}), "? < ?\n")
	}
	for thread, digit := range []string{"0", "1", "2", "3", "4", "5"} {
		is(t, "Show of a call", Show([]api.Event{begins(thread, deleteMin)}), digit+" < deletemin\n")
		is(t, "Show of an answer", Show([]api.Event{ends(thread, full)}), digit+" > full\n")
	}
	is(t, "Show of answers alone", Show([]api.Event{ends(3, done), ends(3, empty), ends(2, pair(0, math.MaxUint32))}), "3 > done\n3 > empty\n2 > 0 4294967295\n")
	is(t, "Show of a busy thread's calls", Show([]api.Event{begins(3, peekMin), begins(3, insert(0, 10))}), "3 < peekmin\n3 < insert 0 10\n")
	is(t, "Show of an answer that doesn't fit", Show([]api.Event{begins(3, peekMin), ends(3, done)}), "3 < peekmin\n3 > done\n")
	is(t, "Show of a call with an answer beside it", Show([]api.Event{{Thread: 1, Call: peekMin, Answer: pair(1, 2)}}), "1 < peekmin\n")
	is(t, "Show of an answer with a call beside it", Show([]api.Event{{Thread: 1, Back: true, Call: insert(5, 7), Answer: empty}}), "1 > empty\n")
	is(t, "Show of a call that may not be with an answer beside it", Show([]api.Event{{Thread: 1, Call: api.Call{Op: 3}, Answer: pair(1, 2)}}), "1 < ?\n")
	for _, c := range wrongCalls() {
		is(t, fmt.Sprint("Show of ", c), Show([]api.Event{begins(4, c), begins(5, peekMin)}), "4 < ?\n5 < peekmin\n")
	}
	for _, a := range wrongAnswers() {
		is(t, fmt.Sprint("Show of ", a), Show([]api.Event{begins(5, peekMin), ends(4, a)}), "5 < peekmin\n4 > ?\n")
	}
}

// Promise 12.2: what layer 9 says of calls and answers holds here.
func TestIsOfTheLayerBelow(t *testing.T) {
	for _, c := range append(wrongCalls(), insert(5, 7), insert(0, 0), deleteMin, peekMin) {
		is(t, fmt.Sprint("Show of ", c), Show([]api.Event{begins(2, c)}), "2 < "+call.Show(c)+"\n")
		is(t, fmt.Sprint("Right of ", c), Right([]api.Event{begins(2, c)}), call.Right(c))
		is(t, fmt.Sprint("Invoke of ", c), new(Hist).Invoke(2, c) == api.OK, call.Right(c))
		for _, a := range append(wrongAnswers(), done, full, empty, pair(5, 7)) {
			is(t, fmt.Sprint("Show of ", a), Show([]api.Event{ends(2, a)}), "2 > "+call.Tell(a)+"\n")
			is(t, fmt.Sprint("Right of ", c, " and ", a), Right([]api.Event{begins(2, c), ends(2, a)}), call.Fits(c, a))
		}
	}
}

// chance tells numbers that are as good as chance, and always the same.
type chance uint64

func (c *chance) next(n int) int {
	*c = *c*2862933555777941757 + 3037000493
	return int(uint64(*c) >> 33 % uint64(n))
}

// edge is a number of 32 bits, often one at the edges.
func (c *chance) edge() uint32 {
	l := edges()
	if c.next(2) == 0 {
		return l[c.next(len(l))]
	}
	return uint32(c.next(1 << 31))
}

// call is one that may be.
func (c *chance) call() api.Call {
	return []api.Call{insert(c.edge(), c.edge()), deleteMin, peekMin}[c.next(3)]
}

// answer is one that fits a call.
func (c *chance) answer(of api.Call) api.Answer {
	if of.Op == api.Insert {
		return []api.Answer{done, full}[c.next(2)]
	}
	return []api.Answer{empty, pair(c.edge(), c.edge())}[c.next(2)]
}

// event is one that may follow on what a model has noted, of so many threads.
func (c *chance) event(m *model, threads int) api.Event {
	thread := c.next(threads)
	if before, busy := m.last(thread); busy {
		return ends(thread, c.answer(before.Call))
	}
	return begins(thread, c.call())
}

// Promises 12.1, 12.2 and 12.3: long histories of 1 to 6 threads, with much among them that is refused.
func TestLongHistories(t *testing.T) {
	k := chance(12)
	for threads := 1; threads <= 6; threads++ {
		for range 40 {
			m := fresh(t)
			for range 120 {
				v := k.event(m, threads)
				switch k.next(6) {
				case 0:
					v.Back = !v.Back
				case 1:
					v.Thread = k.next(9) - 1
				case 2:
					v.Call.Op, v.Answer.Kind = k.next(4), k.next(5)
				}
				m.do(t, v)
			}
			m.holds(t)
			if len(m.noted) < 40 {
				t.Fatalf("only %d events were noted", len(m.noted))
			}
			is(t, "Right of what was noted", Right(m.h.Events()), true)
			tryList(t, m.h.Events())
		}
	}
}

// Promise P1: of very many events there are answers, too.
func TestVeryManyEvents(t *testing.T) {
	var h Hist
	const rounds = 100_000
	for i := range rounds {
		is(t, "Invoke", h.Invoke(i%6, insert(uint32(i), 1)), api.OK)
		is(t, "Respond", h.Respond(i%6, full), api.OK)
	}
	l := h.Events()
	is(t, "how many events there are", len(l), 2*rounds)
	is(t, "Right", Right(l), true)
	opers, e := Opers(l)
	is(t, "the error of Opers", e, api.OK)
	is(t, "how many operations there are", len(opers), rounds)
	for i, o := range opers {
		is(t, "an operation", o, api.Oper{Thread: i % 6, Call: insert(uint32(i), 1), Answer: full, From: 2 * i, To: 2*i + 1})
	}
	is(t, "how many lines there are", strings.Count(Show(l), "\n"), 2*rounds)

	l[2*rounds-1].Answer = empty
	is(t, "Right of one wrong event behind all others", Right(l), false)
	_, e = Opers(l)
	is(t, "the error of Opers of one wrong event behind all others", e, api.ErrOrder)
	is(t, "Right of very many calls of one thread", Right(make([]api.Event, 1<<20)), false)
}

// What Events tells is new each time: changed or put behind, it plays no part in what is told or noted later.
func TestToldEvents(t *testing.T) {
	m := fresh(t, usual()[:7]...)
	for range 3 {
		first, second := m.h.Events(), m.h.Events()
		spoil(first)
		same(t, "what was told beside it", second, m.noted)
		m.holds(t)
		m.try(t, begins(4, peekMin), ends(5, pair(3, 3)), ends(4, empty), begins(5, deleteMin))
		same(t, "what was told ahead of new events", second, m.noted[:len(second)])
		spoil(second)
		m.holds(t)
	}
}

// spoil changes all of a list, and what lies behind its end.
func spoil(l []api.Event) {
	all := l[:cap(l)]
	for i := range all {
		all[i] = api.Event{Thread: 9, Back: true, Call: insert(99, 99), Answer: pair(99, 99)}
	}
}

// Lists that were handed in stay as they are, and play no part in what was told, once they are changed; operations are new each time.
func TestHandedAndToldLists(t *testing.T) {
	l := append(make([]api.Event, 0, 100), usual()...)
	behind := l[:cap(l)]
	behind[len(l)] = begins(3, insert(8, 8))
	is(t, "Right", Right(l), true)
	text := Show(l)
	first, _ := Opers(l)
	second, _ := Opers(l)
	same(t, "the events behind Right, Show and Opers", l, usual())
	is(t, "the event behind their end", behind[len(l)], begins(3, insert(8, 8)))

	for i := range first[:cap(first)] {
		first[:cap(first)][i] = api.Oper{Thread: 9, From: 9, To: 9}
	}
	same(t, "the events behind a change of the operations", l, usual())
	same(t, "operations behind a change of others", second, usualOpers())
	spoil(l)
	same(t, "operations behind a change of the events", second, usualOpers())
	is(t, "the text behind a change of the events", text, usualText)
	is(t, "Right behind a change of the events", Right(l), false)
	third, _ := Opers(usual())
	same(t, "later operations", third, usualOpers())
}

// One Hist plays no part in another one, and what is asked plays none in what is told later.
func TestAskedAgain(t *testing.T) {
	first, second := fresh(t, begins(2, peekMin)), fresh(t, begins(3, insert(1, 1)))
	for range 3 {
		first.try(t, ends(3, done), begins(2, peekMin), ends(2, done))
		second.try(t, ends(2, empty), begins(3, peekMin), ends(3, empty))
		tryList(t, usual())
		refusedList(t, "an answer alone", []api.Event{ends(2, empty)})
		refusedList(t, "an answer alone", []api.Event{ends(3, done)})
	}
	is(t, "the first one's answer", first.do(t, ends(2, empty)), api.OK)
	is(t, "the second one's answer", second.do(t, ends(3, full)), api.OK)
	first.holds(t)
	second.holds(t)
}
