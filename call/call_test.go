package call

import (
	"bytes"
	"fmt"
	"math"
	"math/big"
	"regexp"
	"slices"
	"strconv"
	"strings"
	"testing"

	"jostle/api"
)

// is holds what was told against what should be. It ends the test, since what is wrong at all is mostly wrong of many numbers.
func is[T comparable](t *testing.T, name string, got, want T) {
	t.Helper()
	if got != want {
		t.Fatalf("%s: %v, not %v", name, got, want)
	}
}

// insert is the call that puts a pair in.
func insert(key, val uint32) api.Call { return api.Call{Op: api.Insert, Key: key, Val: val} }

// pairOf is the answer that is a pair.
func pairOf(key, val uint32) api.Answer { return api.Answer{Kind: api.Pair, Key: key, Val: val} }

// edges is numbers at the edges of 32 bits, of their bytes, and of how many digits they have.
func edges() []uint32 {
	return []uint32{0, 1, 2, 7, 9, 10, 11, 19, 20, 99, 100, 101, 127, 128, 255, 256, 257, 999, 1000, 65535, 65536,
		1<<24 - 1, 1 << 24, 99_999_999, 100_000_000, 999_999_999, 1_000_000_000, 1_000_000_001, 0x01020304, 0x80402010,
		1<<31 - 1, 1 << 31, 1<<31 + 1, 4_294_967_290, math.MaxUint32 - 1, math.MaxUint32}
}

// wrongNumbers is numbers that are no operation and no kind: next to those that are, and such as one byte or 32 bits of them are.
func wrongNumbers() []int {
	return []int{-1, -2, -3, -4, 4, 5, 6, 7, 255, 256, 257, 258, 259, -253, -254, -255, -256, 1 << 16, 1 << 31,
		1 << 32, 1<<32 + 1, 1<<32 + 2, 1<<32 + 3, math.MinInt32, math.MaxInt32, math.MinInt, math.MinInt + 1, math.MaxInt - 1, math.MaxInt}
}

// allCalls is calls of every operation, and of numbers that are none, with keys and values at all edges.
func allCalls() []api.Call {
	var l []api.Call
	for _, op := range append(wrongNumbers(), 0, 1, 2, 3) {
		for _, key := range edges() {
			for _, val := range edges() {
				l = append(l, api.Call{Op: op, Key: key, Val: val})
			}
		}
	}
	return l
}

// allAnswers is the same of answers.
func allAnswers() []api.Answer {
	var l []api.Answer
	for _, c := range allCalls() {
		l = append(l, api.Answer{Kind: c.Op, Key: c.Key, Val: c.Val})
	}
	return l
}

// mayCall tells whether a call may be, as the chapter's words have it.
func mayCall(c api.Call) bool {
	return c.Op == 0 || (c.Op == 1 || c.Op == 2) && c.Key == 0 && c.Val == 0
}

// mayAnswer tells the same of an answer.
func mayAnswer(a api.Answer) bool {
	return a.Kind == 2 || (a.Kind == 0 || a.Kind == 1 || a.Kind == 3) && a.Key == 0 && a.Val == 0
}

// digitsModel is digits by the chapter's words, found otherwise than the program does.
const digitsModel = `(0|[1-9][0-9]*)`

var (
	insertModel = regexp.MustCompile(`^insert ` + digitsModel + ` ` + digitsModel + `$`)
	pairModel   = regexp.MustCompile(`^` + digitsModel + ` ` + digitsModel + `$`)
)

// numbersOf is the numbers of a text that is as a model has it; none, if it isn't, or if one of them is too great.
func numbersOf(model *regexp.Regexp, s string) []uint32 {
	found := model.FindStringSubmatch(s)
	if found == nil {
		return nil
	}
	var l []uint32
	for _, text := range found[1:] {
		n, ok := new(big.Int).SetString(text, 10)
		if !ok || n.BitLen() > 32 {
			return nil
		}
		l = append(l, uint32(n.Uint64()))
	}
	return l
}

// parsed is what Parse tells.
type parsed struct {
	c api.Call
	e api.Errno
}

// read is what Read tells.
type read struct {
	a api.Answer
	e api.Errno
}

func parse(s string) parsed {
	c, e := Parse(s)
	return parsed{c, e}
}

func readOf(s string) read {
	a, e := Read(s)
	return read{a, e}
}

// parseModel is what Parse should tell.
func parseModel(s string) parsed {
	switch l := numbersOf(insertModel, s); {
	case l != nil:
		return parsed{insert(l[0], l[1]), api.OK}
	case s == "deletemin":
		return parsed{api.Call{Op: 1}, api.OK}
	case s == "peekmin":
		return parsed{api.Call{Op: 2}, api.OK}
	}
	return parsed{api.Call{}, api.ErrForm}
}

// readModel is what Read should tell.
func readModel(s string) read {
	if l := numbersOf(pairModel, s); l != nil {
		return read{pairOf(l[0], l[1]), api.OK}
	}
	switch s {
	case "done":
		return read{api.Answer{Kind: 0}, api.OK}
	case "full":
		return read{api.Answer{Kind: 1}, api.OK}
	case "empty":
		return read{api.Answer{Kind: 3}, api.OK}
	}
	return read{api.Answer{}, api.ErrForm}
}

// tryText holds what both functions tell of a text against the models.
func tryText(t *testing.T, s string) {
	t.Helper()
	is(t, "Parse of "+strconv.Quote(s), parse(s), parseModel(s))
	is(t, "Read of "+strconv.Quote(s), readOf(s), readModel(s))
}

// noText asks that a text is none of a call or of an answer, and that nothing is told beside the error.
func noText(t *testing.T, s string) {
	t.Helper()
	is(t, "Parse of "+strconv.Quote(s), parse(s), parsed{api.Call{}, api.ErrForm})
	is(t, "Read of "+strconv.Quote(s), readOf(s), read{api.Answer{}, api.ErrForm})
}

// The chapter's examples, and what they say the other way round.
func TestExamples(t *testing.T) {
	is(t, "Show(insert 5 7)", Show(api.Call{Op: api.Insert, Key: 5, Val: 7}), "insert 5 7")
	is(t, "Read(03 1)", readOf("03 1"), read{api.Answer{}, api.ErrForm})
	is(t, "Parse(insert 5 7)", parse("insert 5 7"), parsed{insert(5, 7), api.OK})
	is(t, "Read(3 1)", readOf("3 1"), read{pairOf(3, 1), api.OK})
}

// Promise 9.1, Right: ordinary calls, by hand.
func TestRightByHand(t *testing.T) {
	for _, c := range []struct {
		call api.Call
		want bool
	}{
		{api.Call{}, true},
		{insert(0, 0), true}, {insert(5, 7), true}, {insert(5, 0), true}, {insert(0, 7), true},
		{insert(math.MaxUint32, math.MaxUint32), true}, {insert(1<<31, 1<<31-1), true},
		{api.Call{Op: api.DeleteMin}, true}, {api.Call{Op: api.PeekMin}, true},
		{api.Call{Op: 1, Key: 1}, false}, {api.Call{Op: 1, Val: 1}, false}, {api.Call{Op: 1, Key: 1, Val: 1}, false},
		{api.Call{Op: 2, Key: 1}, false}, {api.Call{Op: 2, Val: 1}, false}, {api.Call{Op: 2, Key: 1, Val: 1}, false},
		{api.Call{Op: 1, Key: 1 << 31}, false}, {api.Call{Op: 2, Val: math.MaxUint32}, false},
		{api.Call{Op: 1, Key: 1, Val: math.MaxUint32}, false},
		{api.Call{Op: 3}, false}, {api.Call{Op: -1}, false}, {api.Call{Op: 3, Key: 5, Val: 7}, false},
		{api.Call{Op: 1 << 32}, false}, {api.Call{Op: 256}, false}, {api.Call{Op: math.MinInt}, false},
	} {
		is(t, fmt.Sprint("Right of ", c.call), Right(c.call), c.want)
	}
}

// Promise 9.1, Right: every operation and what is none, with keys and values at all edges.
func TestRightAtEdges(t *testing.T) {
	for _, c := range allCalls() {
		is(t, fmt.Sprint("Right of ", c), Right(c), mayCall(c))
	}
}

// Promise 9.1, Fits: which kind of answer is of which operation, by hand.
func TestFitsByHand(t *testing.T) {
	rows := [3][4]bool{
		api.Insert:    {api.Done: true, api.Full: true, api.Pair: false, api.Empty: false},
		api.DeleteMin: {api.Done: false, api.Full: false, api.Pair: true, api.Empty: true},
		api.PeekMin:   {api.Done: false, api.Full: false, api.Pair: true, api.Empty: true},
	}
	for op, row := range rows {
		for kind, want := range row {
			c, a := api.Call{Op: op}, api.Answer{Kind: kind}
			is(t, fmt.Sprint("Fits of operation ", op, " and kind ", kind), Fits(c, a), want)
		}
	}
	is(t, "Fits of insert 5 7, done", Fits(insert(5, 7), api.Answer{Kind: api.Done}), true)
	is(t, "Fits of insert 5 7, full", Fits(insert(5, 7), api.Answer{Kind: api.Full}), true)
	is(t, "Fits of insert 5 7, 5 7", Fits(insert(5, 7), pairOf(5, 7)), false)
	is(t, "Fits of deletemin, 5 7", Fits(api.Call{Op: api.DeleteMin}, pairOf(5, 7)), true)
	is(t, "Fits of peekmin, 5 7", Fits(api.Call{Op: api.PeekMin}, pairOf(5, 7)), true)
	is(t, "Fits of deletemin with a key, 5 7", Fits(api.Call{Op: api.DeleteMin, Key: 5}, pairOf(5, 7)), false)
	is(t, "Fits of peekmin with a value, empty", Fits(api.Call{Op: api.PeekMin, Val: 7}, api.Answer{Kind: api.Empty}), false)
	is(t, "Fits of insert 5 7, done with a key", Fits(insert(5, 7), api.Answer{Kind: api.Done, Key: 5}), false)
	is(t, "Fits of insert 5 7, full with a value", Fits(insert(5, 7), api.Answer{Kind: api.Full, Val: 7}), false)
	is(t, "Fits of peekmin, empty with both", Fits(api.Call{Op: api.PeekMin}, api.Answer{Kind: api.Empty, Key: 5, Val: 7}), false)
}

// some is a number that is 0, an ordinary one, and the greatest one.
func some() []uint32 { return []uint32{0, 1, 5, math.MaxUint32} }

// someCalls is calls of every operation and of numbers that are none, with numbers that are 0 and that aren't.
func someCalls() []api.Call {
	var l []api.Call
	for _, op := range append(wrongNumbers(), 0, 1, 2, 3) {
		for _, key := range some() {
			for _, val := range some() {
				l = append(l, api.Call{Op: op, Key: key, Val: val})
			}
		}
	}
	return l
}

// Promise 9.1, Fits: every call with every answer, be they such or not.
func TestFitsOfAll(t *testing.T) {
	for _, c := range someCalls() {
		for _, same := range someCalls() {
			a := api.Answer{Kind: same.Op, Key: same.Key, Val: same.Val}
			ofInsert := a.Kind == 0 || a.Kind == 1
			want := mayCall(c) && mayAnswer(a) && (c.Op == 0) == ofInsert
			if got := Fits(c, a); got != want {
				t.Fatalf("Fits of %v and %v: %v, not %v", c, a, got, want)
			}
		}
	}
}

// Promise 9.1, Fits: a pair fits whatever its numbers are, and an Insert is done whatever its own are.
func TestFitsAtEdges(t *testing.T) {
	for _, key := range edges() {
		for _, val := range edges() {
			name := fmt.Sprint(" of ", key, " ", val)
			is(t, "a pair"+name+" for DeleteMin", Fits(api.Call{Op: 1}, pairOf(key, val)), true)
			is(t, "a pair"+name+" for PeekMin", Fits(api.Call{Op: 2}, pairOf(key, val)), true)
			is(t, "a pair"+name+" for Insert", Fits(insert(key, val), pairOf(key, val)), false)
			is(t, "Insert"+name+", done", Fits(insert(key, val), api.Answer{Kind: 0}), true)
			is(t, "Insert"+name+", full", Fits(insert(key, val), api.Answer{Kind: 1}), true)
			is(t, "Insert"+name+", empty", Fits(insert(key, val), api.Answer{Kind: 3}), false)
		}
	}
}

// row is two numbers, and the text of both.
type row struct {
	key, val uint32
	text     string
}

// rows is numbers of one digit up to ten, 0 and the greatest one, with their texts by hand.
func rows() []row {
	return []row{
		{0, 0, "0 0"}, {0, 1, "0 1"}, {1, 0, "1 0"}, {5, 7, "5 7"}, {7, 5, "7 5"}, {9, 9, "9 9"},
		{10, 3, "10 3"}, {3, 10, "3 10"}, {42, 99, "42 99"}, {100, 999, "100 999"}, {101, 110, "101 110"},
		{1000, 9999, "1000 9999"}, {12345, 54321, "12345 54321"}, {100000, 999999, "100000 999999"},
		{1234567, 7654321, "1234567 7654321"}, {12345678, 87654321, "12345678 87654321"},
		{123456789, 987654321, "123456789 987654321"}, {1000000000, 999999999, "1000000000 999999999"},
		{1234567890, 4012345678, "1234567890 4012345678"}, {2147483647, 2147483648, "2147483647 2147483648"},
		{4294967294, 4294967293, "4294967294 4294967293"}, {4294967295, 4294967295, "4294967295 4294967295"},
		{4294967295, 0, "4294967295 0"}, {0, 4294967295, "0 4294967295"}, {3, 3000000000, "3 3000000000"},
	}
}

// Promises 9.1 and 9.3: texts of numbers of every length, by hand, told and gone through.
func TestTextsByHand(t *testing.T) {
	for _, r := range rows() {
		is(t, "Show of insert "+r.text, Show(insert(r.key, r.val)), "insert "+r.text)
		is(t, "Tell of "+r.text, Tell(pairOf(r.key, r.val)), r.text)
		is(t, "Parse of insert "+r.text, parse("insert "+r.text), parsed{insert(r.key, r.val), api.OK})
		is(t, "Read of "+r.text, readOf(r.text), read{pairOf(r.key, r.val), api.OK})
	}
}

// Promises 9.1 and 9.3: the texts without numbers, told and gone through, each as its own kind alone.
func TestNamesByHand(t *testing.T) {
	for op, text := range map[int]string{api.DeleteMin: "deletemin", api.PeekMin: "peekmin"} {
		is(t, "Show of operation "+text, Show(api.Call{Op: op}), text)
		is(t, "Parse of "+text, parse(text), parsed{api.Call{Op: op}, api.OK})
		is(t, "Read of "+text, readOf(text), read{api.Answer{}, api.ErrForm})
	}
	for kind, text := range map[int]string{api.Done: "done", api.Full: "full", api.Empty: "empty"} {
		is(t, "Tell of kind "+text, Tell(api.Answer{Kind: kind}), text)
		is(t, "Read of "+text, readOf(text), read{api.Answer{Kind: kind}, api.OK})
		is(t, "Parse of "+text, parse(text), parsed{api.Call{}, api.ErrForm})
	}
}

// Promise 9.1, Show and Tell: "?" of what may not be, by hand.
func TestQuestionMarksByHand(t *testing.T) {
	for _, c := range []api.Call{
		{Op: 3}, {Op: -1}, {Op: 3, Key: 1, Val: 2}, {Op: 256}, {Op: 1 << 32}, {Op: math.MaxInt}, {Op: math.MinInt},
		{Op: 1, Key: 1}, {Op: 1, Val: 1}, {Op: 1, Key: 5, Val: 7}, {Op: 2, Key: 1}, {Op: 2, Val: math.MaxUint32}, {Op: 2, Key: 5, Val: 7},
	} {
		is(t, fmt.Sprint("Show of ", c), Show(c), "?")
	}
	for _, a := range []api.Answer{
		{Kind: 4}, {Kind: -1}, {Kind: 4, Key: 1, Val: 2}, {Kind: 258}, {Kind: 1<<32 + 2}, {Kind: math.MaxInt}, {Kind: math.MinInt},
		{Kind: 0, Key: 1}, {Kind: 0, Val: 1}, {Kind: 0, Key: 5, Val: 7}, {Kind: 1, Key: 1}, {Kind: 1, Val: 1},
		{Kind: 3, Key: 1}, {Kind: 3, Val: math.MaxUint32}, {Kind: 3, Key: 5, Val: 7},
	} {
		is(t, fmt.Sprint("Tell of ", a), Tell(a), "?")
	}
}

// Promises 9.1 and 9.3: what is shown is parsed, of all calls at all edges; what may not be is "?", which is no text.
func TestShownIsParsed(t *testing.T) {
	seen := map[string]api.Call{}
	for _, c := range allCalls() {
		text := Show(c)
		if !mayCall(c) {
			is(t, fmt.Sprint("Show of ", c), text, "?")
			continue
		}
		is(t, fmt.Sprint("Parse of Show of ", c), parse(text), parsed{c, api.OK})
		if other, ok := seen[text]; ok && other != c {
			t.Errorf("Show of %v and %v: both %q", c, other, text)
		}
		seen[text] = c
	}
	noText(t, "?")
}

// Promises 9.1 and 9.3: what is told is read, of all answers at all edges.
func TestToldIsRead(t *testing.T) {
	seen := map[string]api.Answer{}
	for _, a := range allAnswers() {
		text := Tell(a)
		if !mayAnswer(a) {
			is(t, fmt.Sprint("Tell of ", a), text, "?")
			continue
		}
		is(t, fmt.Sprint("Read of Tell of ", a), readOf(text), read{a, api.OK})
		if other, ok := seen[text]; ok && other != a {
			t.Errorf("Tell of %v and %v: both %q", a, other, text)
		}
		seen[text] = a
	}
}

// Promise 9.3: ordinary numbers, many of them, the small ones all.
func TestManyNumbers(t *testing.T) {
	k := uint64(1)
	for at := range uint32(70_000) {
		k = k*6364136223846793005 + 1442695040888963407
		n := uint32(k>>32) >> (k >> 27 % 32)
		is(t, fmt.Sprint("Parse of Show of ", at, " ", n), parse(Show(insert(at, n))), parsed{insert(at, n), api.OK})
		is(t, fmt.Sprint("Read of Tell of ", n, " ", at), readOf(Tell(pairOf(n, at))), read{pairOf(n, at), api.OK})
		is(t, fmt.Sprint("Decode of Code of ", at, " ", n), Decode(Code(insert(n, at))), insert(n, at))
		is(t, fmt.Sprint("Tell of ", at, " ", n), Tell(pairOf(at, n)), fmt.Sprintf("%d %d", at, n))
	}
}

// Promise 9.1, Parse and Read: what is near to a text, by hand, is none.
func TestWrongTextsByHand(t *testing.T) {
	for _, s := range []string{
		"", "?", "??", " ", "  ", "0", "5", "insert", "insert ", "insert  ", "insert 5", "insert 5 ", "insert  7", "insert 5  7",
		" insert 5 7", "insert 5 7 ", "insert 5 7 9", "insert 5 7 ?", "insert5 7", "insert 57", "insert 5,7", "insert 5 7,", "insert,5,7",
		"inser 5 7", "insertt 5 7", "iinsert 5 7", "insert 5 7\n", "\ninsert 5 7", "insert 5 7\x00", "\x00insert 5 7", "insert 5 7.", "insert: 5 7",
		"insert\t5 7", "insert 5\t7", "insert\n5 7", "insert 5\n7", "insert\r5 7", "insert\v5 7", "insert\f5 7", "insert\x005 7", "insert_5_7",
		"insert\u00a05 7", "insert 5\u00a07", "insert\u20035 7", "insert\u30005 7", "insert\u00855 7", "insert\u200b5 7", "insert 5\u01207",
		"Insert 5 7", "INSERT 5 7", "inserT 5 7", "insert 05 7", "insert 5 07", "insert 00 7", "insert 5 00", "insert 00 00", "insert 01 1",
		"insert +5 7", "insert 5 +7", "insert -5 7", "insert 5 -7", "insert -0 7", "insert +0 7", "insert 5 -0", "insert - 7", "insert 5 +",
		"insert 5.0 7", "insert 5e1 7", "insert 0x5 7", "insert 0b1 7", "insert 0o7 7", "insert 5_0 7", "insert a 7", "insert 5 f", "insert 5 7f",
		"insert 5 7 insert 5 7", "insert insert 5 7", "insert deletemin", "insert done", "insert 5 done", "deletemin 5 7", "peekmin 5 7",
		"insert 4294967296 7", "insert 5 4294967296", "insert 4294967297 7", "insert 5 4294967300", "insert 9999999999 7", "insert 42949672950 7",
		"delete", "deletemi", "eletemin", "deletemin ", " deletemin", "deletemin deletemin", "deletemin\n", "deletemin\x00", "Deletemin", "DeleteMin",
		"delete min", "deletemin 0 0", "deletemin?", "deleteminn", "deletemim", "deleteмin", "peek", "peekmi", "eekmin", "peekmin ", " peekmin", "PeekMin",
		"peekmin 0 0", "peek min", "peekmin\r\n", "peekminn", "peeknin", "deletemax", "peekmax", "deleteminpeekmin",
		"don", "one", "Done", "DONE", "done ", " done", "done\n", "done done", "done 0 0", "dones", "doné", "d one", "ful", "ull", "Full", "full ", " full",
		"full 0 0", "fulll", "fu11", "empt", "mpty", "Empty", "empty ", " empty", "empty 0 0", "emptyy", "emptу", "donefull",
		"5 ", " 5", " 5 7", "5 7 ", "5  7", "5 7 9", "57", "5\t7", "5\n7", "5\u00a07", "5\u30007", "5,7", "5-7", "5 7\n", "05 7", "5 07", "00 0", "0 00",
		"+5 7", "5 +7", "-5 7", "5 -7", "-0 0", "0 -0", "0x5 7", "5 7f", "a b", "5 b", "a 7", "- -", "pair 5 7", "(5 7)", "5.0 7",
		"4294967296 7", "5 4294967296", "4294967297 0", "42949672960 0", "10000000000 1", "0 9999999999", "4294967295 4294967296",
	} {
		noText(t, s)
	}
}

// Promise 9.1, Parse and Read: numbers too great, such as are small ones in 32 bits, in 64, or with fewer digits.
func TestGreatNumbers(t *testing.T) {
	for _, n := range []string{
		"4294967296", "4294967297", "4294967301", "4294967305", "5000000000", "8589934592", "9999999999", "10000000000", "42949672950", "42949672960",
		"99999999999", "1099511627776", "9223372036854775807", "9223372036854775808", "9223372036854775813", "18446744073709551615",
		"18446744073709551616", "18446744073709551617", "18446744073709551621", "18446744073709551626", "36893488147419103237", "99999999999999999999",
		"184467440737095516165", "340282366920938463463374607431768211456", "340282366920938463463374607431768211461",
		"1" + strings.Repeat("0", 32), "1" + strings.Repeat("0", 64), "1" + strings.Repeat("0", 1000), strings.Repeat("9", 500), "5" + strings.Repeat("0", 64) + "5",
	} {
		noText(t, n+" 7")
		noText(t, "7 "+n)
		noText(t, n+" "+n)
		noText(t, "insert "+n+" 7")
		noText(t, "insert 7 "+n)
		noText(t, "insert "+n+" "+n)
	}
}

// Promise 9.1, Parse and Read: all numbers around the greatest one.
func TestAroundTheGreatestNumber(t *testing.T) {
	for n := uint64(math.MaxUint32 - 300); n < math.MaxUint32+300; n++ {
		text := strconv.FormatUint(n, 10)
		first, second := parsed{insert(uint32(n), 7), api.OK}, read{pairOf(7, uint32(n)), api.OK}
		if n > math.MaxUint32 {
			first, second = parsed{api.Call{}, api.ErrForm}, read{api.Answer{}, api.ErrForm}
		}
		is(t, "Parse of insert "+text+" 7", parse("insert "+text+" 7"), first)
		is(t, "Read of 7 "+text, readOf("7 "+text), second)
	}
}

// Promise 9.1, Parse and Read: digits of other scripts, and signs whose lowest bits are those of a right one.
func TestSignsOutsideOfAscii(t *testing.T) {
	for _, digit := range []string{"٥", "۵", "५", "৫", "５", "𝟓", "𝟝", "²", "⁵", "₅", "⑤", "Ⅴ", "五", "½", "İ", "ĵ", "\U00010035", "\ufffd", "\ufeff5", "5\u0301", "5\u200b", "\u202a5"} {
		noText(t, digit+" 7")
		noText(t, "7 "+digit)
		noText(t, digit+" "+digit)
		noText(t, "1"+digit+" 7")
		noText(t, "insert "+digit+" 7")
		noText(t, "insert 7 "+digit)
		noText(t, "insert 7 1"+digit)
	}
	for _, s := range []string{"ínsert 5 7", "ıinsert 5 7", "ınsert 5 7", "ｉｎｓｅｒｔ 5 7", "insert\u0301 5 7", "ũnsert 5 7", "insert 5 7é", "ｄｏｎｅ", "ｆｕｌｌ", "ĥull", "ēmpty", "дone", "日本", "😀", "5 😀", "insert 😀 7"} {
		noText(t, s)
	}
}

// Promise 9.1, Parse and Read: bytes that are no UTF-8, alone and within what would be a text.
func TestNoUtf8(t *testing.T) {
	for _, bad := range []string{"\x80", "\xff", "\xfe", "\xc0", "\xc0\xb5", "\xc0\xa0", "\xe0\x80\xb5", "\xf0\x80\x80\xb5", "\xed\xa0\x80", "\xf4\x90\x80\x80", "\xc3", "\xe2\x82", "\xb5", "\xa0", "\xf8\x88\x80\x80\x80"} {
		noText(t, bad)
		for _, good := range []string{"insert 5 7", "deletemin", "peekmin", "done", "full", "empty", "5 7", "0 0"} {
			for at := range len(good) + 1 {
				noText(t, good[:at]+bad+good[at:])
				if at < len(good) {
					noText(t, good[:at]+bad+good[at+1:])
				}
			}
		}
	}
}

// texts is right texts of every kind.
func texts() []string {
	return []string{"deletemin", "peekmin", "insert 0 0", "insert 5 7", "insert 10 205", "insert 4294967295 4294967295", "insert 4294967294 1000000000",
		"done", "full", "empty", "0 0", "5 7", "10 205", "4294967295 4294967295", "999999999 4294967295"}
}

// Promise 9.1, Parse and Read: each right text with one sign less, one more, or another one, at every place, by every byte.
func TestOneSignOff(t *testing.T) {
	for _, good := range texts() {
		for at := range len(good) + 1 {
			tryText(t, good[:at])
			tryText(t, good[at:])
			for b := range 256 {
				sign := string([]byte{byte(b)})
				tryText(t, good[:at]+sign+good[at:])
				if at < len(good) {
					tryText(t, good[:at]+sign+good[at+1:])
				}
			}
			if at < len(good) {
				tryText(t, good[:at]+good[at+1:])
				tryText(t, good[:at]+good[at:at+1]+good[at:])
				tryText(t, good[:at]+strings.ToUpper(good[at:at+1])+good[at+1:])
			}
			for cut := at; cut <= len(good); cut++ {
				tryText(t, good[at:cut])
				tryText(t, good[:at]+good[cut:])
			}
		}
	}
}

// Promise 9.1, Parse and Read: one right text behind another one, with and without something between.
func TestTwoTextsInARow(t *testing.T) {
	for _, one := range texts() {
		for _, other := range texts() {
			for _, between := range []string{"", " ", "  ", "\n", "\x00", ",", "?"} {
				tryText(t, one+between+other)
			}
		}
	}
	// Of two that are put together some are right ones, and by hand these are.
	is(t, "Read of 0 0 and 0", readOf("0 0"+"0"), read{api.Answer{}, api.ErrForm})
	is(t, "Read of 5 7 and 0", readOf("5 7"+"0"), read{pairOf(5, 70), api.OK})
	is(t, "Parse of insert 5 7 and 0", parse("insert 5 7"+"0"), parsed{insert(5, 70), api.OK})
}

// Promise 9.1, Parse and Read: all short texts of a few digits and the blank, alone, behind a name, and behind a blank.
func TestAllShortTexts(t *testing.T) {
	const signs = "0149 -"
	row := []string{""}
	for range 6 {
		var longer []string
		for _, s := range row {
			for _, sign := range signs {
				longer = append(longer, s+string(sign))
			}
		}
		row = longer
		for _, s := range row {
			tryText(t, s)
			tryText(t, "insert "+s)
			tryText(t, "insert"+s)
		}
	}
}

// Promises 9.1 and P1: very long texts are gone through to an end.
func TestLongTexts(t *testing.T) {
	const n = 1 << 20
	for _, sign := range []string{"0", "1", "9", " ", "a", "?", "-", "٥", "\xff", "\x00", "5 ", " 5", "insert ", "insert 5 7 ", "deletemin", "done"} {
		long := strings.Repeat(sign, n)
		for _, s := range []string{long, "insert " + long, "insert 5 " + long, "insert " + long + " 7", "insert 5 7" + long, "5 " + long, long + " 7", "done" + long, "peekmin" + long, long + "empty"} {
			if got := parse(s); got != (parsed{api.Call{}, api.ErrForm}) {
				t.Errorf("Parse of %d bytes, many of them %q: %v", len(s), sign, got)
			}
			if got := readOf(s); got != (read{api.Answer{}, api.ErrForm}) {
				t.Errorf("Read of %d bytes, many of them %q: %v", len(s), sign, got)
			}
		}
	}
}

// Promise 9.2, Code: the nine bytes by hand, the lowest first, and none of what may not be.
func TestCodeByHand(t *testing.T) {
	for _, c := range []struct {
		call api.Call
		want []byte
	}{
		{insert(0, 0), []byte{0, 0, 0, 0, 0, 0, 0, 0, 0}},
		{insert(5, 7), []byte{0, 5, 0, 0, 0, 7, 0, 0, 0}},
		{insert(0x04030201, 0x08070605), []byte{0, 1, 2, 3, 4, 5, 6, 7, 8}},
		{insert(0xffeeddcc, 0), []byte{0, 0xcc, 0xdd, 0xee, 0xff, 0, 0, 0, 0}},
		{insert(0, 0xffeeddcc), []byte{0, 0, 0, 0, 0, 0xcc, 0xdd, 0xee, 0xff}},
		{insert(256, 65536), []byte{0, 0, 1, 0, 0, 0, 0, 1, 0}},
		{insert(1<<24, 1<<31), []byte{0, 0, 0, 0, 1, 0, 0, 0, 128}},
		{insert(math.MaxUint32, math.MaxUint32), []byte{0, 255, 255, 255, 255, 255, 255, 255, 255}},
		{api.Call{Op: api.DeleteMin}, []byte{1, 0, 0, 0, 0, 0, 0, 0, 0}},
		{api.Call{Op: api.PeekMin}, []byte{2, 0, 0, 0, 0, 0, 0, 0, 0}},
		{api.Call{Op: 3}, nil}, {api.Call{Op: -1}, nil}, {api.Call{Op: 256}, nil}, {api.Call{Op: 1 << 32}, nil},
		{api.Call{Op: 3, Key: 5, Val: 7}, nil}, {api.Call{Op: math.MinInt}, nil}, {api.Call{Op: math.MaxInt}, nil},
		{api.Call{Op: 1, Key: 1}, nil}, {api.Call{Op: 1, Val: 1}, nil}, {api.Call{Op: 2, Key: 1}, nil}, {api.Call{Op: 2, Val: 1}, nil},
		{api.Call{Op: 2, Key: math.MaxUint32, Val: math.MaxUint32}, nil},
	} {
		is(t, fmt.Sprint("Code of ", c.call), fmt.Sprint(Code(c.call)), fmt.Sprint(c.want))
	}
}

// Promises 9.2 and 9.3: of each call that may be nine bytes, which are decoded; of others none.
func TestCodedIsDecoded(t *testing.T) {
	for _, c := range allCalls() {
		b := Code(c)
		if !mayCall(c) {
			is(t, fmt.Sprint("bytes of Code of ", c), len(b), 0)
			continue
		}
		is(t, fmt.Sprint("bytes of Code of ", c), len(b), 9)
		is(t, fmt.Sprint("Decode of Code of ", c), Decode(b), c)
	}
}

// Promise 9.3: what is coded is decoded, whatever stands behind the nine bytes.
func TestBytesBehindTheNine(t *testing.T) {
	for _, c := range append([]api.Call{{Op: 1}, {Op: 2}}, insert(0, 0), insert(5, 7), insert(math.MaxUint32, 1<<31), insert(1<<24, math.MaxUint32)) {
		for _, n := range []int{1, 2, 8, 9, 10, 100, 1 << 20} {
			for _, b := range []byte{0, 1, 2, 127, 255} {
				row := append(Code(c), bytes.Repeat([]byte{b}, n)...)
				is(t, fmt.Sprint("Decode of Code of ", c, " and ", n, " bytes ", b), Decode(row), c)
			}
		}
		is(t, fmt.Sprint("Decode of Code of ", c, " and another one"), Decode(append(Code(c), Code(insert(9, 9))...)), c)
	}
}

// Promise 9.2, Decode: by hand, of none, of fewer than nine bytes, of nine, and of more.
func TestDecodeByHand(t *testing.T) {
	for _, c := range []struct {
		b    []byte
		want api.Call
	}{
		{nil, api.Call{}}, {[]byte{}, api.Call{}}, {[]byte{0}, api.Call{}}, {[]byte{1}, api.Call{Op: 1}}, {[]byte{2}, api.Call{Op: 2}},
		{[]byte{3}, api.Call{}}, {[]byte{4}, api.Call{Op: 1}}, {[]byte{5}, api.Call{Op: 2}}, {[]byte{255}, api.Call{}}, {[]byte{254}, api.Call{Op: 2}},
		{[]byte{128}, api.Call{Op: 2}}, {[]byte{127}, api.Call{Op: 1}},
		{[]byte{0, 1}, insert(1, 0)}, {[]byte{0, 1, 2}, insert(0x0201, 0)}, {[]byte{0, 1, 2, 3}, insert(0x030201, 0)},
		{[]byte{0, 1, 2, 3, 4}, insert(0x04030201, 0)}, {[]byte{0, 1, 2, 3, 4, 5}, insert(0x04030201, 5)},
		{[]byte{0, 1, 2, 3, 4, 5, 6}, insert(0x04030201, 0x0605)}, {[]byte{0, 1, 2, 3, 4, 5, 6, 7}, insert(0x04030201, 0x070605)},
		{[]byte{0, 1, 2, 3, 4, 5, 6, 7, 8}, insert(0x04030201, 0x08070605)},
		{[]byte{0, 1, 2, 3, 4, 5, 6, 7, 8, 9}, insert(0x04030201, 0x08070605)},
		{[]byte{3, 1, 2, 3, 4, 5, 6, 7, 8, 9, 10, 11, 12, 13, 14, 15, 16, 17, 18, 19}, insert(0x04030201, 0x08070605)},
		{[]byte{255, 255, 255, 255, 255, 255, 255, 255, 255, 255}, insert(math.MaxUint32, math.MaxUint32)},
		{[]byte{0, 0, 0, 0, 128, 0, 0, 0, 128}, insert(1<<31, 1<<31)}, {[]byte{0, 0xfe, 0xff, 0xff, 0xff}, insert(math.MaxUint32-1, 0)},
		{[]byte{1, 1, 2, 3, 4, 5, 6, 7, 8}, api.Call{Op: 1}}, {[]byte{2, 1, 2, 3, 4, 5, 6, 7, 8}, api.Call{Op: 2}},
		{[]byte{1, 255}, api.Call{Op: 1}}, {[]byte{2, 0, 0, 0, 0, 255}, api.Call{Op: 2}}, {[]byte{4, 1, 2, 3, 4, 5, 6, 7, 8, 9}, api.Call{Op: 1}},
		{[]byte{5, 255, 255, 255, 255, 255, 255, 255, 255, 255}, api.Call{Op: 2}},
	} {
		is(t, fmt.Sprint("Decode of ", c.b), Decode(c.b), c.want)
	}
}

// decoded is the call that bytes should be, reckoned by products and sums, with each byte asked whether it is there.
func decoded(b []byte) api.Call {
	at := func(i int) uint64 {
		if i >= len(b) {
			return 0
		}
		return uint64(b[i])
	}
	four := func(i int) uint32 { return uint32(at(i) + 256*(at(i+1)+256*(at(i+2)+256*at(i+3)))) }
	op := int(at(0))
	for op > 2 {
		op -= 3
	}
	if op > 0 {
		return api.Call{Op: op}
	}
	return insert(four(1), four(5))
}

// Promise 9.2, Decode: every first byte, with every number of bytes up to a few more than nine.
func TestDecodeOfEveryFirstByte(t *testing.T) {
	for first := range 256 {
		for _, behind := range []byte{0, 1, 128, 255} {
			for n := 1; n < 14; n++ {
				b := bytes.Repeat([]byte{behind}, n)
				b[0] = byte(first)
				is(t, fmt.Sprint("Decode of ", b), Decode(b), decoded(b))
				for at := range b {
					b[at] ^= byte(37 * at)
				}
				is(t, fmt.Sprint("Decode of ", b), Decode(b), decoded(b))
			}
		}
	}
}

// Promise 9.2, Decode: each byte's own part, all others being 0, and being 255.
func TestEachByteOfDecode(t *testing.T) {
	for at := 1; at < 12; at++ {
		for b := range 256 {
			for _, other := range []byte{0, 255} {
				row := bytes.Repeat([]byte{other}, 12)
				row[0], row[at] = 0, byte(b)
				is(t, fmt.Sprint("Decode of ", row), Decode(row), decoded(row))
			}
		}
	}
}

// Promises 9.2 and P1: whatever is decoded may be, and its code is decoded to the same.
func TestDecodedMayBe(t *testing.T) {
	k := uint64(7)
	for at := range 20_000 {
		b := make([]byte, at%13)
		for i := range b {
			k = k*2862933555777941757 + 3037000493
			b[i] = byte(k >> 33)
		}
		c := Decode(b)
		is(t, fmt.Sprint("Decode of ", b), c, decoded(b))
		is(t, fmt.Sprint("Right of Decode of ", b), Right(c), true)
		is(t, fmt.Sprint("Decode of Code of ", c), Decode(Code(c)), c)
	}
}

// Bytes that lie behind the end of what was handed in are none of Decode's.
func TestBytesBehindTheEnd(t *testing.T) {
	all := []byte{0, 1, 2, 3, 4, 5, 6, 7, 8, 255}
	is(t, "Decode of the first two", Decode(all[:2]), insert(1, 0))
	is(t, "Decode of none of them", Decode(all[:0]), api.Call{})
	is(t, "Decode of those from the second one on", Decode(all[1:6:6]), api.Call{Op: 1})
	is(t, "Decode of those from the fourth one on", Decode(all[3:6]), insert(0x0504, 0))
}

// Bytes that were told are new ones each time: changed later, they play no part in what is told then.
func TestToldBytesAreNew(t *testing.T) {
	for _, c := range []api.Call{insert(5, 7), {Op: 1}, {Op: 2}} {
		first, second := Code(c), Code(c)
		was := slices.Clone(second)
		for at := range first {
			first[at] = 99
		}
		first = append(first[:0], 1, 2, 3)
		is(t, fmt.Sprint("another Code of ", c), fmt.Sprint(second), fmt.Sprint(was))
		is(t, fmt.Sprint("a later Code of ", c), fmt.Sprint(Code(c)), fmt.Sprint(was))
		is(t, fmt.Sprint("what was laid instead of Code of ", c), fmt.Sprint(first), "[1 2 3]")
		is(t, fmt.Sprint("what is put behind one Code of ", c), len(append(second, 77))+len(Code(c)), 19)
		is(t, fmt.Sprint("Decode of another Code of ", c), Decode(second), c)
	}
}

// Bytes that were handed in stay as they are, and play no part in what was told, once they are changed.
func TestHandedBytes(t *testing.T) {
	b := []byte{3, 1, 2, 3, 4, 5, 6, 7, 8, 9, 10}
	was := slices.Clone(b)
	first := Decode(b)
	is(t, "the bytes behind Decode", fmt.Sprint(b), fmt.Sprint(was))
	clear(b)
	is(t, "what was decoded ahead of the change", first, insert(0x04030201, 0x08070605))
	is(t, "what is decoded behind it", Decode(b), api.Call{})
	b[0] = 4
	is(t, "what is decoded behind another one", Decode(b), api.Call{Op: 1})

	text := []byte("insert 5 7")
	c, e := Parse(string(text))
	copy(text, "insert 6 8")
	is(t, "what was parsed ahead of a change", parsed{c, e}, parsed{insert(5, 7), api.OK})
	is(t, "what is parsed behind it", parse(string(text)), parsed{insert(6, 8), api.OK})
}

// Promise P1: no call panics, and each one tells the same again.
func TestAllEndAlike(t *testing.T) {
	for _, c := range allCalls() {
		a := api.Answer{Kind: c.Op, Key: c.Val, Val: c.Key}
		is(t, fmt.Sprint("Right of ", c, " again"), Right(c), Right(c))
		is(t, fmt.Sprint("Fits of ", c, " again"), Fits(c, a), Fits(c, a))
		is(t, fmt.Sprint("Show of ", c, " again"), Show(c), Show(c))
		is(t, fmt.Sprint("Tell of ", a, " again"), Tell(a), Tell(a))
		is(t, fmt.Sprint("Code of ", c, " again"), fmt.Sprint(Code(c)), fmt.Sprint(Code(c)))
	}
}
