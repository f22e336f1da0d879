package conf

import (
	"fmt"
	"math"
	"math/big"
	"regexp"
	"slices"
	"strings"
	"testing"

	"jostle/api"
	"jostle/plan"
)

// is holds what was told against what should be. It ends the test, since what is wrong at all is mostly wrong of many numbers.
func is[T comparable](t *testing.T, name string, got, want T) {
	t.Helper()
	if got != want {
		t.Fatalf("%s: %v, not %v", name, got, want)
	}
}

// of is a configuration by its parts in their order.
func of(algo, threads, nodes, level, batch, probes, scan int) api.Conf {
	return api.Conf{Algo: algo, Threads: threads, Nodes: nodes, Level: level, Batch: batch, Probes: probes, Scan: scan}
}

// leastOf is the least configuration of an algorithm.
func leastOf(algo int) api.Conf { return of(algo, 1, []int{1, 3, 3}[algo], 1, 1, 1, 1) }

// mostOf is the greatest one.
func mostOf(algo int) api.Conf { return of(algo, 6, 64, 6, 16, 16, 64) }

// usual is ordinary ones, each part unlike the others, as far as its limits let it.
func usual() []api.Conf {
	return []api.Conf{of(0, 2, 8, 3, 1, 4, 5), of(1, 4, 17, 6, 12, 2, 33), of(2, 3, 9, 5, 7, 11, 60)}
}

// part is one part of a configuration, and what it may be.
type part struct {
	name        string
	of          func(c *api.Conf) *int
	least, most int
}

// partsOf is all parts of an algorithm's configurations, in the order of their bytes.
func partsOf(algo int) []part {
	return []part{
		{"Algo", func(c *api.Conf) *int { return &c.Algo }, 0, 2},
		{"Threads", func(c *api.Conf) *int { return &c.Threads }, 1, 6},
		{"Nodes", func(c *api.Conf) *int { return &c.Nodes }, leastOf(algo).Nodes, 64},
		{"Level", func(c *api.Conf) *int { return &c.Level }, 1, 6},
		{"Batch", func(c *api.Conf) *int { return &c.Batch }, 1, 16},
		{"Probes", func(c *api.Conf) *int { return &c.Probes }, 1, 16},
		{"Scan", func(c *api.Conf) *int { return &c.Scan }, 1, 64},
	}
}

// with is a configuration with another number in one part.
func with(c api.Conf, p part, n int) api.Conf {
	*p.of(&c) = n
	return c
}

// bases is configurations that may be, of which one part is changed.
func bases(algo int) []api.Conf {
	return []api.Conf{leastOf(algo), mostOf(algo), usual()[algo]}
}

// far is numbers that no part may be: the edges of many sizes, and such as one byte or 32 bits of them may be.
func far() []int {
	return []int{-1, -2, -5, -64, -128, -255, -256, -254, 65, 100, 127, 128, 255, 256, 257, 258, 259, 260, 1<<16 + 3, 1<<31 - 1, 1 << 31, 1<<31 + 3,
		1<<32 - 1, 1 << 32, 1<<32 + 1, 1<<32 + 3, 1<<32 + 5, 1<<63 - 2, math.MaxInt, math.MinInt, math.MinInt + 1, math.MinInt + 3, math.MinInt32, math.MinInt32 - 1}
}

// may tells by the chapter's words whether a configuration may be.
func may(c api.Conf) bool {
	if c.Algo < 0 || c.Algo > 2 {
		return false
	}
	for _, p := range partsOf(c.Algo) {
		if n := *p.of(&c); n < p.least || n > p.most {
			return false
		}
	}
	return true
}

// nearModel is what Near should tell: one part after the other, the algorithm first, since the nodes hang on it.
func nearModel(c api.Conf) api.Conf {
	for i := range 7 {
		algo := c.Algo
		if i == 0 {
			algo = 0
		}
		p := partsOf(algo)[i]
		switch n := *p.of(&c); {
		case n < p.least:
			c = with(c, p, p.least)
		case n > p.most:
			c = with(c, p, p.most)
		}
	}
	return c
}

// textModel is a text by the chapter's words.
func textModel(c api.Conf) string {
	return fmt.Sprintf("%s threads %d nodes %d level %d batch %d probes %d scan %d", []string{"mound", "sundell", "linden"}[c.Algo],
		c.Threads, c.Nodes, c.Level, c.Batch, c.Probes, c.Scan)
}

// bytesModel is the bytes by the chapter's words.
func bytesModel(c api.Conf) []byte {
	return []byte{byte(c.Algo), byte(c.Threads), byte(c.Nodes), byte(c.Level), byte(c.Batch), byte(c.Probes), byte(c.Scan)}
}

// told is a configuration and an error, as Decode and Parse tell them.
type told struct {
	c api.Conf
	e api.Errno
}

// fault is what is told where there is no configuration.
func fault(e api.Errno) told { return told{api.Conf{}, e} }

func decode(b []byte) told {
	c, e := Decode(b)
	return told{c, e}
}

func parse(s string) told {
	c, e := Parse(s)
	return told{c, e}
}

// formModel is a text's form, digits by the words of the chapter on calls.
var formModel = regexp.MustCompile(strings.ReplaceAll(`^(mound|sundell|linden) threads D nodes D level D batch D probes D scan D$`, "D", "(0|[1-9][0-9]*)"))

// parseModel is what Parse should tell, found otherwise than the program does.
func parseModel(s string) told {
	found := formModel.FindStringSubmatch(s)
	if found == nil {
		return fault(api.ErrForm)
	}
	c := api.Conf{Algo: slices.Index([]string{"mound", "sundell", "linden"}, found[1])}
	for i, p := range partsOf(0)[1:] {
		n, _ := new(big.Int).SetString(found[i+2], 10)
		if n.BitLen() > 32 {
			return fault(api.ErrForm)
		}
		c = with(c, p, int(n.Int64()))
	}
	if !may(c) {
		return fault(api.ErrForm)
	}
	return told{c, api.OK}
}

// tryText holds what Parse tells of a text against what it should.
func tryText(t *testing.T, s string) {
	t.Helper()
	if got, want := parse(s), parseModel(s); got != want {
		t.Fatalf("Parse of %.200q: %v, not %v", s, got, want)
	}
}

// noText asks that there is no configuration of a text.
func noText(t *testing.T, s string) {
	t.Helper()
	if got := parse(s); got != fault(api.ErrForm) {
		t.Errorf("Parse of %.200q: %v", s, got)
	}
}

// tryConf holds all that is told of a configuration against what it should be.
func tryConf(t *testing.T, c api.Conf) {
	t.Helper()
	near := Near(c)
	is(t, fmt.Sprint("Near of ", c), near, nearModel(c))
	is(t, fmt.Sprint("Near of what is near to ", c), Near(near), near)
	is(t, fmt.Sprint("Check of what is near to ", c), Check(near), api.OK)
	if !may(c) {
		is(t, fmt.Sprint("Check of ", c), Check(c), api.ErrConfig)
		is(t, fmt.Sprint("how many bytes Code has of ", c), len(Code(c)), 0)
		is(t, fmt.Sprint("Show of ", c), Show(c), "?")
		return
	}
	is(t, fmt.Sprint("Check of ", c), Check(c), api.OK)
	is(t, fmt.Sprint("Near of one that may be, ", c), near, c)
	is(t, fmt.Sprint("Code of ", c), string(Code(c)), string(bytesModel(c)))
	is(t, fmt.Sprint("Show of ", c), Show(c), textModel(c))
	is(t, fmt.Sprint("Decode of Code of ", c), decode(Code(c)), told{c, api.OK})
	is(t, fmt.Sprint("Parse of Show of ", c), parse(Show(c)), told{c, api.OK})
}

// The chapter's example.
func TestExample(t *testing.T) {
	is(t, "Near of a zero configuration", Near(api.Conf{}), api.Conf{Algo: api.Mound, Threads: 1, Nodes: 1, Level: 1, Batch: 1, Probes: 1, Scan: 1})
}

// Promise 10.1, Check: by hand.
func TestCheckByHand(t *testing.T) {
	for _, c := range []struct {
		c    api.Conf
		want api.Errno
	}{
		{of(0, 2, 8, 3, 1, 2, 4), api.OK},
		{of(1, 2, 8, 3, 1, 2, 4), api.OK},
		{of(2, 2, 8, 3, 1, 2, 4), api.OK},
		{of(0, 1, 1, 1, 1, 1, 1), api.OK},
		{of(1, 1, 3, 1, 1, 1, 1), api.OK},
		{of(2, 1, 3, 1, 1, 1, 1), api.OK},
		{of(0, 6, 64, 6, 16, 16, 64), api.OK},
		{of(1, 6, 64, 6, 16, 16, 64), api.OK},
		{of(2, 6, 64, 6, 16, 16, 64), api.OK},
		{of(0, 1, 2, 1, 1, 1, 1), api.OK},
		{of(0, 1, 3, 1, 1, 1, 1), api.OK},
		{api.Conf{}, api.ErrConfig},
		{of(1, 0, 0, 0, 0, 0, 0), api.ErrConfig},
		{of(0, 1, 0, 1, 1, 1, 1), api.ErrConfig},
		{of(1, 1, 2, 1, 1, 1, 1), api.ErrConfig},
		{of(2, 1, 2, 1, 1, 1, 1), api.ErrConfig},
		{of(1, 1, 1, 1, 1, 1, 1), api.ErrConfig},
		{of(2, 1, 1, 1, 1, 1, 1), api.ErrConfig},
		{of(-1, 2, 8, 3, 1, 2, 4), api.ErrConfig},
		{of(3, 2, 8, 3, 1, 2, 4), api.ErrConfig},
		{of(0, 7, 8, 3, 1, 2, 4), api.ErrConfig},
		{of(1, 2, 65, 3, 1, 2, 4), api.ErrConfig},
		{of(2, 2, 8, 7, 1, 2, 4), api.ErrConfig},
		{of(0, 2, 8, 3, 17, 2, 4), api.ErrConfig},
		{of(1, 2, 8, 3, 1, 17, 4), api.ErrConfig},
		{of(2, 2, 8, 3, 1, 2, 65), api.ErrConfig},
		{of(2, 2, 8, 3, 1, 2, 0), api.ErrConfig},
	} {
		is(t, fmt.Sprint("Check of ", c.c), Check(c.c), c.want)
	}
}

// Promise 10.1, Near: by hand.
func TestNearByHand(t *testing.T) {
	for _, c := range []struct {
		c, want api.Conf
	}{
		{of(1, 0, 0, 0, 0, 0, 0), of(1, 1, 3, 1, 1, 1, 1)},
		{of(2, 0, 0, 0, 0, 0, 0), of(2, 1, 3, 1, 1, 1, 1)},
		{of(-1, -1, -1, -1, -1, -1, -1), of(0, 1, 1, 1, 1, 1, 1)},
		{of(3, -1, -1, -1, -1, -1, -1), of(2, 1, 3, 1, 1, 1, 1)},
		{of(3, 7, 65, 7, 17, 17, 65), of(2, 6, 64, 6, 16, 16, 64)},
		{of(math.MinInt, math.MinInt, math.MinInt, math.MinInt, math.MinInt, math.MinInt, math.MinInt), of(0, 1, 1, 1, 1, 1, 1)},
		{of(math.MaxInt, math.MaxInt, math.MaxInt, math.MaxInt, math.MaxInt, math.MaxInt, math.MaxInt), of(2, 6, 64, 6, 16, 16, 64)},
		{of(0, 2, 1, 3, 1, 2, 4), of(0, 2, 1, 3, 1, 2, 4)},
		{of(0, 2, 0, 3, 1, 2, 4), of(0, 2, 1, 3, 1, 2, 4)},
		{of(0, 2, 2, 3, 1, 2, 4), of(0, 2, 2, 3, 1, 2, 4)},
		{of(1, 2, 1, 3, 1, 2, 4), of(1, 2, 3, 3, 1, 2, 4)},
		{of(1, 2, 2, 3, 1, 2, 4), of(1, 2, 3, 3, 1, 2, 4)},
		{of(1, 2, 3, 3, 1, 2, 4), of(1, 2, 3, 3, 1, 2, 4)},
		{of(1, 2, 4, 3, 1, 2, 4), of(1, 2, 4, 3, 1, 2, 4)},
		{of(2, 2, 1, 3, 1, 2, 4), of(2, 2, 3, 3, 1, 2, 4)},
		{of(2, 2, 2, 3, 1, 2, 4), of(2, 2, 3, 3, 1, 2, 4)},
		{of(2, 2, 3, 3, 1, 2, 4), of(2, 2, 3, 3, 1, 2, 4)},
		{of(2, 2, 4, 3, 1, 2, 4), of(2, 2, 4, 3, 1, 2, 4)},
		{of(-7, 2, 2, 3, 1, 2, 4), of(0, 2, 2, 3, 1, 2, 4)},
		{of(99, 2, 2, 3, 1, 2, 4), of(2, 2, 3, 3, 1, 2, 4)},
		{of(1, 9, 9, 9, 9, 9, 9), of(1, 6, 9, 6, 9, 9, 9)},
		{of(2, 20, 20, 20, 20, 20, 20), of(2, 6, 20, 6, 16, 16, 20)},
		{of(0, 99, 0, 99, 0, 99, 0), of(0, 6, 1, 6, 1, 16, 1)},
		{of(1, 0, 99, 0, 99, 0, 99), of(1, 1, 64, 1, 16, 1, 64)},
	} {
		is(t, fmt.Sprint("Near of ", c.c), Near(c.c), c.want)
	}
}

// Promises 10.1, 10.2, 10.3: each part by itself, around its least and its most, at 0 and below, and far off, of each algorithm and of none.
func TestEachPart(t *testing.T) {
	for algo := range 3 {
		for _, base := range bases(algo) {
			for _, p := range partsOf(algo) {
				for n := -300; n <= 600; n++ {
					tryConf(t, with(base, p, n))
				}
				for _, n := range far() {
					tryConf(t, with(base, p, n))
				}
			}
		}
	}
}

// Promises 10.1, 10.2: one part at its edges, where the algorithm is none.
func TestAlgorithmsThatAreNone(t *testing.T) {
	for _, algo := range append(far(), 3, 4, 5) {
		for base := range 3 {
			c := leastOf(base)
			c.Algo = algo
			tryConf(t, c)
			for _, p := range partsOf(base)[1:] {
				for _, n := range []int{p.least - 1, p.least, p.most, p.most + 1, 0, -1, math.MinInt, math.MaxInt} {
					tryConf(t, with(c, p, n))
				}
			}
		}
	}
}

// Promises 10.1, 10.2: any two parts that are wrong at one time, at all their edges.
func TestTwoPartsAtOnce(t *testing.T) {
	for algo := range 3 {
		list := partsOf(algo)
		for i, p := range list {
			for _, q := range list[:i] {
				for _, n := range []int{math.MinInt, -1, 0, p.least - 1, p.least, p.least + 1, p.most - 1, p.most, p.most + 1, 256 + p.least, math.MaxInt} {
					for _, m := range []int{math.MinInt, -1, 0, q.least - 1, q.least, q.least + 1, q.most - 1, q.most, q.most + 1, 256 + q.least, math.MaxInt} {
						tryConf(t, with(with(usual()[algo], p, n), q, m))
					}
				}
			}
		}
	}
}

// Promise 10.1: the least and the greatest numbers, and such as may be, in all parts at one time.
func TestAllPartsAtOnce(t *testing.T) {
	numbers := []int{math.MinInt, 0, 2, 65, math.MaxInt}
	all := []api.Conf{{}}
	for _, p := range partsOf(0) {
		var longer []api.Conf
		for _, c := range all {
			for _, n := range numbers {
				longer = append(longer, with(c, p, n))
			}
		}
		all = longer
	}
	for _, c := range all {
		tryConf(t, c)
	}
}

// Promise 10.1, Check: what layer 6 has a plan of.
func TestCheckIsOfPlans(t *testing.T) {
	for algo := -1; algo <= 3; algo++ {
		for threads := -1; threads <= 8; threads++ {
			for nodes := -1; nodes <= 66; nodes++ {
				for level := 0; level <= 7; level++ {
					c := of(algo, threads, nodes, level, 2, 2, 2)
					_, e := plan.New(c)
					is(t, fmt.Sprint("Check of ", c), Check(c), e)
				}
			}
		}
	}
}

// spread is configurations that may be: each part at its least and its most, and where its digits change in number.
func spread() []api.Conf {
	var all []api.Conf
	for algo := range 3 {
		row := []api.Conf{{Algo: algo}}
		for _, p := range partsOf(algo)[1:] {
			var longer []api.Conf
			for _, c := range row {
				for _, n := range []int{p.least, 5, 9, 10, p.most} {
					if n <= p.most {
						longer = append(longer, with(c, p, n))
					}
				}
			}
			row = longer
		}
		all = append(all, row...)
	}
	return all
}

// Promise 10.3, and 10.1, 10.2: of many configurations that may be.
func TestManyThatMayBe(t *testing.T) {
	for _, c := range spread() {
		tryConf(t, c)
	}
}

// Promise 10.2, Code and Show: by hand, numbers of one digit and of two.
func TestCodeAndShowByHand(t *testing.T) {
	for _, c := range []struct {
		c     api.Conf
		bytes string
		text  string
	}{
		{of(0, 2, 8, 3, 1, 2, 4), "\x00\x02\x08\x03\x01\x02\x04", "mound threads 2 nodes 8 level 3 batch 1 probes 2 scan 4"},
		{of(1, 2, 8, 3, 1, 2, 4), "\x01\x02\x08\x03\x01\x02\x04", "sundell threads 2 nodes 8 level 3 batch 1 probes 2 scan 4"},
		{of(2, 2, 8, 3, 1, 2, 4), "\x02\x02\x08\x03\x01\x02\x04", "linden threads 2 nodes 8 level 3 batch 1 probes 2 scan 4"},
		{of(0, 1, 1, 1, 1, 1, 1), "\x00\x01\x01\x01\x01\x01\x01", "mound threads 1 nodes 1 level 1 batch 1 probes 1 scan 1"},
		{of(1, 1, 3, 1, 1, 1, 1), "\x01\x01\x03\x01\x01\x01\x01", "sundell threads 1 nodes 3 level 1 batch 1 probes 1 scan 1"},
		{of(2, 6, 64, 6, 16, 16, 64), "\x02\x06\x40\x06\x10\x10\x40", "linden threads 6 nodes 64 level 6 batch 16 probes 16 scan 64"},
		{of(0, 3, 10, 4, 11, 12, 13), "\x00\x03\x0a\x04\x0b\x0c\x0d", "mound threads 3 nodes 10 level 4 batch 11 probes 12 scan 13"},
		{of(1, 5, 20, 2, 9, 10, 30), "\x01\x05\x14\x02\x09\x0a\x1e", "sundell threads 5 nodes 20 level 2 batch 9 probes 10 scan 30"},
	} {
		is(t, fmt.Sprint("Code of ", c.c), string(Code(c.c)), c.bytes)
		is(t, fmt.Sprint("Show of ", c.c), Show(c.c), c.text)
		is(t, fmt.Sprintf("Decode of %q", c.bytes), decode([]byte(c.bytes)), told{c.c, api.OK})
		is(t, "Parse of "+c.text, parse(c.text), told{c.c, api.OK})
	}
	for _, c := range []api.Conf{{}, of(-1, 2, 8, 3, 1, 2, 4), of(3, 2, 8, 3, 1, 2, 4), of(1, 2, 2, 3, 1, 2, 4), of(0, 2, 8, 3, 1, 2, 65), of(256, 2, 8, 3, 1, 2, 4), of(0, 258, 8, 3, 1, 2, 4)} {
		is(t, fmt.Sprint("how many bytes Code has of ", c), len(Code(c)), 0)
		is(t, fmt.Sprint("Show of ", c), Show(c), "?")
	}
}

// Promise 10.2, Decode: by hand; what is wrong in both ways has too few bytes first.
func TestDecodeByHand(t *testing.T) {
	for _, c := range []struct {
		b    []byte
		want told
	}{
		{nil, fault(api.ErrEnd)},
		{[]byte{}, fault(api.ErrEnd)},
		{[]byte{0}, fault(api.ErrEnd)},
		{[]byte{0, 2}, fault(api.ErrEnd)},
		{[]byte{0, 2, 8}, fault(api.ErrEnd)},
		{[]byte{0, 2, 8, 3}, fault(api.ErrEnd)},
		{[]byte{0, 2, 8, 3, 1}, fault(api.ErrEnd)},
		{[]byte{0, 2, 8, 3, 1, 2}, fault(api.ErrEnd)},
		{[]byte{9, 9, 99, 9, 99, 99}, fault(api.ErrEnd)},
		{[]byte{255, 255, 255, 255, 255, 255}, fault(api.ErrEnd)},
		{[]byte{0, 2, 8, 3, 1, 2, 4}, told{of(0, 2, 8, 3, 1, 2, 4), api.OK}},
		{[]byte{1, 2, 8, 3, 1, 2, 4, 99}, told{of(1, 2, 8, 3, 1, 2, 4), api.OK}},
		{[]byte{2, 6, 64, 5, 16, 15, 63, 0, 0, 0, 0, 0, 0, 0}, told{of(2, 6, 64, 5, 16, 15, 63), api.OK}},
		{[]byte{0, 0, 0, 0, 0, 0, 0}, fault(api.ErrConfig)},
		{[]byte{0, 0, 0, 0, 0, 0, 0, 0, 2, 8, 3, 1, 2, 4}, fault(api.ErrConfig)},
		{[]byte{255, 255, 255, 255, 255, 255, 255}, fault(api.ErrConfig)},
		{[]byte{3, 2, 8, 3, 1, 2, 4}, fault(api.ErrConfig)},
		{[]byte{1, 2, 2, 3, 1, 2, 4}, fault(api.ErrConfig)},
		{[]byte{2, 2, 2, 3, 1, 2, 4}, fault(api.ErrConfig)},
		{[]byte{0, 2, 2, 3, 1, 2, 4}, told{of(0, 2, 2, 3, 1, 2, 4), api.OK}},
		{[]byte{128, 130, 136, 131, 129, 130, 132}, fault(api.ErrConfig)},
	} {
		is(t, fmt.Sprint("Decode of ", c.b), decode(c.b), c.want)
	}
}

// Promises 10.2, 10.3: every byte in every part's place, and what is decoded is coded as its first seven.
func TestDecodeOfEachByte(t *testing.T) {
	for algo := range 3 {
		for _, base := range bases(algo) {
			for at := range 7 {
				for n := range 256 {
					b := bytesModel(base)
					b[at] = byte(n)
					for _, behind := range []string{"", "\x00", "\xff\x01\x02\x03\x04\x05\x06\x07", "mound"} {
						long := append(slices.Clone(b), behind...)
						is(t, fmt.Sprint("Decode of ", long), decode(long), decodeModel(b))
						if c, e := Decode(long); e == api.OK {
							is(t, fmt.Sprint("Code of Decode of ", long), string(Code(c)), string(b))
						}
					}
					for length := range 7 {
						is(t, fmt.Sprint("Decode of ", b[:length]), decode(b[:length]), fault(api.ErrEnd))
					}
				}
			}
		}
	}
}

// decodeModel is what Decode should tell of just seven bytes.
func decodeModel(b []byte) told {
	c := of(int(b[0]), int(b[1]), int(b[2]), int(b[3]), int(b[4]), int(b[5]), int(b[6]))
	if !may(c) {
		return fault(api.ErrConfig)
	}
	return told{c, api.OK}
}

// Bytes that lie behind the end of what was handed in are none of Decode's.
func TestBytesBehindTheEnd(t *testing.T) {
	all := []byte{9, 0, 2, 8, 3, 1, 2, 4, 7}
	is(t, "Decode of six of them", decode(all[1:7]), fault(api.ErrEnd))
	is(t, "Decode of none of them", decode(all[:0]), fault(api.ErrEnd))
	is(t, "Decode of seven of them", decode(all[1:8]), told{of(0, 2, 8, 3, 1, 2, 4), api.OK})
	is(t, "Decode of all of them", decode(all), fault(api.ErrConfig))
}

// Promise 10.2, Parse: what is near to a text, by hand, is none.
func TestWrongTextsByHand(t *testing.T) {
	for _, s := range []string{
		"", "?", "??", " ", "  ", "mound", "sundell", "linden", "mound ", "linden ", "mound threads", "mound threads ", "mound threads 2", "sundell nodes 8",
		"mound threads 2 nodes 8 level 3 batch 1 probes 2 scan", "mound threads 2 nodes 8 level 3 batch 1 probes 2 scan ",
		"mound threads 2 nodes 8 level 3 batch 1 probes 2", "mound threads 2 nodes 8 level 3 batch 1 probes 2 4",
		"threads 2 nodes 8 level 3 batch 1 probes 2 scan 4", " threads 2 nodes 8 level 3 batch 1 probes 2 scan 4",
		"mound threads 2 nodes 8 level 3 batch 1 probes 2 scan 4 5", "mound threads 2 nodes 8 level 3 batch 1 probes 2 scan 4 scan 4",
		"mound mound threads 2 nodes 8 level 3 batch 1 probes 2 scan 4", "0 threads 2 nodes 8 level 3 batch 1 probes 2 scan 4",
		"mound threads threads 2 nodes 8 level 3 batch 1 probes 2 scan 4", "mound threads 2 2 nodes 8 level 3 batch 1 probes 2 scan 4",
		"mound nodes 8 threads 2 level 3 batch 1 probes 2 scan 4", "mound threads 2 nodes 8 level 3 batch 1 scan 2 probes 4",
		"mound threads 2 threads 2 level 3 batch 1 probes 2 scan 4", "mound threads 2 nodes 8 level 3 batch 1 probes 2 probes 4",
		"threads 2 mound nodes 8 level 3 batch 1 probes 2 scan 4", "mound 2 threads 8 nodes 3 level 1 batch 2 probes 4 scan",
		"mount threads 2 nodes 8 level 3 batch 1 probes 2 scan 4", "moun threads 2 nodes 8 level 3 batch 1 probes 2 scan 4",
		"sundel threads 2 nodes 8 level 3 batch 1 probes 2 scan 4", "lindén threads 2 nodes 8 level 3 batch 1 probes 2 scan 4",
		"mound thread 2 nodes 8 level 3 batch 1 probes 2 scan 4", "mound threads 2 node 8 level 3 batch 1 probes 2 scan 4",
		"mound threads 2 nodes 8 levels 3 batch 1 probes 2 scan 4", "mound threads 2 nodes 8 level 3 batches 1 probes 2 scan 4",
		"mound threads 2 nodes 8 level 3 batch 1 probe 2 scan 4", "mound threads 2 nodes 8 level 3 batch 1 probes 2 scans 4",
		"mound  2 nodes 8 level 3 batch 1 probes 2 scan 4", "mound threads  nodes 8 level 3 batch 1 probes 2 scan 4",
		"Mound threads 2 nodes 8 level 3 batch 1 probes 2 scan 4", "MOUND threads 2 nodes 8 level 3 batch 1 probes 2 scan 4",
		"mound Threads 2 nodes 8 level 3 batch 1 probes 2 scan 4", "mound threads 2 nodes 8 level 3 batch 1 probes 2 SCAN 4",
		" mound threads 2 nodes 8 level 3 batch 1 probes 2 scan 4", "mound threads 2 nodes 8 level 3 batch 1 probes 2 scan 4 ",
		"mound threads 2 nodes 8 level 3 batch 1 probes 2 scan 4\n", "mound threads 2 nodes 8 level 3 batch 1 probes 2 scan 4\x00",
		"mound  threads 2 nodes 8 level 3 batch 1 probes 2 scan 4", "mound threads 2 nodes 8 level 3  batch 1 probes 2 scan 4",
		"mound\tthreads 2 nodes 8 level 3 batch 1 probes 2 scan 4", "mound threads 2\nnodes 8 level 3 batch 1 probes 2 scan 4",
		"mound threads 2 nodes 8 level 3 batch 1 probes 2 scan\u00a04", "mound threads\u30002 nodes 8 level 3 batch 1 probes 2 scan 4",
		"moundthreads 2 nodes 8 level 3 batch 1 probes 2 scan 4", "mound threads2 nodes 8 level 3 batch 1 probes 2 scan 4",
		"mound threads 2nodes 8 level 3 batch 1 probes 2 scan 4", "mound,threads,2,nodes,8,level,3,batch,1,probes,2,scan,4",
		"mound threads=2 nodes=8 level=3 batch=1 probes=2 scan=4", "mound threads 2, nodes 8, level 3, batch 1, probes 2, scan 4",
		"mound threads two nodes 8 level 3 batch 1 probes 2 scan 4", "mound 2 8 3 1 2 4", "0 2 8 3 1 2 4",
		"mound threads 2 nodes 8 level 3 batch 1 probes 2 scan 4mound threads 2 nodes 8 level 3 batch 1 probes 2 scan 4",
		"mound threads 2 nodes 8 level 3 batch 1 probes 2 scan 4 mound threads 2 nodes 8 level 3 batch 1 probes 2 scan 4",
		"mound threads 2 nodes 8 level 3 batch 1 probes 2 scan 4\nmound threads 2 nodes 8 level 3 batch 1 probes 2 scan 4",
		"sundell threads 2 nodes 2 level 3 batch 1 probes 2 scan 4", "linden threads 2 nodes 1 level 3 batch 1 probes 2 scan 4",
		"mound threads 0 nodes 0 level 0 batch 0 probes 0 scan 0", "\ufeffmound threads 2 nodes 8 level 3 batch 1 probes 2 scan 4",
	} {
		noText(t, s)
	}
}

// texts is texts of every algorithm, of numbers of one digit and of two.
func texts() []string {
	var l []string
	for algo := range 3 {
		for _, c := range bases(algo) {
			l = append(l, textModel(c))
		}
	}
	return l
}

// changed is a text with another word in one place; a word that is "" takes the blank ahead of it away, too.
func changed(s string, at int, word string) string {
	l := strings.Split(s, " ")
	if word == "" {
		return strings.Join(slices.Delete(l, at, at+1), " ")
	}
	l[at] = word
	return strings.Join(l, " ")
}

// Promise 10.2, Parse: each word of a text that is missing, twice, or another one.
func TestOneWordOff(t *testing.T) {
	others := []string{"", " ", "?", "mound", "sundell", "linden", "threads", "nodes", "level", "batch", "probes", "scan", "algo", "insert", "deletemin", "0", "1", "5", "10", "64"}
	for _, good := range texts() {
		l := strings.Split(good, " ")
		for at, word := range l {
			for _, other := range others {
				tryText(t, changed(good, at, other))
				tryText(t, changed(good, at, word+" "+other))
				tryText(t, changed(good, at, word+other))
				tryText(t, changed(good, at, other+word))
			}
			noText(t, changed(good, at, ""))
			noText(t, changed(good, at, word+" "+word))
			for to, other := range l {
				swapped := changed(changed(good, at, other), to, word)
				tryText(t, swapped)
				if at%2 == 1 && to%2 == 1 && at != to {
					noText(t, swapped)
				}
			}
			tryText(t, strings.Join(l[:at], " "))
			tryText(t, strings.Join(l[at:], " "))
		}
	}
}

// wrongNumbers is words that are no part's number, whatever else they may look like.
func wrongNumbers() []string {
	return []string{"0", "00", "01", "02", "05", "001", "010", "+1", "+2", "-1", "-2", "-0", "+", "-", "1+", "2-", "1.0", "2.", ".5", "1e0", "1e1", "0x2", "0b1", "0o3", "1_0", "a", "f", "2f", "two", "½",
		"65", "66", "70", "99", "100", "127", "128", "129", "255", "256", "257", "258", "259", "260", "65535", "65536", "65538",
		"2147483647", "2147483648", "2147483650", "4294967295", "4294967296", "4294967297", "4294967298", "4294967299", "4294967300", "8589934594", "42949672962",
		"9223372036854775807", "9223372036854775808", "9223372036854775810", "18446744073709551615", "18446744073709551616", "18446744073709551617", "18446744073709551618", "18446744073709551619", "18446744073709551621",
		"-9223372036854775808", "-18446744073709551614", "36893488147419103234", "184467440737095516162", "340282366920938463463374607431768211457", "340282366920938463463374607431768211458",
		"1" + strings.Repeat("0", 40), strings.Repeat("0", 40) + "2", strings.Repeat("9", 400), "2" + strings.Repeat("0", 64) + "2",
		"٢", "۲", "२", "２", "𝟐", "²", "₂", "②", "Ⅱ", "二", "1٢", "2\u0301", "2\u200b", "\u202a2", "\ufeff2", "IJ", "\u0132", "\U00010032", "\x80", "\xff", "2\xff", "\xc0\xb2", "\xb2", "\xed\xa0\x80", "\x002", "2\x00"}
}

// Promise 10.2, Parse: numbers that none of a configuration's may be, in each number's place.
func TestWrongNumbers(t *testing.T) {
	for _, good := range texts() {
		for at := 2; at <= 12; at += 2 {
			for _, word := range wrongNumbers() {
				noText(t, changed(good, at, word))
			}
		}
	}
}

// Promise 10.2, Parse: all small numbers in each number's place.
func TestAllSmallNumbers(t *testing.T) {
	for _, good := range texts() {
		for at := 2; at <= 12; at += 2 {
			for n := range 700 {
				tryText(t, changed(good, at, fmt.Sprint(n)))
				noText(t, changed(good, at, fmt.Sprint("0", n)))
				noText(t, changed(good, at, fmt.Sprint(-n)))
			}
		}
	}
	// By hand, those at the edges, where one number more is none.
	for _, c := range []struct {
		at    int
		least string
		most  string
		more  string
	}{{2, "1", "6", "7"}, {4, "3", "64", "65"}, {6, "1", "6", "7"}, {8, "1", "16", "17"}, {10, "1", "16", "17"}, {12, "1", "64", "65"}} {
		good := Show(of(2, 2, 8, 3, 1, 2, 4))
		is(t, "Parse of the least one", parse(changed(good, c.at, c.least)).e, api.OK)
		is(t, "Parse of the greatest one", parse(changed(good, c.at, c.most)).e, api.OK)
		noText(t, changed(good, c.at, c.more))
	}
}

// Promise 10.2, Parse: each text with one sign less, one more, or another one, at every place, by every byte.
func TestOneSignOff(t *testing.T) {
	for algo := range 3 {
		good := textModel(usual()[algo])
		for at := range len(good) + 1 {
			tryText(t, good[:at])
			tryText(t, good[at:])
			for b := range 256 {
				sign := string([]byte{byte(b)})
				tryText(t, good[:at]+sign+good[at:])
				if at < len(good) {
					tryText(t, good[:at]+sign+good[at+1:])
				}
			}
			if at < len(good) {
				tryText(t, good[:at]+strings.ToUpper(good[at:at+1])+good[at+1:])
				noText(t, good[:at]+"\x00"+good[at+1:])
			}
			for cut := at + 1; cut <= len(good); cut++ {
				tryText(t, good[:at]+good[cut:])
			}
		}
	}
}

// Promise 10.2, Parse: signs outside of ASCII and bytes that are no UTF-8, alone and at every place of a text.
func TestSignsOutsideOfAscii(t *testing.T) {
	for _, bad := range []string{"é", "ｍ", "２", "٢", "\u00a0", "\u0120", "\u2003", "\u200b", "\u3000", "\u0085", "\u2028", "\ufeff", "\ufffd", "😀", "\U00010020",
		"\x80", "\xff", "\xa0", "\xc0\xa0", "\xe0\x80\xa0", "\xed\xa0\x80", "\xf4\x90\x80\x80", "\xc3", "\xe2\x82"} {
		noText(t, bad)
		for _, good := range texts() {
			for at := range len(good) + 1 {
				noText(t, good[:at]+bad+good[at:])
				if at < len(good) {
					noText(t, good[:at]+bad+good[at+1:])
				}
			}
		}
	}
}

// Promise 10.2, Parse: one text behind another one, with and without something between.
func TestTwoTextsInARow(t *testing.T) {
	for _, one := range texts() {
		for _, other := range texts() {
			for _, between := range []string{"", " ", "  ", "\n", "\x00", ",", "?"} {
				noText(t, one+between+other)
			}
		}
	}
}

// Promises 10.2 and P1: very long texts are gone through to an end.
func TestLongTexts(t *testing.T) {
	const n = 1 << 20
	const good = "mound threads 2 nodes 8 level 3 batch 1 probes 2 scan 4"
	for _, sign := range []string{"0", "1", "9", " ", "a", "?", "-", "٥", "\xff", "\x00", "2 ", " 2", "mound ", "threads 2 ", good, good + " "} {
		long := strings.Repeat(sign, n/len(sign))
		for _, s := range []string{long, good + long, good + " " + long, long + good, long + " " + good, "mound " + long, "mound threads " + long,
			changed(good, 0, long), changed(good, 1, long), changed(good, 2, long), changed(good, 11, long), changed(good, 12, long)} {
			noText(t, s)
		}
	}
}

// Promise 10.2, Decode and P1: of very many bytes only the first seven play a part.
func TestLongBytes(t *testing.T) {
	b := make([]byte, 1<<20)
	is(t, "Decode of many bytes that are 0", decode(b), fault(api.ErrConfig))
	copy(b, bytesModel(mostOf(2)))
	is(t, "Decode of a configuration ahead of many bytes", decode(b), told{mostOf(2), api.OK})
}

// Bytes that were told are new ones each time: changed later, they play no part in what is told then.
func TestToldBytesAreNew(t *testing.T) {
	for _, c := range usual() {
		first, second := Code(c), Code(c)
		for at := range first {
			first[at] = 99
		}
		first = append(first[:0], 1, 2, 3)
		is(t, fmt.Sprint("another Code of ", c), string(second), string(bytesModel(c)))
		is(t, fmt.Sprint("a later Code of ", c), string(Code(c)), string(bytesModel(c)))
		is(t, fmt.Sprint("what was laid instead of Code of ", c), fmt.Sprint(first), "[1 2 3]")
		is(t, fmt.Sprint("Decode of another Code of ", c), decode(append(second, 77)), told{c, api.OK})
	}
}

// Bytes that were handed in stay as they are, and play no part in what was told, once they are changed.
func TestHandedBytes(t *testing.T) {
	b := []byte{1, 2, 8, 3, 1, 2, 4, 9, 9}
	was := string(b)
	first := decode(b)
	is(t, "the bytes behind Decode", string(b), was)
	clear(b)
	is(t, "what was decoded ahead of the change", first, told{of(1, 2, 8, 3, 1, 2, 4), api.OK})
	is(t, "what is decoded behind it", decode(b), fault(api.ErrConfig))
	copy(b, []byte{2, 1, 3, 1, 1, 1, 1})
	is(t, "what is decoded behind another one", decode(b), told{leastOf(2), api.OK})

	c := of(0, 9, 9, 9, 9, 9, 9)
	near := Near(c)
	is(t, "what is handed to Near", c, of(0, 9, 9, 9, 9, 9, 9))
	near.Nodes = 2
	is(t, "what Near tells behind a change of what it told", Near(c), of(0, 6, 9, 6, 9, 9, 9))

	text := []byte(Show(usual()[0]))
	parsed := parse(string(text))
	clear(text)
	is(t, "what was parsed ahead of a change", parsed.c, usual()[0])
	is(t, "what is shown behind it", Show(usual()[0]), textModel(usual()[0]))
}

// What is told hangs on nothing that was asked ahead of it.
func TestAskedAgain(t *testing.T) {
	for range 3 {
		is(t, "Near of a zero configuration", Near(api.Conf{}), leastOf(0))
		is(t, "Near of Linden's zero one", Near(api.Conf{Algo: api.Linden}), leastOf(2))
		is(t, "Near of what is too great", Near(of(0, 99, 99, 99, 99, 99, 99)), mostOf(0))
		for _, c := range usual() {
			tryConf(t, c)
		}
		noText(t, "?")
		is(t, "Decode of none", decode(nil), fault(api.ErrEnd))
	}
}
