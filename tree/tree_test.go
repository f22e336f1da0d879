package tree

import (
	"math"
	"slices"
	"testing"
)

// The last place and the last depth, as the chapter says.
const (
	topPlace = 1048576
	topDepth = 20
)

// strangers are numbers that are no places.
var strangers = []int{
	0, -1, -2, -3, -topPlace, -topPlace - 1, math.MinInt32, math.MinInt + 1, math.MinInt,
	topPlace + 1, topPlace + 2, 2 * topPlace, 2*topPlace + 1, math.MaxInt32, 1 << 32, 1<<32 + 1, 1<<40 + 5, math.MaxInt - 1, math.MaxInt,
}

// noDepths are numbers that are no depths.
var noDepths = []int{
	0, -1, -2, -20, -63, math.MinInt32, math.MinInt + 1, math.MinInt,
	21, 22, 31, 32, 33, 63, 64, 65, 84, 1 << 32, 1<<32 + 3, math.MaxInt - 1, math.MaxInt,
}

// wild are numbers of all kinds, for what may be handed in beside a place or a depth.
func wild() []int {
	l := slices.Concat(strangers, noDepths)
	for n := range 40 {
		l = append(l, n, topPlace-n)
	}
	return l
}

// down goes from a place to all that lie under it, by children alone, and shows each with its path.
func down(path []int, show func(path []int)) {
	n := path[len(path)-1]
	if n > topPlace {
		return
	}
	show(path)
	down(append(path, 2*n), show)
	down(append(path, 2*n+1), show)
}

// places shows each place with its path.
func places(show func(path []int)) {
	down(append(make([]int, 0, topDepth+2), 1), show)
}

// rows are the places of a tree, level by level, each level's rising.
func rows(depth int) [][]int {
	l := [][]int{{1}}
	for len(l) < depth {
		var next []int
		for _, n := range l[len(l)-1] {
			next = append(next, 2*n, 2*n+1)
		}
		l = append(l, next)
	}
	return l
}

// The chapter's examples, and the other calls of the place 5 in a tree of depth 3.
func TestExamples(t *testing.T) {
	if l := Path(5); !slices.Equal(l, []int{1, 2, 5}) {
		t.Errorf("Path(5): %v", l)
	}
	if n := Leaf(3, 6); n != 6 {
		t.Errorf("Leaf(3, 6): %d", n)
	}
	if Parent(5) != 2 || Level(5) != 2 || Leaves(3) != 4 || Up(5, 1) != 2 || Inner(5, 3) || !Inner(3, 3) {
		t.Errorf("5 in a tree of depth 3: %d, %d, %d, %d, %v, %v", Parent(5), Level(5), Leaves(3), Up(5, 1), Inner(5, 3), Inner(3, 3))
	}
}

// Promise 19.1: Parent, Level, Up and Path of each place that there is.
func TestAllPlaces(t *testing.T) {
	seen := 0
	places(func(path []int) {
		seen++
		n, level := path[len(path)-1], len(path)-1
		above := 0
		if level > 0 {
			above = path[level-1]
		}
		if p := Parent(n); p != above {
			t.Fatalf("Parent(%d): %d, not %d", n, p, above)
		}
		if l := Level(n); l != level {
			t.Fatalf("Level(%d): %d, not %d", n, l, level)
		}
		if l := Path(n); !slices.Equal(l, path) {
			t.Fatalf("Path(%d): %v, not %v", n, l, path)
		}
		for at, want := range path {
			if u := Up(n, at); u != want {
				t.Fatalf("Up(%d, %d): %d, not %d", n, at, u, want)
			}
		}
		if Up(n, -1) != 0 || Up(n, level+1) != 0 {
			t.Fatalf("Up(%d, ..) past its ends: %d, %d", n, Up(n, -1), Up(n, level+1))
		}
	})
	if seen != topPlace {
		t.Errorf("%d places were seen", seen)
	}
}

// Promise 19.1: the places at the ends.
func TestPlacesAtTheEnds(t *testing.T) {
	for _, c := range []struct{ n, parent, level int }{
		{1, 0, 0},
		{2, 1, 1},
		{3, 1, 1},
		{4, 2, 2},
		{7, 3, 2},
		{524287, 262143, 18},
		{524288, 262144, 19},
		{1048575, 524287, 19},
		{1048576, 524288, 20},
		{1048577, 0, 0},
	} {
		if Parent(c.n) != c.parent || Level(c.n) != c.level {
			t.Errorf("%d: parent %d, level %d, not %d, %d", c.n, Parent(c.n), Level(c.n), c.parent, c.level)
		}
	}
	if l := Path(1); !slices.Equal(l, []int{1}) {
		t.Errorf("Path(1): %v", l)
	}
	if l := Path(topPlace); len(l) != 21 || l[0] != 1 || l[20] != topPlace {
		t.Errorf("the last place's path: %v", l)
	}
}

// Promise 19.1: Up at levels that a place has nothing at, however far off.
func TestUpWithoutALevel(t *testing.T) {
	for _, n := range []int{1, 2, 3, 5, 1000, topPlace - 1, topPlace} {
		own := len(Path(n)) - 1
		for _, level := range wild() {
			if level >= 0 && level <= own {
				continue
			}
			if u := Up(n, level); u != 0 {
				t.Errorf("Up(%d, %d): %d", n, level, u)
			}
		}
	}
}

// Promise 19.1: of what is no place, nothing is told.
func TestNoPlaces(t *testing.T) {
	for _, n := range strangers {
		if Parent(n) != 0 || Level(n) != 0 || len(Path(n)) != 0 {
			t.Errorf("%d is no place: %d, %d, %v", n, Parent(n), Level(n), Path(n))
		}
		for _, k := range wild() {
			if Up(n, k) != 0 || Inner(n, k) {
				t.Errorf("%d is no place: Up or Inner with %d: %d, %v", n, k, Up(n, k), Inner(n, k))
			}
		}
	}
}

// Promise 19.1: how many leaves there are, and each by its number, at all depths.
func TestLeaves(t *testing.T) {
	for i, row := range rows(topDepth) {
		depth, many := i+1, len(row)
		if n := Leaves(depth); n != many {
			t.Errorf("Leaves(%d): %d, not %d", depth, n, many)
		}
		for draw, want := range row {
			if n := Leaf(depth, draw); n != want {
				t.Fatalf("Leaf(%d, %d): %d, not %d", depth, draw, n, want)
			}
		}
	}
}

// Promise 19.1: a leaf's number is taken modulo how many there are; below 0 there is none.
func TestLeafTakesDrawModulo(t *testing.T) {
	for i, row := range rows(topDepth) {
		depth, many := i+1, len(row)
		for _, draw := range []int{many - 1, many, many + 1, 2*many - 1, 2 * many, 3*many + many/2, 255, 256, 1<<40 + 3, math.MaxInt - 1, math.MaxInt} {
			if n := Leaf(depth, draw); n != row[draw%many] {
				t.Errorf("Leaf(%d, %d): %d, not %d", depth, draw, n, row[draw%many])
			}
		}
		for _, draw := range []int{-1, -2, -many, -many - 1, math.MinInt + 1, math.MinInt} {
			if n := Leaf(depth, draw); n != 0 {
				t.Errorf("Leaf(%d, %d): %d", depth, draw, n)
			}
		}
	}
}

// Promise 19.1: whose children are places of a tree, of each place and depth.
func TestInner(t *testing.T) {
	for depth := 1; depth <= topDepth; depth++ {
		in := make([]bool, 2*topPlace+2)
		for _, row := range rows(depth) {
			for _, n := range row {
				in[n] = true
			}
		}
		for n := 1; n <= topPlace; n++ {
			if want := in[2*n] && in[2*n+1]; Inner(n, depth) != want {
				t.Fatalf("Inner(%d, %d): not %v", n, depth, want)
			}
		}
	}
}

// Promise 19.1: of what is no depth, nothing is told.
func TestNoDepths(t *testing.T) {
	for _, depth := range noDepths {
		if n := Leaves(depth); n != 0 {
			t.Errorf("Leaves(%d): %d", depth, n)
		}
		for _, k := range wild() {
			if Leaf(depth, k) != 0 || Inner(k, depth) {
				t.Errorf("%d is no depth: Leaf or Inner with %d: %d, %v", depth, k, Leaf(depth, k), Inner(k, depth))
			}
		}
	}
}

// Promise 19.2: a place lies under its parent, one level below it.
func TestPlaceLiesUnderItsParent(t *testing.T) {
	for n := 2; n <= topPlace; n++ {
		p := Parent(n)
		if Level(n) != Level(p)+1 || Up(n, Level(p)) != p || n != 2*p && n != 2*p+1 {
			t.Fatalf("%d, of level %d, and its parent %d, of level %d", n, Level(n), p, Level(p))
		}
	}
}

// Promise 19.2: a path has a place of each level, and each one's parent is the one ahead of it.
func TestPathHasAPlaceOfEachLevel(t *testing.T) {
	for n := 1; n <= topPlace; n++ {
		l := Path(n)
		if len(l) != Level(n)+1 {
			t.Fatalf("Path(%d): %v", n, l)
		}
		above := 0
		for level, at := range l {
			if Level(at) != level || Parent(at) != above {
				t.Fatalf("Path(%d): %v", n, l)
			}
			above = at
		}
	}
}

// Promise 19.2: a tree's leaves are the places whose children aren't its own, though the place is.
func TestLeavesHaveNoChildren(t *testing.T) {
	for depth := 1; depth <= 12; depth++ {
		var bare []int
		for n := 1; n < 1<<depth; n++ {
			if !Inner(n, depth) {
				bare = append(bare, n)
			}
		}
		if len(bare) != Leaves(depth) {
			t.Fatalf("depth %d: %d places without children", depth, len(bare))
		}
		for draw, n := range bare {
			if Leaf(depth, draw) != n {
				t.Fatalf("Leaf(%d, %d): %d, not %d", depth, draw, Leaf(depth, draw), n)
			}
		}
	}
}

// The rule on memory: a path that was told is the caller's own.
func TestPathIsNew(t *testing.T) {
	a, b := Path(11), Path(11)
	want := []int{1, 2, 5, 11}
	for i := range a {
		a[i] = -1
	}
	a = append(a, 7, 7, 7)
	if !slices.Equal(b, want) || !slices.Equal(Path(11), want) || len(a) != 7 {
		t.Errorf("a path that another one was written over: %v, %v", b, Path(11))
	}
	long := Path(23)
	short := append(Path(11), -1)
	if long[4] != 23 || short[4] != -1 {
		t.Errorf("paths that lie in one another: %v, %v", long, short)
	}
}

// Promise P1: each call ends, whatever numbers it is handed.
func TestAnyNumbers(t *testing.T) {
	for _, a := range wild() {
		Parent(a)
		Level(a)
		Leaves(a)
		Path(a)
		for _, b := range wild() {
			if n := Leaf(a, b); n < 0 || n >= topPlace {
				t.Errorf("Leaf(%d, %d): %d", a, b, n)
			}
			if n := Up(a, b); n < 0 || n > topPlace {
				t.Errorf("Up(%d, %d): %d", a, b, n)
			}
			Inner(a, b)
		}
	}
}
