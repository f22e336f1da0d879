package lin

import (
	"jostle/api"
	"jostle/bag"
	"jostle/real"
)

// field is operations, and what can be told of them ahead of a search. They have numbers, from 0 on, by an order that may be.
type field struct {
	opers  []api.Oper
	places []int   // of each, its place in the list that was handed in
	before []group // of each, those that must be ahead of it
	after  []group // of each, those that it must be ahead of
	kin    []kin   // of each goal, those that have to do with its answer

	easy   group // Inserts that are answered: legal wherever they stand
	spares group // Inserts that aren't answered
	takers group // DeleteMins that aren't answered
	goals  group // DeleteMins and PeekMins that are answered
}

// kin is those that have to do with one answer.
type kin struct {
	put  group // Inserts that put its pair in, or may do so
	take group // goals that are answered so, and take the pair out
	look group // goals that are answered so, and leave everything as it is
}

// lay is the field of operations, and whether there can be an order of them.
func lay(l []api.Oper) (*field, bool) {
	places, ok := lineUp(l)
	if !ok {
		return nil, false
	}
	f := &field{places: places, before: make([]group, len(l)), after: make([]group, len(l))}
	for x, at := range places {
		f.opers = append(f.opers, l[at])
		f.tie(x)
		if !f.sort(x) {
			return nil, false
		}
	}
	for x := range f.opers {
		f.kin = append(f.kin, f.kinOf(x))
	}
	return f, true
}

// lineUp is an order of all operations that may be, and whether there is one.
func lineUp(l []api.Oper) ([]int, bool) {
	var line []int
	done := make([]bool, len(l))
	for len(line) < len(l) {
		next := real.Next(l, done)
		if len(next) == 0 {
			return nil, false
		}
		for _, at := range next {
			done[at] = true
		}
		line = append(line, next...)
	}
	return line, true
}

// tie notes which operations must be ahead of one: all of them have numbers below its own.
func (f *field) tie(x int) {
	for y := range x {
		if real.Ahead(f.opers[y], f.opers[x]) {
			// Those ahead of that one, too: where it ends ahead of its beginning, they needn't be ahead of x by themselves.
			f.before[x] |= f.before[y] | just(y)
		}
	}
	for y := range f.before[x].all() {
		f.after[y] |= just(x)
	}
}

// sort notes what an operation is, and tells whether it can be legal, or left out. In no group is what is always left out: a PeekMin that isn't answered is of use to none, and what may not be is legal nowhere.
func (f *field) sort(x int) bool {
	o := &f.opers[x]
	insert, answered := o.Call.Op == api.Insert, o.To >= 0
	switch {
	case insert && answered:
		f.easy |= just(x)
	case insert:
		f.spares |= just(x)
		o.Answer = api.Answer{Kind: api.Done} // one that is Full is of no use either
	case answered:
		f.goals |= just(x)
	case o.Call.Op == api.DeleteMin && everLegal(o.Call, api.Answer{Kind: api.Pair}):
		f.takers |= just(x)
	}
	return !answered || everLegal(o.Call, o.Answer)
}

// everLegal tells whether a call with its answer is legal on some bag.
func everLegal(c api.Call, a api.Answer) bool {
	var b bag.Bag
	if a.Kind == api.Pair {
		b.Add(told(a))
	}
	return b.Do(c, a)
}

// told is the pair of an answer.
func told(a api.Answer) bag.Pair { return bag.Pair{Key: a.Key, Val: a.Val} }

// put is the pair of an Insert.
func put(c api.Call) bag.Pair { return bag.Pair{Key: c.Key, Val: c.Val} }

// puts tells whether an operation puts a pair in, wherever it stands.
func (f *field) puts(x int) bool {
	return (f.easy | f.spares).has(x) && f.opers[x].Answer.Kind == api.Done
}

// takes tells whether an operation is a goal that takes a pair out.
func (f *field) takes(x int) bool {
	o := f.opers[x]
	return f.goals.has(x) && o.Call.Op == api.DeleteMin && o.Answer.Kind == api.Pair
}

// kinOf is those that have to do with a goal's answer; none, if it isn't a goal.
func (f *field) kinOf(x int) kin {
	var k kin
	if !f.goals.has(x) {
		return k
	}
	a := f.opers[x].Answer
	for y, o := range f.opers {
		switch {
		case f.puts(y):
			if a.Kind == api.Pair && put(o.Call) == told(a) {
				k.put |= just(y)
			}
		case !f.goals.has(y) || o.Answer != a:
		case f.takes(y):
			k.take |= just(y)
		default:
			k.look |= just(y)
		}
	}
	return k
}
