package lin

import (
	"jostle/api"
	"jostle/bag"
	"jostle/seqs"
)

// What stands here changes no verdict: it keeps a search from going all ways, where there are very many.

// like is the goals that do the same as a goal.
func (f *field) like(g int) group {
	if f.takes(g) {
		return f.kin[g].take
	}
	return f.kin[g].look
}

// beaten tells whether one of those that do the same as an operation might as well come next in its stead, and it in that one's stead later.
func (f *field) beaten(x int, same group) bool {
	return same.any(func(y int) bool {
		if f.before[y] == f.before[x] && f.after[y] == f.after[x] {
			return y < x // one of them has to stay
		}
		return f.before[y].in(f.before[x]) && f.after[x].in(f.after[y])
	})
}

// now is those of some that aren't done, and have none to wait for.
func (f *field) now(done, some group) group {
	return (some &^ done).only(func(x int) bool { return f.before[x].in(done) })
}

// firsts is those of some that do the same, aren't done and have none to wait for, each of which may be thought of as done ahead of the others: what waits for another one waits for it, too.
func (f *field) firsts(done, same group) group {
	return f.now(done, same).only(func(x int) bool {
		return !(same &^ done).any(func(y int) bool { return !f.after[y].in(f.after[x]) })
	})
}

// sure tells whether, if any order goes on from where a move begins, one goes on with the move: what the move does can be taken from where it stands in that order, and done at once.
func (f *field) sure(m move) bool {
	at, k := m.from, f.kin[m.goal]
	done := at.done | m.inserts
	if m.to.done != done|just(m.goal) {
		return false // DeleteMins that aren't answered may be missed elsewhere
	}
	if m.inserts.size() > 1 || !m.inserts.in(f.firsts(at.done, k.put)) {
		return false // another Insert may have to be the first of this pair, or a pair be put in later
	}
	looks, takes := k.look&^done, f.firsts(done, k.take)
	switch {
	case f.takes(m.goal):
		// Till it is gone in that order, nobody needs the pair, and it is in the way of others at most.
		return looks == 0 && takes.has(m.goal)
	case m.inserts == 0:
		// It changes nothing.
		return true
	}
	// All that look at the pair, and one that takes it out, can be done at once too: then nothing is changed.
	return at.times(told(f.opers[m.goal].Answer)) == 0 && takes != 0 && looks == f.now(done, looks)
}

// doomed tells whether some goal can't be done any more.
func (f *field) doomed(at *state) bool {
	return f.left(at).any(func(g int) bool { return f.starved(at, g) || f.barred(at, g) })
}

// starved tells whether a goal's pair can't be there any more.
func (f *field) starved(at *state, g int) bool {
	a, puts := f.opers[g].Answer, f.kin[g].put&^at.done&^f.after[g]
	return a.Kind == api.Pair && puts == 0 && at.times(told(a)) == 0
}

// barred tells whether there are more pairs in a goal's way, or must be ahead of it, than can be taken ahead of it.
func (f *field) barred(at *state, g int) bool {
	pairs := at.pairs.List()
	for x := range f.missing(at, g).only(f.puts).all() {
		pairs = append(pairs, put(f.opers[x].Call))
	}
	helpers := f.left(at) &^ f.after[g]
	takers := (f.takers &^ at.done &^ f.after[g]).size()
	for p := range seqs.Only(seqs.Of(pairs), func(p bag.Pair) bool { return f.bars(p, g) }) {
		helper := f.helper(helpers, p)
		if helper == 0 {
			takers--
		}
		helpers &^= helper
	}
	return takers < 0
}

// helper is one of some goals that takes a pair out; none, if there is none.
func (f *field) helper(goals group, p bag.Pair) group {
	able := goals.only(func(x int) bool { return f.takes(x) && told(f.opers[x].Answer) == p })
	return able & -able // the lowest one
}
