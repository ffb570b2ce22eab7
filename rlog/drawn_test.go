package rlog_test

import (
	"math/rand"
	"strconv"
	"testing"

	"corbel/api"
	"corbel/rlog"
)

// drawn: calls by chance, done by the program and by a plain telling of the chapter.
type drawn struct {
	*rand.Rand
	t   *testing.T
	l   *rlog.Log
	p   *plain
	did map[string]int
}

// entry: of an index and a term, of any kind; now and then none that may be.
func (x *drawn) entry(index, term int) api.Entry {
	switch x.Intn(8) {
	case 0:
		return members(index, term, 1, 2+x.Intn(5))
	case 1, 2, 3:
		return put(index, term, strconv.Itoa(x.Intn(5)))
	case 4:
		if x.Intn(6) == 0 {
			return api.Entry{Index: index, Term: term, Kind: x.Intn(5)}
		}
	}
	return noop(index, term)
}

// entries: behind an index, in a term and what follows; now and then they don't follow one another.
func (x *drawn) entries(index, term int) []api.Entry {
	var l []api.Entry
	for range x.Intn(6) {
		index++
		if x.Intn(3) == 0 {
			term += x.Intn(3)
		}
		if x.Intn(40) == 0 {
			index += x.Intn(3) - 1
		}
		if x.Intn(40) == 0 {
			term--
		}
		l = append(l, x.entry(index, term))
	}
	return l
}

// near: a number about one of the log's.
func (x *drawn) near() int {
	all := []int{x.p.base, x.p.last(), x.p.committed, x.p.applied, x.p.stable()}
	return all[x.Intn(len(all))] + x.Intn(5) - 2
}

// leaders: entries that a leader may send: the log's own for a while, then others.
func (x *drawn) leaders() (int, int, []api.Entry) {
	index := x.p.base + x.Intn(len(x.p.entries)+1)
	term, _ := x.p.term(index)
	own := x.p.slice(index+1, x.Intn(5))
	last, lastTerm := index+len(own), term
	if len(own) > 0 {
		lastTerm = own[len(own)-1].Term
	}
	es := append(own, x.entries(last, lastTerm+x.Intn(2))...)
	if x.Intn(12) == 0 {
		term += x.Intn(3) - 1
	}
	if x.Intn(12) == 0 {
		index = x.near()
	}
	return index, term, es
}

// step: one call; did counts those that came to something.
func (x *drawn) step() {
	count := func(what string, did bool) {
		if did {
			x.did[what]++
		}
	}
	switch x.Intn(9) {
	case 0, 1:
		index, term := x.l.Last()
		e := x.entry(index+1+x.Intn(21)/20, term+x.Intn(10)/8-x.Intn(20)/19)
		err, want := x.l.Append(e), x.p.append(e)
		is(x.t, "Append", err, want)
		count("Append", err == api.OK)
	case 2, 3:
		index, term, es := x.leaders()
		stable := x.p.stable()
		i, right := x.l.Match(index, term, es)
		want, wanted := x.p.match(index, term, es)
		if i != want || right != wanted {
			x.t.Fatalf("Match(%d, %d, %s): %d, %t, want %d, %t", index, term, show(es), i, right, want, wanted)
		}
		count("Match", right)
		count("no Match", !right)
		count("a conflict", x.p.stable() < stable)
	case 4:
		i := x.near()
		did := x.l.Commit(i)
		is(x.t, "Commit", did, x.p.commit(i))
		count("Commit", did)
	case 5:
		i, stable := x.near(), x.l.Stable()
		x.l.Sure(i)
		x.p.makeSure(i)
		count("Sure", x.l.Stable() > stable)
	case 6:
		most := x.Intn(6) - 1
		l := x.l.Apply(most)
		are(x.t, "Apply", l, x.p.apply(most))
		count("Apply", len(l) > 0)
	case 7:
		i := x.near()
		did := x.l.Compact(i)
		is(x.t, "Compact", did, x.p.compact(i))
		count("Compact", did)
	case 8:
		if x.Intn(10) == 0 {
			index, term := x.near(), x.Intn(20)-1
			x.l.Restore(index, term)
			x.p.restore(index, term)
			count("Restore", index > 0 && term > 0)
		}
	}
}

// TestDrawn: P13.1 to P13.3: behind each call the log answers what the chapter's words tell.
func TestDrawn(t *testing.T) {
	x := &drawn{Rand: rand.New(rand.NewSource(13)), t: t, did: map[string]int{}}
	for range 300 {
		index, term := x.Intn(5), x.Intn(4)
		es := x.entries(index, max(1, term))
		x.l, x.p = rlog.New(index, term, es), plainNew(index, term, es)
		if is(t, "New", x.l != nil, x.p != nil); x.p == nil {
			continue
		}
		for range 60 {
			alike(t, x.l, x.p)
			x.step()
		}
		alike(t, x.l, x.p)
	}
	for _, what := range []string{"Append", "Match", "no Match", "a conflict", "Commit", "Sure", "Apply", "Compact", "Restore"} {
		if x.did[what] < 50 {
			t.Errorf("%s: %d times", what, x.did[what])
		}
	}
}
