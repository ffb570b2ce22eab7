package rlog_test

import (
	"math/rand"
	"strconv"
	"testing"

	"corbel/api"
	"corbel/entry"
	"corbel/rlog"
)

// keeper: a log whose entries come from one leader for each term.
type keeper struct {
	*rlog.Log
	term  int
	leads bool
}

// sent: what a leader sends; it may come late, more than once, or never.
type sent struct {
	term, index, logTerm, commit int
	entries                      []api.Entry
}

// world: keepers, what is between them, and what was committed by any of them.
type world struct {
	*rand.Rand
	t         *testing.T
	keepers   []*keeper
	sent      []sent
	committed map[int]api.Entry
	term      int
	puts      int
	went      int // entries that went, since another leader's came
	refused   int // entries of leaders that were not taken
}

// step: somebody leads a new term, or a leader appends, sends or commits, or something comes.
func (w *world) step() {
	k := w.keepers[w.Intn(len(w.keepers))]
	switch n := w.Intn(80); {
	case n == 0:
		w.lead(k)
	case n < 16 && k.leads:
		w.puts++
		index, _ := k.Last()
		is(w.t, "Append", k.Append(put(index+1, k.term, strconv.Itoa(w.puts))), api.OK)
	case n < 40 && k.leads:
		w.send(k)
	case n < 72 && len(w.sent) > 0:
		w.take(k, w.sent[len(w.sent)-1-w.Intn(min(30, len(w.sent)))])
	case n < 76 && k.leads:
		for i, _ := k.Last(); i > k.Committed(); i-- {
			if term, _ := k.Term(i); term == k.term && w.most(func(o *keeper) bool { have, _ := o.Term(i); return have == term }) {
				w.commit(k, i)
			}
		}
	case n == 76:
		k.Apply(w.Intn(4))
		k.Sure(k.Applied())
		k.Compact(k.Applied() - w.Intn(6))
	}
}

// most: does that hold of a majority?
func (w *world) most(holds func(k *keeper) bool) bool {
	count := 0
	for _, k := range w.keepers {
		if holds(k) {
			count++
		}
	}
	return 2*count > len(w.keepers)
}

// lead: in a new term, if a majority has no newer log; these say it.
func (w *world) lead(k *keeper) {
	votes := func(o *keeper) bool { return o.Newer(k.Last()) }
	if !w.most(votes) {
		return
	}
	w.term++
	for _, o := range w.keepers {
		if votes(o) {
			o.term, o.leads = w.term, o == k
		}
	}
}

// send: some entries of a leader, from anywhere in its log on.
func (w *world) send(k *keeper) {
	first, _ := k.Base()
	index, _ := k.Last()
	index = first + w.Intn(index-first+1)
	term, _ := k.Term(index)
	w.sent = append(w.sent, sent{k.term, index, term, k.Committed(), k.Slice(index+1, w.Intn(6))})
}

// take: what was sent in an elder term is not looked at, and a leader takes nothing of its own.
func (w *world) take(k *keeper, s sent) {
	if s.term < k.term || s.term == k.term && k.leads {
		return
	}
	k.term, k.leads = s.term, false
	ahead := all(k.Log)
	i, right := k.Match(s.index, s.logTerm, s.entries)
	if !right {
		w.refused++
		return
	}
	if n := len(ahead); n > 0 {
		if term, _ := k.Term(ahead[n-1].Index); term != ahead[n-1].Term {
			w.went++
		}
	}
	w.commit(k, min(s.commit, i))
}

// commit: whoever commits an Index, it is the same entry.
func (w *world) commit(k *keeper, i int) {
	from := k.Committed()
	if !k.Commit(i) {
		return
	}
	for _, e := range k.Slice(from+1, i-from) {
		if was, is := w.committed[e.Index]; is && !entry.Same(was, e) {
			w.t.Fatalf("two entries are committed at %d", e.Index)
		}
		w.committed[e.Index] = e
	}
}

// agree: of two logs that have an entry of one Index and Term, all ahead of it are the same.
func (w *world) agree(a, b *keeper) {
	i, _ := a.Last()
	j, _ := b.Last()
	alike := false
	for i = min(i, j); ; i-- {
		k, err := a.Term(i)
		l, other := b.Term(i)
		if err != api.OK || other != api.OK {
			return
		}
		alike = alike || k == l
		one, two := a.Slice(i, 1), b.Slice(i, 1)
		if alike && (k != l || len(one) > 0 && len(two) > 0 && !entry.Same(one[0], two[0])) {
			w.t.Fatalf("%s and %s are not alike at %d", show(all(a.Log)), show(all(b.Log)), i)
		}
	}
}

// kept: what a log committed is there, but for what was compacted.
func (w *world) kept(k *keeper) {
	first, _ := k.Base()
	for _, e := range k.Slice(first+1, k.Committed()-first) {
		are(w.t, "what is committed", []api.Entry{w.committed[e.Index]}, []api.Entry{e})
	}
	if last, _ := k.Last(); last < k.Committed() {
		w.t.Fatalf("%d is committed, and the last one is %d", k.Committed(), last)
	}
}

// TestAgree: P13.4, in worlds that go on by chance.
func TestAgree(t *testing.T) {
	went, refused, committed := 0, 0, 0
	for seed := range 60 {
		w := &world{Rand: rand.New(rand.NewSource(int64(seed))), t: t, committed: map[int]api.Entry{}}
		for range 3 {
			w.keepers = append(w.keepers, &keeper{Log: made(t, 0, 0)})
		}
		for range 2000 {
			w.step()
			for i, k := range w.keepers {
				w.kept(k)
				for _, other := range w.keepers[:i] {
					w.agree(k, other)
				}
			}
		}
		went, refused, committed = went+w.went, refused+w.refused, committed+len(w.committed)
	}
	if min(went, refused, committed) < 100 {
		t.Errorf("%d went, %d refused, %d committed", went, refused, committed)
	}
}
