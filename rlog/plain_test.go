package rlog_test

import (
	"fmt"
	"testing"

	"corbel/api"
	"corbel/entry"
	"corbel/rlog"
)

// What chapter 13 says, told once more: entries by their Indexes in a map, and each looking done one by one. Whether an entry is good is what its own package says.

// plain: a log.
type plain struct {
	base, baseTerm     int
	entries            map[int]api.Entry
	sure               map[int]bool
	committed, applied int
}

// plainRight: may entries stand behind that?
func plainRight(index, term int, l []api.Entry) bool {
	for i, e := range l {
		if !entry.Good(e) || e.Index != index+1+i || e.Term < term || i > 0 && e.Term < l[i-1].Term {
			return false
		}
	}
	return true
}

// plainNew: nil, if there is none.
func plainNew(index, term int, l []api.Entry) *plain {
	if index < 0 || term < 0 || index > 1<<40 || !plainRight(index, term, l) {
		return nil
	}
	p := &plain{base: index, baseTerm: term, entries: map[int]api.Entry{}, sure: map[int]bool{}, committed: index, applied: index}
	for _, e := range l {
		p.entries[e.Index], p.sure[e.Index] = e, true
	}
	return p
}

func (p *plain) last() int { return p.base + len(p.entries) }

func (p *plain) term(i int) (int, api.Errno) {
	e, is := p.entries[i]
	switch {
	case is:
		return e.Term, api.OK
	case i == p.base:
		return p.baseTerm, api.OK
	case i < p.base:
		return 0, api.ErrGone
	}
	return 0, api.ErrRange
}

func (p *plain) slice(from, most int) []api.Entry {
	var l []api.Entry
	if from <= p.base || from > p.last() {
		return nil
	}
	for i := from; i <= p.last() && len(l) < most; i++ {
		l = append(l, p.entries[i])
	}
	return l
}

func (p *plain) newer(index, term int) bool {
	lastTerm, _ := p.term(p.last())
	switch {
	case term > lastTerm:
		return true
	case term < lastTerm:
		return false
	}
	return index >= p.last()
}

func (p *plain) append(e api.Entry) api.Errno {
	lastTerm, _ := p.term(p.last())
	if !entry.Good(e) || e.Index != p.last()+1 || e.Term < lastTerm {
		return api.ErrArg
	}
	p.entries[e.Index] = e
	return api.OK
}

func (p *plain) match(index, term int, es []api.Entry) (int, bool) {
	if t, err := p.term(index); err != api.OK || t != term || !plainRight(index, term, es) {
		return 0, false
	}
	last, fresh := index+len(es), false
	for _, e := range es {
		if t, err := p.term(e.Index); !fresh && err == api.OK && t == e.Term {
			continue
		}
		if !fresh && e.Index <= p.committed {
			return 0, false
		}
		for i := p.last(); !fresh && i >= e.Index; i-- {
			delete(p.entries, i)
			delete(p.sure, i)
		}
		p.entries[e.Index], fresh = e, true
	}
	return last, true
}

func (p *plain) hint(index, term int) int {
	if index < p.base {
		return p.base
	}
	i := min(index, p.last())
	for i > p.base && p.entries[i].Term > term {
		i--
	}
	return i
}

func (p *plain) commit(i int) bool {
	if i <= p.committed || i > p.last() {
		return false
	}
	p.committed = i
	return true
}

func (p *plain) unsure() []api.Entry {
	var l []api.Entry
	for i := p.base + 1; i <= p.last(); i++ {
		if !p.sure[i] {
			l = append(l, p.entries[i])
		}
	}
	return l
}

func (p *plain) makeSure(i int) {
	for j := p.base + 1; j <= p.last() && j <= i; j++ {
		p.sure[j] = true
	}
}

func (p *plain) stable() int { return p.base + len(p.sure) }

func (p *plain) apply(most int) []api.Entry {
	var l []api.Entry
	for len(l) < most && p.applied < p.committed {
		p.applied++
		l = append(l, p.entries[p.applied])
	}
	return l
}

func (p *plain) compact(i int) bool {
	if i <= p.base || i > p.applied || !p.sure[i] {
		return false
	}
	p.baseTerm = p.entries[i].Term
	for ; p.base < i; p.base++ {
		delete(p.entries, p.base+1)
		delete(p.sure, p.base+1)
	}
	return true
}

func (p *plain) restore(index, term int) {
	if index >= 1 && term >= 1 && index <= 1<<40 {
		*p = *plainNew(index, term, nil)
	}
}

func (p *plain) conf() (api.Conf, int) {
	for i := p.last(); i > p.base; i-- {
		if e := p.entries[i]; e.Kind == api.EntryConf {
			return e.Conf, i
		}
	}
	return api.Conf{}, 0
}

// is: an answer is that one.
func is[T comparable](t *testing.T, what string, got, want T) {
	t.Helper()
	if got != want {
		t.Fatalf("%s: %v, want %v", what, got, want)
	}
}

// are: entries are those; nil and empty ones are alike.
func are(t *testing.T, what string, got, want []api.Entry) {
	t.Helper()
	right := len(got) == len(want)
	for i := 0; right && i < len(got); i++ {
		right = entry.Same(got[i], want[i])
	}
	if !right {
		t.Fatalf("%s: %s, want %s", what, show(got), show(want))
	}
}

// show: entries in a line that can be read.
func show(l []api.Entry) string {
	s := ""
	for _, e := range l {
		s += fmt.Sprintf("%d/%d/%d ", e.Index, e.Term, e.Kind)
	}
	return "[" + s + "]"
}

// noop, put and members: entries of each kind.
func noop(index, term int) api.Entry {
	return api.Entry{Index: index, Term: term, Kind: api.EntryNoop}
}

func put(index, term int, value string) api.Entry {
	return api.Entry{Index: index, Term: term, Kind: api.EntryCommand, Command: api.Command{Kind: api.CmdPut, Session: 1, Seq: 1, Key: "k", Value: value}}
}

func members(index, term int, voters ...int) api.Entry {
	return api.Entry{Index: index, Term: term, Kind: api.EntryConf, Conf: api.Conf{Voters: voters, Learners: []int{9}}}
}

// noops: behind a base, of these terms.
func noops(index int, terms ...int) []api.Entry {
	var l []api.Entry
	for i, term := range terms {
		l = append(l, noop(index+1+i, term))
	}
	return l
}

// made: a log that New makes.
func made(t *testing.T, index, term int, l ...api.Entry) *rlog.Log {
	t.Helper()
	log := rlog.New(index, term, l)
	if log == nil {
		t.Fatalf("New(%d, %d, %s): nil", index, term, show(l))
	}
	return log
}

// base: the log's is that.
func base(t *testing.T, l *rlog.Log, index, term int) {
	t.Helper()
	if i, m := l.Base(); i != index || m != term {
		t.Fatalf("Base: %d, %d, want %d, %d", i, m, index, term)
	}
}

// last: the log's last entry is that.
func last(t *testing.T, l *rlog.Log, index, term int) {
	t.Helper()
	if i, m := l.Last(); i != index || m != term {
		t.Fatalf("Last: %d, %d, want %d, %d", i, m, index, term)
	}
}

// alike: whatever is asked of both, they answer the same.
func alike(t *testing.T, l *rlog.Log, p *plain) {
	t.Helper()
	lastTerm, _ := p.term(p.last())
	base(t, l, p.base, p.baseTerm)
	last(t, l, p.last(), lastTerm)
	is(t, "Committed", l.Committed(), p.committed)
	is(t, "Applied", l.Applied(), p.applied)
	is(t, "Stable", l.Stable(), p.stable())
	are(t, "Unsure", l.Unsure(), p.unsure())
	c, at := l.Conf()
	d, where := p.conf()
	if !entry.SameConf(c, d) || at != where {
		t.Fatalf("Conf: %v, %d, want %v, %d", c, at, d, where)
	}
	for i := p.base - 2; i <= p.last()+2; i++ {
		term, err := l.Term(i)
		want, wantErr := p.term(i)
		if term != want || err != wantErr {
			t.Fatalf("Term(%d): %d, %v, want %d, %v", i, term, err, want, wantErr)
		}
		for _, most := range []int{-1, 0, 1, 2, p.last() - i + 1} {
			are(t, "Slice", l.Slice(i, most), p.slice(i, most))
		}
		for term := p.baseTerm - 1; term <= lastTerm+1; term++ {
			if got, want := l.Hint(i, term), p.hint(i, term); got != want {
				t.Fatalf("Hint(%d, %d): %d, want %d", i, term, got, want)
			}
			if got, want := l.Newer(i, term), p.newer(i, term); got != want {
				t.Fatalf("Newer(%d, %d): %t, want %t", i, term, got, want)
			}
		}
	}
}
