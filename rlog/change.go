package rlog

import (
	"slices"

	"corbel/api"
)

// Append: an entry more.
func (l *Log) Append(e api.Entry) api.Errno {
	if l.none() {
		return api.ErrMade
	}
	index, term := l.Last()
	if !follow(index, term, []api.Entry{e}) {
		return api.ErrArg
	}
	l.entries = append(l.entries, copyEntry(e))
	return api.OK
}

// Match: a leader's entries. What is there as the leader has it is left alone: the message may be an elder one, and what stands behind may have come since.
func (l *Log) Match(index, term int, es []api.Entry) (int, bool) {
	t, err := l.Term(index)
	if err != api.OK || t != term || !follow(index, term, es) {
		return 0, false
	}
	first := slices.IndexFunc(es, func(e api.Entry) bool { return !l.has(e) })
	if first >= 0 && !l.put(es[first:]) {
		return 0, false
	}
	return index + len(es), true
}

// Compact: entries go.
func (l *Log) Compact(i int) bool {
	if l.none() || i <= l.index || i > min(l.applied, l.stable) {
		return false
	}
	term := l.termAt(i)
	l.drop(i - l.index)
	l.index, l.term = i, term
	return true
}

// Restore: another base, and nothing behind it.
func (l *Log) Restore(index, term int) {
	if l.none() || index < 1 || term < 1 || index > maxBase {
		return
	}
	*l = *New(index, term, nil)
}

// has: is there an entry of that Index and Term?
func (l *Log) has(e api.Entry) bool {
	t, err := l.Term(e.Index)
	return err == api.OK && t == e.Term
}

// put: these entries, the first of which isn't there, instead of all from its Index on; false, if what stands there is committed.
func (l *Log) put(es []api.Entry) bool {
	ahead := es[0].Index - 1
	if ahead < l.committed {
		return false
	}
	if ahead < l.last() {
		l.entries = l.cut(l.index+1, ahead)
		l.stable = min(l.stable, ahead)
	}
	l.entries = append(l.entries, copyAll(es)...)
	return true
}

// drop: the first n entries go, and at once all that they hold. Their room goes when it is more than what is left, so that the copying takes no longer than what made it due.
func (l *Log) drop(n int) {
	clear(l.entries[:n])
	l.entries = l.entries[n:]
	l.gone += n
	if l.gone > len(l.entries) {
		l.entries = slices.Clone(l.entries)
		l.gone = 0
	}
}
