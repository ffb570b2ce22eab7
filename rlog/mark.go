package rlog

import "corbel/api"

// Commit: up to an entry.
func (l *Log) Commit(i int) bool {
	if l.none() || i <= l.committed || i > l.last() {
		return false
	}
	l.committed = i
	return true
}

// Committed: up to where.
func (l *Log) Committed() int {
	if l.none() {
		return 0
	}
	return l.committed
}

// Unsure: entries that are not sure.
func (l *Log) Unsure() []api.Entry {
	if l.none() {
		return nil
	}
	return copyAll(l.cut(l.stable+1, l.last()))
}

// Sure: entries are, up to one.
func (l *Log) Sure(i int) {
	if l.none() {
		return
	}
	l.stable = max(l.stable, min(i, l.last()))
}

// Stable: up to where they are.
func (l *Log) Stable() int {
	if l.none() {
		return 0
	}
	return l.stable
}

// Apply: the next entries that are committed.
func (l *Log) Apply(most int) []api.Entry {
	if l.none() {
		return nil
	}
	next := l.Slice(l.applied+1, min(most, l.committed-l.applied))
	l.applied += len(next)
	return next
}

// Applied: up to where.
func (l *Log) Applied() int {
	if l.none() {
		return 0
	}
	return l.applied
}
