package wal

import (
	"slices"

	"corbel/api"
)

// State is what records come to.
type State struct {
	Index   int
	Term    int
	Hard    api.Hard
	Entries []api.Entry
}

// Fold: a state behind a record.
func Fold(s State, r Record) (State, bool) {
	s = copyState(s)
	r.Entry = copyEntry(r.Entry)
	right := s.fold(r)
	return s, right
}

// fold: the state goes on behind a record, of which it keeps the entry as it is; false, and nothing has changed, if that is not right. It works in the memory that the state has, so that many records take no more than one copy.
func (s *State) fold(r Record) bool {
	if !takes(s.Index, s.last(), r) {
		return false
	}
	switch r.Kind {
	case KindEntry:
		s.put(r.Entry)
	case KindHard:
		s.Hard = r.Hard
	case KindBase:
		s.rebase(r.Index, r.Term)
	}
	return true
}

// takes: is a record's fold right, where the base and the last entry have these Indexes? One less than an entry's does not wrap where it is above the base's; one more than the last one's might.
func takes(base, last int, r Record) bool {
	switch r.Kind {
	case KindEntry:
		return r.Entry.Index > base && r.Entry.Index-1 <= last
	case KindHard:
		return true
	case KindBase:
		return r.Index >= base
	}
	return false
}

// last: the Index of the last entry, or the base's.
func (s *State) last() int {
	if len(s.Entries) == 0 {
		return s.Index
	}
	return s.Entries[len(s.Entries)-1].Index
}

// put: an entry instead of those from its Index on. These are looked for from the end: there are seldom any.
func (s *State) put(e api.Entry) {
	left := len(s.Entries)
	for left > 0 && s.Entries[left-1].Index >= e.Index {
		left--
	}
	s.Entries = append(slices.Delete(s.Entries, left, len(s.Entries)), e)
}

// rebase: another base. Entries behind it go on from it only if the log had it.
func (s *State) rebase(index, term int) {
	gone, had := 0, index == s.Index
	for gone < len(s.Entries) && s.Entries[gone].Index <= index {
		e := s.Entries[gone]
		had = had || e.Index == index && e.Term == term
		gone++
	}
	if !had {
		gone = len(s.Entries)
	}
	s.Index, s.Term, s.Entries = index, term, s.Entries[gone:]
}

func copyState(s State) State {
	var own []api.Entry
	for _, e := range s.Entries {
		own = append(own, copyEntry(e))
	}
	s.Entries = own
	return s
}

// copyEntry: with lists of its own.
func copyEntry(e api.Entry) api.Entry {
	e.Conf.Voters = slices.Clone(e.Conf.Voters)
	e.Conf.Learners = slices.Clone(e.Conf.Learners)
	return e
}
