package rlog

import (
	"slices"

	"corbel/api"
	"corbel/entry"
)

// follow: may entries stand behind one of that Index and Term, one behind the other?
func follow(index, term int, l []api.Entry) bool {
	for _, e := range l {
		if !entry.Good(e) || e.Index-1 != index || e.Term < term {
			return false
		}
		index, term = e.Index, e.Term
	}
	return true
}

// copyAll: entries in memory of their own.
func copyAll(l []api.Entry) []api.Entry {
	own := make([]api.Entry, len(l))
	for i, e := range l {
		own[i] = copyEntry(e)
	}
	return own
}

// copyEntry: with lists of its own.
func copyEntry(e api.Entry) api.Entry {
	e.Conf.Voters = slices.Clone(e.Conf.Voters)
	e.Conf.Learners = slices.Clone(e.Conf.Learners)
	return e
}
