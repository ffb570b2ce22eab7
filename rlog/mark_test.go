package rlog_test

import (
	"math"
	"testing"

	"corbel/api"
	"corbel/rlog"
)

// longer: base 5, then two sure entries and three that are not.
func longer(t *testing.T) *rlog.Log {
	t.Helper()
	l := made(t, 5, 2, noops(5, 2, 3)...)
	matches(t, l, 7, 3, noops(7, 3, 4, 4), 10)
	return l
}

// TestCommit: above what is committed, and at most the last, sure or not.
func TestCommit(t *testing.T) {
	for _, first := range []int{6, 7, 8, 10} {
		for _, i := range append([]int{6, 7, 8, 9, 10, 11}, ends...) {
			l := longer(t)
			is(t, "Committed", l.Committed(), 5)
			is(t, "Commit", l.Commit(first), true)
			is(t, "Committed", l.Committed(), first)
			did := i > first && i <= 10
			is(t, "Commit", l.Commit(i), did)
			if did {
				is(t, "Committed", l.Committed(), i)
			} else {
				is(t, "Committed", l.Committed(), first)
			}
			is(t, "Applied", l.Applied(), 5)
			is(t, "Stable", l.Stable(), 7)
		}
	}
	for _, i := range ends {
		l := made(t, 5, 2)
		is(t, "Commit", l.Commit(i), false)
		is(t, "Committed", l.Committed(), 5)
	}
}

// TestSure: never fewer than were, never more than there are.
func TestSure(t *testing.T) {
	for _, i := range append([]int{6, 7, 8, 9, 10, 11}, ends...) {
		l := longer(t)
		is(t, "Stable", l.Stable(), 7)
		are(t, "Unsure", l.Unsure(), noops(7, 3, 4, 4))
		l.Sure(i)
		want := max(7, min(10, i))
		is(t, "Stable", l.Stable(), want)
		are(t, "Unsure", l.Unsure(), noops(5, 2, 3, 3, 4, 4)[want-5:])
		are(t, "Unsure again", l.Unsure(), noops(5, 2, 3, 3, 4, 4)[want-5:])
		is(t, "Committed", l.Committed(), 5)
		l.Sure(8)
		is(t, "Stable", l.Stable(), max(8, want))
	}
	l := made(t, 5, 2)
	for _, i := range ends {
		l.Sure(i)
		is(t, "Stable", l.Stable(), 5)
	}
	is(t, "Append", l.Append(noop(6, 2)), api.OK)
	is(t, "Stable", l.Stable(), 5)
}

// TestApply: each committed entry once, in order, sure or not.
func TestApply(t *testing.T) {
	for most := 1; most <= 6; most++ {
		l := longer(t)
		want := noops(5, 2, 3, 3, 4, 4)
		are(t, "Apply", l.Apply(most), nil)
		l.Commit(7)
		are(t, "Apply", l.Apply(most), want[:min(2, most)])
		is(t, "Applied", l.Applied(), 5+min(2, most))
		l.Apply(2)
		are(t, "Apply", l.Apply(most), nil)
		is(t, "Applied", l.Applied(), 7)
		l.Commit(10)
		for done := 2; done < 5; done += most {
			are(t, "Apply", l.Apply(most), want[done:min(5, done+most)])
			is(t, "Applied", l.Applied(), min(10, 5+done+most))
		}
		are(t, "Apply", l.Apply(most), nil)
		is(t, "Stable", l.Stable(), 7)
		is(t, "Committed", l.Committed(), 10)
	}
	l := longer(t)
	l.Commit(8)
	for _, most := range []int{math.MinInt, -1, 0} {
		are(t, "Apply", l.Apply(most), nil)
		is(t, "Applied", l.Applied(), 5)
	}
	are(t, "Apply", l.Apply(math.MaxInt), noops(5, 2, 3, 3))
	is(t, "Applied", l.Applied(), 8)
}

// TestApplyKinds: entries come whole.
func TestApplyKinds(t *testing.T) {
	want := []api.Entry{put(1, 1, "x"), members(2, 1, 1, 2), noop(3, 2)}
	l := made(t, 0, 0, want...)
	l.Commit(3)
	are(t, "Apply", l.Apply(2), want[:2])
	are(t, "Apply", l.Apply(2), want[2:])
}
