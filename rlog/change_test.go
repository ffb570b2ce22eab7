package rlog_test

import (
	"math"
	"testing"

	"corbel/api"
	"corbel/rlog"
)

// matches: a leader's entries are taken, up to that one.
func matches(t *testing.T, l *rlog.Log, index, term int, es []api.Entry, want int) {
	t.Helper()
	if i, right := l.Match(index, term, es); i != want || !right {
		t.Fatalf("Match(%d, %d, %s): %d, %t, want %d, true", index, term, show(es), i, right, want)
	}
}

// refuses: a leader's entries are not taken, and nothing has changed.
func refuses(t *testing.T, l *rlog.Log, index, term int, es []api.Entry) {
	t.Helper()
	was, stable, first := all(l), l.Stable(), baseOf(l)
	if i, right := l.Match(index, term, es); i != 0 || right {
		t.Fatalf("Match(%d, %d, %s): %d, %t, want 0, false", index, term, show(es), i, right)
	}
	are(t, "all entries", all(l), was)
	is(t, "Stable", l.Stable(), stable)
	is(t, "Base", baseOf(l), first)
}

// all: the log's entries.
func all(l *rlog.Log) []api.Entry { return l.Slice(baseOf(l)+1, math.MaxInt) }

func baseOf(l *rlog.Log) int {
	index, _ := l.Base()
	return index
}

// TestAppend: each kind, in the last one's term or a later one; it isn't sure, and nothing else has changed.
func TestAppend(t *testing.T) {
	l := made(t, 5, 2)
	want := []api.Entry{noop(6, 2), put(7, 2, "x"), members(8, 3, 1, 2), noop(9, 3), noop(10, math.MaxInt), put(11, math.MaxInt, "y")}
	for i, e := range want {
		is(t, "Append", l.Append(e), api.OK)
		last(t, l, e.Index, e.Term)
		are(t, "all entries", all(l), want[:i+1])
		are(t, "Unsure", l.Unsure(), want[:i+1])
	}
	is(t, "Stable", l.Stable(), 5)
	is(t, "Committed", l.Committed(), 5)
	is(t, "Applied", l.Applied(), 5)
}

// TestAppendOfNone: ErrArg, and nothing has changed.
func TestAppendOfNone(t *testing.T) {
	for _, l := range []*rlog.Log{made(t, 7, 3), made(t, 5, 2, noops(5, 2, 3)...)} {
		was := all(l)
		wrong := bad(8)
		for i := range wrong {
			wrong[i].Term = min(wrong[i].Term, 1) * 3
		}
		for _, n := range ends {
			wrong = append(wrong, noop(n, 3))
			if n < 3 {
				wrong = append(wrong, noop(8, n))
			}
		}
		wrong = append(wrong, api.Entry{}, noop(6, 3), noop(7, 3), noop(9, 3), put(8, 2, "x"), members(8, 1, 1))
		for _, e := range wrong {
			is(t, "Append of "+show([]api.Entry{e}), l.Append(e), api.ErrArg)
			last(t, l, 7, 3)
			are(t, "all entries", all(l), was)
			are(t, "Unsure", l.Unsure(), nil)
		}
		is(t, "Append", l.Append(noop(8, 3)), api.OK)
	}
}

// TestAppendFar: an entry may stand above the greatest base.
func TestAppendFar(t *testing.T) {
	l := made(t, 1<<40, 1)
	is(t, "Append", l.Append(noop(1<<40+1, 1)), api.OK)
	matches(t, l, 1<<40+1, 1, noops(1<<40+1, 2, 2), 1<<40+3)
	is(t, "Commit", l.Commit(1<<40+3), true)
	l.Sure(math.MaxInt)
	are(t, "Apply", l.Apply(math.MaxInt), noops(1<<40, 1, 2, 2))
	is(t, "Compact", l.Compact(1<<40+2), true)
	base(t, l, 1<<40+2, 2)
	are(t, "all entries", all(l), noops(1<<40+2, 2))
}

// TestMatch: what is there stays, what is not is put behind, what is another's goes.
func TestMatch(t *testing.T) {
	for _, c := range []struct {
		index, term int
		es          []api.Entry
		want        int
		then        []int // terms
		stable      int
	}{
		{5, 2, nil, 5, []int{2, 3, 3, 4}, 9},
		{7, 3, nil, 7, []int{2, 3, 3, 4}, 9},
		{9, 4, []api.Entry{}, 9, []int{2, 3, 3, 4}, 9},
		{9, 4, noops(9, 4), 10, []int{2, 3, 3, 4, 4}, 9},
		{9, 4, noops(9, 5, 6, 6), 12, []int{2, 3, 3, 4, 5, 6, 6}, 9},
		{5, 2, noops(5, 2), 6, []int{2, 3, 3, 4}, 9},
		{5, 2, noops(5, 2, 3, 3), 8, []int{2, 3, 3, 4}, 9},
		{5, 2, noops(5, 2, 3, 3, 4), 9, []int{2, 3, 3, 4}, 9},
		{5, 2, noops(5, 2, 3, 3, 4, 4), 10, []int{2, 3, 3, 4, 4}, 9},
		{7, 3, noops(7, 3, 4, 9), 10, []int{2, 3, 3, 4, 9}, 9},
		{8, 3, noops(8, 5), 9, []int{2, 3, 3, 5}, 8},
		{8, 3, noops(8, 3), 9, []int{2, 3, 3, 3}, 8},
		{7, 3, noops(7, 4), 8, []int{2, 3, 4}, 7},
		{7, 3, noops(7, 4, 4), 9, []int{2, 3, 4, 4}, 7}, // the second one has the term of what was there
		{7, 3, noops(7, 4, 4, 4, 5), 11, []int{2, 3, 4, 4, 4, 5}, 7},
		{5, 2, noops(5, 2, 3, 7), 8, []int{2, 3, 7}, 7},
		{5, 2, noops(5, 3), 6, []int{3}, 5},
		{5, 2, noops(5, 3, 3, 3, 4), 9, []int{3, 3, 3, 4}, 5},
		{5, 2, noops(5, 2, 2, 2, 2, 2), 10, []int{2, 2, 2, 2, 2}, 6},
	} {
		l := made(t, 5, 2, noops(5, 2, 3, 3, 4)...)
		matches(t, l, c.index, c.term, c.es, c.want)
		want := noops(5, c.then...)
		are(t, "all entries", all(l), want)
		is(t, "Stable", l.Stable(), c.stable)
		are(t, "Unsure", l.Unsure(), want[c.stable-5:])
		is(t, "Committed", l.Committed(), 5)
		matches(t, l, c.index, c.term, c.es, c.want)
		are(t, "all entries", all(l), want)
	}
}

// TestMatchLeavesWhatIsThere: what has the Index and Term is not put once more, even if the rest of it is another.
func TestMatchLeavesWhatIsThere(t *testing.T) {
	l := made(t, 0, 0, put(1, 1, "a"), put(2, 1, "b"))
	matches(t, l, 0, 0, []api.Entry{put(1, 1, "x"), noop(2, 1), put(3, 1, "c")}, 3)
	are(t, "all entries", all(l), []api.Entry{put(1, 1, "a"), put(2, 1, "b"), put(3, 1, "c")})
	matches(t, l, 1, 1, []api.Entry{put(2, 2, "y"), members(3, 2, 4)}, 3)
	are(t, "all entries", all(l), []api.Entry{put(1, 1, "a"), put(2, 2, "y"), members(3, 2, 4)})
}

// TestMatchOfNone: the entry ahead isn't there or is another's, or the entries are none that may follow.
func TestMatchOfNone(t *testing.T) {
	l := made(t, 5, 2, noops(5, 2, 3, 3, 4)...)
	for _, index := range append(ends, 4, 10, 11) {
		for _, term := range append(ends, 2, 3, 4) {
			if index == 5 && term == 2 {
				continue
			}
			refuses(t, l, index, term, nil)
			if index < math.MaxInt {
				refuses(t, l, index, term, noops(index, max(1, term)))
			}
		}
	}
	for _, c := range [][2]int{{5, 1}, {5, 3}, {6, 1}, {6, 3}, {7, 2}, {7, 4}, {9, 3}, {9, 5}, {9, 0}, {4, 2}, {0, 0}, {10, 4}} {
		refuses(t, l, c[0], c[1], nil)
		refuses(t, l, c[0], c[1], noops(c[0], 9))
	}
	for _, es := range [][]api.Entry{
		noops(8, 4), noops(6, 3), noops(0, 3), {{}},
		noops(7, 2), noops(7, 3, 4, 3), noops(7, 9, 8),
		append(noops(7, 3), noop(10, 4)), append(noops(7, 3), noop(8, 4)), append(noops(7, 3, 4), noop(11, 4)), append(noops(7, 3), noop(math.MaxInt, 4)), {noop(math.MinInt, 4)},
	} {
		refuses(t, l, 7, 3, es)
	}
	for _, e := range bad(8) {
		e.Term *= 3
		refuses(t, l, 7, 3, []api.Entry{e})
		refuses(t, l, 7, 3, []api.Entry{e, noop(9, 4)})
		refuses(t, l, 6, 2, []api.Entry{noop(7, 3), e})
	}
}

// TestMatchOfCommitted: a conflict at or below what is committed is refused, all of it; one above is not.
func TestMatchOfCommitted(t *testing.T) {
	for committed := 5; committed <= 9; committed++ {
		for conflict := 6; conflict <= 9; conflict++ {
			l := made(t, 5, 2, noops(5, 2, 3, 3, 4)...)
			is(t, "Commit", l.Commit(committed), committed > 5)
			es := append(l.Slice(6, conflict-6), noops(conflict-1, 7, 7, 7, 7, 7)...)
			if conflict > committed {
				matches(t, l, 5, 2, es, conflict+4)
				are(t, "all entries", all(l), es)
			} else {
				refuses(t, l, 5, 2, es)
			}
			is(t, "Committed", l.Committed(), committed)
			term, _ := l.Term(committed)
			is(t, "its Term", term, []int{2, 2, 3, 3, 4}[committed-5])
		}
	}
}

// TestMatchOfUnsure: what was not sure still isn't, and what was sure ahead of the conflict is.
func TestMatchOfUnsure(t *testing.T) {
	for sure := 5; sure <= 9; sure++ {
		l := made(t, 5, 2)
		matches(t, l, 5, 2, noops(5, 2, 3, 3, 4), 9)
		is(t, "Stable", l.Stable(), 5)
		l.Sure(sure)
		matches(t, l, 7, 3, noops(7, 5, 5, 5), 10)
		is(t, "Stable", l.Stable(), min(sure, 7))
		are(t, "Unsure", l.Unsure(), noops(5, 2, 3, 5, 5, 5)[min(sure, 7)-5:])
	}
}

// TestCompact: up to what is applied and sure, the lesser of them.
func TestCompact(t *testing.T) {
	for applied := 5; applied <= 9; applied++ {
		for sure := 5; sure <= 9; sure++ {
			for _, i := range append([]int{6, 7, 8, 9, 10}, ends...) {
				l := made(t, 5, 1)
				matches(t, l, 5, 1, noops(5, 2, 3, 3, 4), 9)
				l.Commit(9)
				l.Apply(applied - 5)
				l.Sure(sure)
				if i <= 5 || i > applied || i > sure {
					is(t, "Compact", l.Compact(i), false)
					base(t, l, 5, 1)
					are(t, "all entries", all(l), noops(5, 2, 3, 3, 4))
					continue
				}
				is(t, "Compact", l.Compact(i), true)
				base(t, l, i, []int{2, 3, 3, 4}[i-6])
				last(t, l, 9, 4)
				are(t, "all entries", all(l), noops(5, 2, 3, 3, 4)[i-5:])
				is(t, "Committed", l.Committed(), 9)
				is(t, "Applied", l.Applied(), applied)
				is(t, "Stable", l.Stable(), sure)
				is(t, "Compact again", l.Compact(i), false)
				_, err := l.Term(i - 1)
				is(t, "Term", err, api.ErrGone)
				are(t, "Apply", l.Apply(9), noops(5, 2, 3, 3, 4)[applied-5:])
			}
		}
	}
}

// TestCompactAndGoOn: a long log that is cut again and again, in small and in great steps.
func TestCompactAndGoOn(t *testing.T) {
	l, p := made(t, 0, 0), plainNew(0, 0, nil)
	for i := 1; i <= 600; i++ {
		e := put(i, 1+i/50, "x")
		is(t, "Append", l.Append(e), p.append(e))
		l.Commit(i)
		p.commit(i)
		l.Sure(i)
		p.makeSure(i)
		are(t, "Apply", l.Apply(1), p.apply(1))
		if i%7 == 0 {
			is(t, "Compact", l.Compact(i-i%40), p.compact(i-i%40))
		}
		are(t, "all entries", all(l), p.slice(p.base+1, 1000))
	}
	alike(t, l, p)
	for i := baseOf(l) + 1; i <= 600; i++ {
		is(t, "Compact", l.Compact(i), p.compact(i))
		alike(t, l, p)
	}
	is(t, "Append", l.Append(noop(601, 13)), api.OK)
	are(t, "all entries", all(l), noops(600, 13))
}

// TestRestore: whatever was there, the log is empty behind its new base.
func TestRestore(t *testing.T) {
	for _, index := range []int{1, 4, 5, 6, 8, 9, 20, 1<<40 - 1, 1 << 40} {
		for _, term := range []int{1, 2, 9, math.MaxInt} {
			l := made(t, 5, 2, noops(5, 2, 3, 3, 4)...)
			is(t, "Append", l.Append(members(10, 5, 1)), api.OK)
			l.Commit(8)
			l.Apply(2)
			l.Restore(index, term)
			alike(t, l, plainNew(index, term, nil))
			is(t, "Append", l.Append(noop(index+1, term)), api.OK)
			is(t, "Stable", l.Stable(), index)
		}
	}
}

// TestRestoreOfNone: nothing is done.
func TestRestoreOfNone(t *testing.T) {
	l := made(t, 5, 2, noops(5, 2, 3)...)
	l.Commit(6)
	for _, n := range []int{math.MinInt, -1, 0, 1<<40 + 1, math.MaxInt} {
		l.Restore(n, 1)
		l.Restore(n, 0)
		if n < 1 {
			l.Restore(9, n)
		}
		base(t, l, 5, 2)
		last(t, l, 7, 3)
		are(t, "all entries", all(l), noops(5, 2, 3))
		is(t, "Committed", l.Committed(), 6)
		is(t, "Stable", l.Stable(), 7)
	}
}

// TestCutIsNotWrittenOver: what stands behind a cut stays as it is in memory, for whoever still has it: a copy of the log, made ahead of the cut.
func TestCutIsNotWrittenOver(t *testing.T) {
	l := made(t, 0, 0, noops(0, 1, 1, 1)...)
	is(t, "Append", l.Append(noop(4, 1)), api.OK)
	was := *l
	matches(t, l, 1, 1, noops(1, 2), 2)
	is(t, "Append", l.Append(noop(3, 2)), api.OK)
	is(t, "Append", l.Append(noop(4, 3)), api.OK)
	are(t, "the copy's entries", all(&was), noops(0, 1, 1, 1, 1))
	are(t, "all entries", all(l), noops(0, 1, 2, 2, 3))
}
