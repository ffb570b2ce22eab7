package rlog_test

import (
	"math"
	"testing"

	"corbel/api"
	"corbel/entry"
	"corbel/rlog"
)

// ends: numbers at their ends and at the edges that the chapter names.
var ends = []int{math.MinInt, math.MinInt + 1, -1 << 40, -2, -1, 0, 1, 2, 3, 4, 5, 1<<40 - 1, 1 << 40, 1<<40 + 1, math.MaxInt - 1, math.MaxInt}

// bad: each is no good entry at its index, behind term 1.
func bad(index int) []api.Entry {
	e := noop(index, 1)
	noTerm, noKind, highKind, full, named, wrong, empty, voter := e, e, e, e, e, put(index, 1, "x"), members(index, 1), members(index, 1, 10)
	noTerm.Term, noKind.Kind, highKind.Kind = 0, 0, 4
	full.Command = api.Command{Kind: api.CmdPut}
	named.Conf = api.Conf{Voters: []int{1}}
	wrong.Command.Session = 0
	return []api.Entry{noTerm, noKind, highKind, full, named, wrong, empty, voter}
}

// TestExample: entries 1 to 3 of term 1; Match(2, 1, entry 3 of term 2): true, 3: the third one is that. Hint(9, 1): 3.
func TestExample(t *testing.T) {
	l := made(t, 0, 0, noops(0, 1, 1, 1)...)
	is(t, "Hint", l.Hint(9, 1), 3)
	matches(t, l, 2, 1, noops(2, 2), 3)
	are(t, "Slice", l.Slice(1, 9), noops(0, 1, 1, 2))
	is(t, "Hint", l.Hint(9, 1), 2)
}

// TestNew: all entries are sure; committed and applied is the base.
func TestNew(t *testing.T) {
	for _, index := range []int{0, 1, 7, 1<<40 - 1, 1 << 40} {
		for _, term := range []int{0, 1, 3, 1 << 50} {
			for _, es := range [][]api.Entry{nil, {}, noops(index, term+1), noops(index, max(1, term), term+1, term+1, term+5), {put(index+1, term+1, "x"), members(index+2, term+1, 1, 2)}} {
				l := made(t, index, term, es...)
				base(t, l, index, term)
				is(t, "Committed", l.Committed(), index)
				is(t, "Applied", l.Applied(), index)
				is(t, "Stable", l.Stable(), index+len(es))
				are(t, "Unsure", l.Unsure(), nil)
				are(t, "Slice", l.Slice(index+1, math.MaxInt), es)
				are(t, "Apply", l.Apply(9), nil)
				if len(es) == 0 {
					last(t, l, index, term)
				} else {
					last(t, l, index+len(es), es[len(es)-1].Term)
				}
			}
		}
	}
}

// TestNewOfNone: one thing is wrong in each.
func TestNewOfNone(t *testing.T) {
	none := func(index, term int, es []api.Entry) {
		t.Helper()
		if rlog.New(index, term, es) != nil {
			t.Errorf("New(%d, %d, %s) is one", index, term, show(es))
		}
	}
	for _, n := range []int{math.MinInt, -2, -1} {
		none(n, 1, nil)
		none(1, n, nil)
		none(n, n, nil)
		none(n, 1, noops(n, 1))
	}
	for _, n := range []int{1<<40 + 1, math.MaxInt - 1, math.MaxInt} {
		none(n, 1, nil)
		none(n, 1, noops(n, 1))
	}
	none(0, 0, []api.Entry{{}})
	none(0, 0, noops(1, 1))
	none(1, 1, noops(0, 1))
	none(5, 1, noops(4, 1, 1))
	none(5, 1, noops(6, 1))
	none(5, 3, noops(5, 2))
	none(5, math.MaxInt, noops(5, math.MaxInt-1))
	none(0, 0, append(noops(0, 1, 2), noop(2, 2)))
	none(0, 0, append(noops(0, 1, 2), noop(4, 2)))
	none(0, 0, append(noops(0, 1, 2), noop(1, 2)))
	none(0, 0, noops(0, 1, 3, 2))
	none(0, 0, noops(0, 1, 3, 3, 1))
	none(0, 0, append(noops(0, 1), noop(math.MinInt, 1)))
	none(0, 0, append(noops(0, 1), noop(math.MaxInt, 1)))
	for _, e := range bad(3) {
		none(2, 0, []api.Entry{e})
		none(0, 0, append(noops(0, 1, 1), e))
		none(0, 0, append(append(noops(0, 1, 1), e), noop(4, 1)))
	}
}

// TestTerm: of the base and of each entry; ErrGone below, also below 0, and ErrRange above.
func TestTerm(t *testing.T) {
	l := made(t, 5, 2, noops(5, 2, 3, 3, 7)...)
	for i, want := range map[int]int{5: 2, 6: 2, 7: 3, 8: 3, 9: 7} {
		term, err := l.Term(i)
		is(t, "Term", term, want)
		is(t, "Term's error", err, api.OK)
	}
	for i, want := range map[int]api.Errno{math.MinInt: api.ErrGone, -1: api.ErrGone, 0: api.ErrGone, 1: api.ErrGone, 4: api.ErrGone, 10: api.ErrRange, 11: api.ErrRange, math.MaxInt: api.ErrRange} {
		term, err := l.Term(i)
		is(t, "Term", term, 0)
		is(t, "Term's error", err, want)
	}
}

// TestSlice: from above the base on, as many as there are, and no more than asked for.
func TestSlice(t *testing.T) {
	all := []api.Entry{noop(6, 2), put(7, 3, "x"), members(8, 3, 1, 2), noop(9, 7)}
	l := made(t, 5, 2, all...)
	for from := 6; from <= 9; from++ {
		for most := 1; most <= 6; most++ {
			are(t, "Slice", l.Slice(from, most), all[from-6:min(4, from-6+most)])
		}
		are(t, "Slice", l.Slice(from, math.MaxInt), all[from-6:])
		for _, most := range []int{math.MinInt, -1, 0} {
			are(t, "Slice", l.Slice(from, most), nil)
		}
	}
	for _, from := range []int{math.MinInt, -1, 0, 1, 4, 5, 10, 11, math.MaxInt} {
		for _, most := range ends {
			are(t, "Slice", l.Slice(from, most), nil)
		}
	}
}

// TestNewer: by the last entry's term, then by its index.
func TestNewer(t *testing.T) {
	l := made(t, 5, 2, noops(5, 2, 4)...)
	empty := made(t, 7, 4)
	for _, index := range append([]int{6, 7, 8}, ends...) {
		for _, term := range ends {
			want := term > 4 || term == 4 && index >= 7
			is(t, "Newer", l.Newer(index, term), want)
			is(t, "Newer", empty.Newer(index, term), want)
		}
	}
}

// TestHint: not above the last entry, down to one whose term is not above, and not below the base.
func TestHint(t *testing.T) {
	l := made(t, 5, 3, noops(5, 3, 4, 4, 6, 6)...)
	for _, c := range [][3]int{
		{10, 6, 10}, {10, 7, 10}, {10, 5, 8}, {10, 4, 8}, {10, 3, 6}, {10, 2, 5}, {10, 0, 5}, {10, math.MinInt, 5},
		{11, 6, 10}, {math.MaxInt, math.MaxInt, 10}, {math.MaxInt, 4, 8}, {math.MaxInt, math.MinInt, 5},
		{9, 6, 9}, {9, 5, 8}, {8, 5, 8}, {8, 4, 8}, {8, 3, 6}, {7, 9, 7}, {7, 3, 6}, {6, 3, 6}, {6, 2, 5}, {5, 3, 5}, {5, 2, 5},
		{4, 3, 5}, {0, 9, 5}, {-1, 0, 5}, {math.MinInt, 3, 5}, {math.MinInt, math.MinInt, 5},
	} {
		is(t, "Hint", l.Hint(c[0], c[1]), c[2])
	}
	empty := made(t, 5, 3)
	for _, index := range ends {
		for _, term := range ends {
			is(t, "Hint", empty.Hint(index, term), 5)
		}
	}
}

// TestConf: that of the last EntryConf, sure and committed or not, and as long as that is there.
func TestConf(t *testing.T) {
	told := func(l *rlog.Log, want api.Conf, where int) {
		t.Helper()
		if c, at := l.Conf(); !entry.SameConf(c, want) || at != where {
			t.Fatalf("Conf: %v, %d, want %v, %d", c, at, want, where)
		}
	}
	none, two, three := api.Conf{}, members(9, 9, 1, 2).Conf, members(9, 9, 1, 2, 3).Conf
	told(made(t, 0, 0), none, 0)
	told(made(t, 4, 1, noop(5, 1), put(6, 1, "x")), none, 0)
	l := made(t, 4, 1, noop(5, 1), members(6, 1, 1, 2), put(7, 1, "x"))
	told(l, two, 6)
	is(t, "Append", l.Append(members(8, 2, 1, 2, 3)), api.OK)
	is(t, "Append", l.Append(noop(9, 2)), api.OK)
	told(l, three, 8)
	matches(t, l, 7, 1, noops(7, 3), 8)
	told(l, two, 6)
	is(t, "Commit", l.Commit(7), true)
	l.Apply(9)
	is(t, "Compact", l.Compact(5), true)
	told(l, two, 6)
	is(t, "Compact", l.Compact(6), true)
	told(l, none, 0)
	is(t, "Append", l.Append(members(9, 3, 1, 2)), api.OK)
	told(l, two, 9)
	l.Restore(4, 1)
	told(l, none, 0)
}
