package rlog_test

import (
	"math"
	"testing"

	"corbel/api"
	"corbel/entry"
	"corbel/rlog"
)

// TestNoCallMade: R5: it answers zeros and ErrMade, whatever it is given, and is as it was.
func TestNoCallMade(t *testing.T) {
	for _, l := range []*rlog.Log{nil, {}} {
		for range 2 {
			answersNothing(t, l)
			for _, a := range ends {
				for _, b := range ends {
					l.Restore(a, b)
					l.Sure(a)
					is(t, "Commit", l.Commit(a), false)
					is(t, "Compact", l.Compact(a), false)
					is(t, "Newer", l.Newer(a, b), false)
					is(t, "Hint", l.Hint(a, b), 0)
					are(t, "Slice", l.Slice(a, b), nil)
					are(t, "Apply", l.Apply(a), nil)
					is(t, "Append", l.Append(noop(a, b)), api.ErrMade)
					for _, es := range [][]api.Entry{nil, noops(0, 1), {noop(a, b)}, {{}}} {
						i, right := l.Match(a, b, es)
						is(t, "Match", i, 0)
						is(t, "Match", right, false)
					}
				}
				term, err := l.Term(a)
				is(t, "Term", term, 0)
				is(t, "Term", err, api.ErrMade)
			}
		}
	}
}

// answersNothing: what has no arguments.
func answersNothing(t *testing.T, l *rlog.Log) {
	t.Helper()
	base(t, l, 0, 0)
	last(t, l, 0, 0)
	is(t, "Committed", l.Committed(), 0)
	is(t, "Stable", l.Stable(), 0)
	is(t, "Applied", l.Applied(), 0)
	are(t, "Unsure", l.Unsure(), nil)
	if c, at := l.Conf(); !entry.SameConf(c, api.Conf{}) || at != 0 {
		t.Fatalf("Conf: %v, %d", c, at)
	}
}

// TestEnds: R1, R6: numbers at their ends, against the chapter's words, on logs at the ends of what may be.
func TestEnds(t *testing.T) {
	for _, index := range []int{0, 3, 1<<40 - 1, 1 << 40} {
		for _, term := range []int{0, 1, math.MaxInt - 2} {
			es := []api.Entry{noop(index+1, term+1), members(index+2, term+1, 1), put(index+3, term+2, "x")}
			for _, a := range append([]int{index + 1, index + 2, index + 3, index + 4}, ends...) {
				for _, b := range append([]int{term, term + 1, term + 2}, ends...) {
					l, p := made(t, index, term, es...), plainNew(index, term, es)
					is(t, "Newer", l.Newer(a, b), p.newer(a, b))
					is(t, "Hint", l.Hint(a, b), p.hint(a, b))
					are(t, "Slice", l.Slice(a, b), p.slice(a, b))
					is(t, "Append", l.Append(noop(a, b)), p.append(noop(a, b)))
					i, right := l.Match(a, b, []api.Entry{noop(a, b)})
					want, wanted := p.match(a, b, []api.Entry{noop(a, b)})
					is(t, "Match", i, want)
					is(t, "Match", right, wanted)
					is(t, "Commit", l.Commit(a), p.commit(a))
					are(t, "Apply", l.Apply(b), p.apply(b))
					is(t, "Compact", l.Compact(a), p.compact(a))
					l.Restore(a, b)
					p.restore(a, b)
					is(t, "Applied", l.Applied(), p.applied)
					is(t, "Stable", l.Stable(), p.stable())
					base(t, l, p.base, p.baseTerm)
				}
			}
		}
	}
}
