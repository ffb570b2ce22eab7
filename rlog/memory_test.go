package rlog_test

import (
	"math"
	"runtime"
	"slices"
	"strings"
	"testing"

	"corbel/api"
	"corbel/rlog"
)

// fill writes over a list, and over the room behind it.
func fill[T any](l []T, x T) {
	l = l[:cap(l)]
	for i := range l {
		l[i] = x
	}
}

// spoil writes over entries, with their lists and the room behind them.
func spoil(l []api.Entry) {
	for _, e := range l {
		spoilConf(e.Conf)
	}
	fill(l, noop(77, 77))
}

func spoilConf(c api.Conf) {
	fill(c.Voters, -7)
	fill(c.Learners, -7)
}

// kinds: entries behind a base, some of which have lists.
func kinds(index, term int) []api.Entry {
	return []api.Entry{members(index+1, term, 1, 2), put(index+2, term, "x"), members(index+3, term, 1, 2, 3), noop(index+4, term)}
}

// roomy: the same, with room behind each list; what stands in the room is told by untouched.
func roomy(index, term int) []api.Entry {
	l := append(kinds(index, term), noop(55, 55))[:4]
	for i, e := range l {
		l[i].Conf.Voters = append(slices.Clone(e.Conf.Voters), 77)[:len(e.Conf.Voters)]
		l[i].Conf.Learners = append(slices.Clone(e.Conf.Learners), 78)[:len(e.Conf.Learners)]
	}
	return l
}

func untouched(t *testing.T, l []api.Entry, index, term int) {
	t.Helper()
	are(t, "what was handed in", l, kinds(index, term))
	are(t, "the room behind it", l[4:5], []api.Entry{noop(55, 55)})
	for _, e := range l {
		v, w := e.Conf.Voters, e.Conf.Learners
		is(t, "the room behind Voters", v[:len(v)+1][len(v)], 77)
		is(t, "the room behind Learners", w[:len(w)+1][len(w)], 78)
	}
}

// TestNothingIsKept: R3: what was handed in is as it was, and may be changed behind the call.
func TestNothingIsKept(t *testing.T) {
	given := roomy(0, 1)
	l := made(t, 0, 0, given...)
	untouched(t, given, 0, 1)
	spoil(given)
	are(t, "all entries", all(l), kinds(0, 1))
	given = roomy(4, 1)
	is(t, "Append", l.Append(given[0]), api.OK)
	untouched(t, given, 4, 1)
	spoil(given)
	are(t, "all entries", all(l), append(kinds(0, 1), kinds(4, 1)[0]))
	given = roomy(3, 2)
	matches(t, l, 3, 1, given, 7)
	untouched(t, given, 3, 2)
	spoil(given)
	are(t, "all entries", all(l), append(kinds(0, 1)[:3], kinds(3, 2)...))
	given = roomy(7, 2)
	matches(t, l, 7, 2, given, 11)
	refuses(t, l, 12, 2, given)
	untouched(t, given, 7, 2)
	spoil(given)
	is(t, "Commit", l.Commit(11), true)
	are(t, "Apply", l.Apply(math.MaxInt), slices.Concat(kinds(0, 1)[:3], kinds(3, 2), kinds(7, 2)))
}

// TestAnswersAreNew: R3: an answer may be written over, its room too; neither the log nor another answer changes, nor another list of the same one.
func TestAnswersAreNew(t *testing.T) {
	want := append(kinds(0, 1), kinds(4, 1)...)
	for _, ask := range []func(l *rlog.Log) []api.Entry{
		func(l *rlog.Log) []api.Entry { return l.Slice(1, 8) },
		func(l *rlog.Log) []api.Entry { return l.Slice(3, 3) },
		func(l *rlog.Log) []api.Entry { return l.Unsure() },
		func(l *rlog.Log) []api.Entry { return l.Apply(2) },
		func(l *rlog.Log) []api.Entry { return l.Apply(9) },
	} {
		l := made(t, 0, 0, kinds(0, 1)...)
		matches(t, l, 4, 1, kinds(4, 1), 8)
		other := all(l)
		is(t, "Commit", l.Commit(8), true)
		got := ask(l)
		apart(t, got)
		spoil(got)
		are(t, "all entries", all(l), want)
		are(t, "Unsure", l.Unsure(), want[4:])
		are(t, "another answer", other, want)
		spoil(other)
		are(t, "all entries", all(l), want)
	}
}

// apart: no two lists of the entries share memory.
func apart(t *testing.T, l []api.Entry) {
	t.Helper()
	want := make([]api.Entry, len(l))
	for i, e := range l {
		want[i] = e
		want[i].Conf.Voters, want[i].Conf.Learners = slices.Clone(e.Conf.Voters), slices.Clone(e.Conf.Learners)
	}
	for i := range l {
		fill(l[i].Conf.Voters, -7)
		is(t, "Learners", slices.Equal(l[i].Conf.Learners, want[i].Conf.Learners), true)
		fill(l[i].Conf.Learners, -7)
		are(t, "the others", l[i+1:], want[i+1:])
	}
}

// TestConfIsNew: R3, of members.
func TestConfIsNew(t *testing.T) {
	l := made(t, 0, 0, kinds(0, 1)...)
	c, _ := l.Conf()
	d, _ := l.Conf()
	spoilConf(c)
	is(t, "Voters", slices.Equal(d.Voters, []int{1, 2, 3}), true)
	fill(d.Voters, -7)
	is(t, "Learners", slices.Equal(d.Learners, []int{9}), true)
	are(t, "all entries", all(l), kinds(0, 1))
}

// TestNilIsEmpty: as lists of entries, and of members.
func TestNilIsEmpty(t *testing.T) {
	empty := noop(1, 1)
	empty.Conf = api.Conf{Voters: []int{}, Learners: []int{}}
	l := made(t, 0, 0, empty)
	matches(t, l, 0, 0, noops(0, 1), 1)
	matches(t, l, 1, 1, []api.Entry{}, 1)
	matches(t, l, 1, 1, nil, 1)
	are(t, "all entries", all(l), noops(0, 1))
	empty.Index = 2
	is(t, "Append", l.Append(empty), api.OK)
	are(t, "all entries", all(l), noops(0, 1, 1))
}

// held: how many bytes are held behind this.
func held() int {
	var m runtime.MemStats
	runtime.GC()
	runtime.GC()
	runtime.ReadMemStats(&m)
	return int(m.HeapAlloc)
}

// TestWhatGoesIsNotHeld: entries that were compacted, restored away or cut are no longer held.
func TestWhatGoesIsNotHeld(t *testing.T) {
	const many, size = 20000, 200
	for what, goes := range map[string]func(l *rlog.Log) int{
		"compacted at once":   atOnce(many - 1),
		"all at once":         atOnce(many),
		"compacted in steps":  steps(many - 1),
		"compacted wholly":    steps(many),
		"compacted in part":   steps(many / 5),
		"restored":            func(l *rlog.Log) int { l.Restore(5, 5); return many },
		"cut by another term": func(l *rlog.Log) int { l.Match(2, 1, noops(2, 9)); return many - 2 },
	} {
		was := held()
		l := made(t, 0, 0)
		for i := 1; i <= many; i++ {
			l.Append(put(i, 1, strings.Repeat("x", size)))
		}
		full := held() - was
		if full < many*size {
			t.Fatalf("%s: %d bytes are held ahead of it", what, full)
		}
		gone := goes(l)
		if left := held() - was; left > full-gone*size || gone >= many-2 && left > many*size/10 {
			t.Errorf("%s: %d bytes of %d are still held", what, left, full)
		}
		runtime.KeepAlive(l)
	}
}

// atOnce: so many are applied and compacted.
func atOnce(to int) func(l *rlog.Log) int {
	return func(l *rlog.Log) int {
		l.Commit(to)
		l.Sure(to)
		l.Apply(to)
		l.Compact(to)
		return to
	}
}

// steps: the same, one by one.
func steps(to int) func(l *rlog.Log) int {
	return func(l *rlog.Log) int {
		l.Commit(to)
		l.Sure(to)
		for i := 1; i <= to; i++ {
			l.Apply(1)
			l.Compact(i)
		}
		return to
	}
}
