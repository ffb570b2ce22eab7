package wal_test

import (
	"math"
	"slices"
	"testing"

	"corbel/api"
	"corbel/disk"
	"corbel/wal"
)

// saved: a log of a disk with that segment size, with entries 1 to 3 of term 1 and a hard.
func saved(t *testing.T, d *disk.Disk, segment int) *wal.Wal {
	t.Helper()
	w := opened(t, d, segment, wal.State{})
	ok(t, w.Save(hard(1, 2, 3), noops(0, 1, 3)))
	return w
}

func hard(term, vote, commit int) api.Hard {
	return api.Hard{Term: term, Vote: vote, Commit: commit}
}

// lasts: the log has that state, and so has one that is opened anew.
func lasts(t *testing.T, w *wal.Wal, d *disk.Disk, want wal.State) {
	t.Helper()
	stateIs(t, "State", w.State(), want)
	is(t, "Pending", d.Pending(), 0)
	opened(t, d, maxSegment, want)
}

func TestExample(t *testing.T) {
	d := disk.New(5000)
	w := opened(t, d, 100, wal.State{})
	ok(t, w.Save(hard(1, 0, 0), noops(0, 1, 2)))
	ok(t, w.Save(hard(1, 0, 0), []api.Entry{noop(2, 2)}))
	lasts(t, w, d, wal.State{Hard: hard(1, 0, 0), Entries: []api.Entry{noop(1, 1), noop(2, 2)}})
	ok(t, w.Compact(1, 1))
	lasts(t, w, d, wal.State{Index: 1, Term: 1, Hard: hard(1, 0, 0), Entries: []api.Entry{noop(2, 2)}})
}

func TestOfNone(t *testing.T) {
	for _, w := range []*wal.Wal{nil, {}, new(wal.Wal)} {
		is(t, "Save", w.Save(hard(1, 1, 1), noops(0, 1, 1)), api.ErrMade)
		is(t, "Save of nothing", w.Save(api.Hard{}, nil), api.ErrMade)
		is(t, "Save of what is not good", w.Save(hard(-1, 0, 0), noops(-5, 1, 1)), api.ErrMade)
		is(t, "Compact", w.Compact(0, 0), api.ErrMade)
		is(t, "Compact below 0", w.Compact(-1, 0), api.ErrMade)
		stateIs(t, "State", w.State(), wal.State{})
		segments(t, w)
	}
}

// TestSaveWrites: entries first, then the hard, if it is another one; one Append and one Sync.
func TestSaveWrites(t *testing.T) {
	d := disk.New(99)
	w := opened(t, d, maxSegment, wal.State{})
	want := []byte{}
	save := func(h api.Hard, l []api.Entry, records ...wal.Record) {
		t.Helper()
		ops := d.Ops()
		ok(t, w.Save(h, l))
		if len(records) > 0 {
			ops += 2
		}
		want = append(want, allBytes(records...)...)
		is(t, "Ops", d.Ops(), ops)
		holds(t, d, "wal-1", want)
	}
	save(api.Hard{}, nil)
	save(api.Hard{}, []api.Entry{})
	save(hard(0, 1, 0), nil, ofHard(0, 1, 0))
	save(hard(0, 1, 0), nil)
	save(hard(1, 0, 0), noops(0, 1, 2), ofEntry(noop(1, 1)), ofEntry(noop(2, 1)), ofHard(1, 0, 0))
	save(hard(1, 0, 0), noops(2, 1, 1), ofEntry(noop(3, 1)))
	save(hard(1, 0, 1), noops(1, 1, 1), ofEntry(noop(2, 1)), ofHard(1, 0, 1))
	again := []api.Entry{members(3, 1), noop(3, 2), noop(4, 2), put(3, 3, "v")}
	save(hard(1, 0, 1), again, ofEntry(again[0]), ofEntry(again[1]), ofEntry(again[2]), ofEntry(again[3]))
	save(api.Hard{}, nil, ofHard(0, 0, 0))
	save(api.Hard{}, nil)
	save(hard(math.MaxInt, math.MaxInt, math.MaxInt), nil, ofHard(math.MaxInt, math.MaxInt, math.MaxInt))
	lasts(t, w, d, wal.State{Hard: hard(math.MaxInt, math.MaxInt, math.MaxInt), Entries: []api.Entry{noop(1, 1), noop(2, 1), put(3, 3, "v")}})
}

// TestSaveArg: a record that may not be, the first, the last or between others, and nothing has changed.
func TestSaveArg(t *testing.T) {
	d := disk.New(99)
	w := saved(t, d, 30)
	ok(t, w.Compact(1, 1))
	want := wal.State{Index: 1, Term: 1, Hard: hard(1, 2, 3), Entries: noops(1, 1, 2)}
	b, _ := d.Read("wal-3")
	ops := d.Ops()
	arg := func(what string, h api.Hard, l ...api.Entry) {
		t.Helper()
		is(t, what, w.Save(h, l), api.ErrArg)
		is(t, "Ops", d.Ops(), ops)
		stateIs(t, "State", w.State(), want)
		holds(t, d, "wal-3", b)
	}
	same, other := hard(1, 2, 3), hard(4, 5, 6)
	for _, n := range ends() {
		if n < 0 {
			arg("a hard", hard(n, 2, 3))
			arg("a hard", hard(1, n, 3), noop(4, 1))
			arg("a hard", hard(1, 2, n), noop(4, 1), noop(5, 1))
			arg("an entry's index", same, noop(n, 1))
			arg("an entry's term", same, noop(4, n))
			arg("a later entry's term", other, noop(4, 1), noop(5, n))
			arg("an entry's kind", other, api.Entry{Index: 4, Term: 1, Kind: n})
		}
	}
	for _, h := range []api.Hard{same, other} {
		arg("no entry", h, api.Entry{})
		arg("no term", h, noop(4, 0))
		arg("no members", h, api.Entry{Index: 4, Term: 1, Kind: api.EntryConf})
		arg("no members, the last one", h, noop(4, 1), api.Entry{Index: 5, Term: 1, Kind: api.EntryConf})
		arg("no members, the first one", h, api.Entry{Index: 4, Term: 1, Kind: api.EntryConf}, noop(5, 1))
		arg("a noop with a command", h, api.Entry{Index: 4, Term: 1, Kind: api.EntryNoop, Command: put(1, 1, "v").Command})
		arg("a value too long", h, put(4, 1, string(make([]byte, api.MaxValue+1))))
		arg("at the base", h, noop(1, 1))
		arg("below the base", h, noop(0, 1))
		arg("two behind the last", h, noop(5, 1))
		arg("far behind the last", h, noop(math.MaxInt, 1))
		arg("a gap between", h, noop(4, 1), noop(6, 1))
		arg("a gap behind one that was replaced", h, noop(2, 1), noop(4, 1))
		arg("back to the base", h, noop(4, 1), noop(5, 1), noop(1, 1))
	}
	d.Crash(0)
	is(t, "without power", w.Save(hard(-1, 0, 0), []api.Entry{{}}), api.ErrPower)
}

// TestSaveAtTheEnds: behind a base near the greatest int.
func TestSaveAtTheEnds(t *testing.T) {
	high := math.MaxInt
	d := disk.New(99)
	w := opened(t, d, maxSegment, wal.State{})
	ok(t, w.Compact(high-2, high))
	is(t, "a gap", w.Save(api.Hard{}, []api.Entry{noop(high, 1)}), api.ErrArg)
	ok(t, w.Save(api.Hard{}, []api.Entry{noop(high-1, 1), noop(high, 1)}))
	is(t, "beyond", w.Save(api.Hard{}, []api.Entry{noop(math.MinInt, 1)}), api.ErrArg)
	is(t, "far back", w.Save(api.Hard{}, []api.Entry{noop(1, 1)}), api.ErrArg)
	ok(t, w.Save(api.Hard{}, []api.Entry{noop(high, 2)}))
	lasts(t, w, d, wal.State{Index: high - 2, Term: high, Entries: []api.Entry{noop(high-1, 1), noop(high, 2)}})
	ok(t, w.Compact(high, 2))
	is(t, "behind the last there may be", w.Save(api.Hard{}, []api.Entry{noop(high, 2)}), api.ErrArg)
	lasts(t, w, d, wal.State{Index: high, Term: 2})
}

// TestSaveNextSegment: with just as many bytes as segment says there is none; with one more there is.
func TestSaveNextSegment(t *testing.T) {
	b := allBytes(ofEntry(noop(1, 1)), ofEntry(noop(2, 1)), ofHard(1, 2, 3))
	third := allBytes(ofEntry(noop(3, 1)))
	for _, c := range []struct {
		segment int
		files   []any
	}{
		{len(b) - 1, []any{"wal-1", b, "wal-2", third}},
		{len(b), []any{"wal-1", slices.Concat(b, third), "wal-2", []byte(nil)}},
		{len(b) + 1, []any{"wal-1", slices.Concat(b, third), "wal-2", []byte(nil)}},
		{len(b) + len(third) - 1, []any{"wal-1", slices.Concat(b, third), "wal-2", []byte(nil)}},
		{len(b) + len(third), []any{"wal-1", slices.Concat(b, third)}},
		{1, []any{"wal-1", b, "wal-2", third, "wal-3", []byte(nil)}},
		{maxSegment, []any{"wal-1", slices.Concat(b, third)}},
	} {
		d := disk.New(99)
		w := opened(t, d, c.segment, wal.State{})
		ok(t, w.Save(hard(1, 2, 3), noops(0, 1, 2)))
		if len(b) <= c.segment {
			segments(t, w, 1)
			is(t, "Ops", d.Ops(), 4)
		} else {
			segments(t, w, 1, 2)
			is(t, "Ops", d.Ops(), 6)
		}
		ok(t, w.Save(hard(1, 2, 3), noops(2, 1, 1)))
		holds(t, d, c.files...)
		ok(t, w.Save(hard(1, 2, 3), nil)) // nothing is done
		holds(t, d, c.files...)
		lasts(t, w, d, wal.State{Hard: hard(1, 2, 3), Entries: noops(0, 1, 3)})
	}
}

// TestSaveManySegments: their numbers go on from the greatest one.
func TestSaveManySegments(t *testing.T) {
	d := onDisk(t, 999, "wal-5", allBytes(ofEntry(noop(1, 1))), "wal-8", []byte(nil))
	w := opened(t, d, 1, wal.State{Entries: noops(0, 1, 1)})
	var want []int
	for i := range 5 {
		ok(t, w.Save(api.Hard{}, noops(1+i, 1, 1)))
		want = append(want, 9+i)
	}
	segments(t, w, append([]int{5, 8}, want...)...)
	lasts(t, w, d, wal.State{Entries: noops(0, 1, 6)})
}

// TestSaveAtTheLastNumber: that segment goes on, however many bytes it has.
func TestSaveAtTheLastNumber(t *testing.T) {
	d := onDisk(t, 999, "wal-999999998", []byte(nil))
	w := opened(t, d, 1, wal.State{})
	for i := range 4 {
		ok(t, w.Save(api.Hard{}, noops(i, 1, 1)))
		segments(t, w, 999999998, 999999999)
	}
	holds(t, d, "wal-999999998", allBytes(ofEntry(noop(1, 1))), "wal-999999999", allBytes(ofEntry(noop(2, 1)), ofEntry(noop(3, 1)), ofEntry(noop(4, 1))))
	lasts(t, w, d, wal.State{Entries: noops(0, 1, 4)})
}

// TestSaveFull: the disk's error, and nothing has changed; what does fit is taken then.
func TestSaveFull(t *testing.T) {
	d := disk.New(1)
	w := saved(t, d, maxSegment)
	was := w.State()
	b, _ := d.Read("wal-1")
	is(t, "full", w.Save(hard(2, 2, 2), noops(3, 1, 9)), api.ErrFull)
	stateIs(t, "State", w.State(), was)
	holds(t, d, "wal-1", b)
	segments(t, w, 1)
	is(t, "not right", w.Save(hard(2, 2, 2), noops(5, 1, 900)), api.ErrArg)
	for i := range 9 {
		err := w.Save(was.Hard, noops(3+i, 1, 1))
		if err == api.ErrFull {
			is(t, "entries", len(w.State().Entries), 3+i)
			lasts(t, w, d, wal.State{Hard: was.Hard, Entries: noops(0, 1, 3+i)})
			is(t, "bytes", len(b)+i*len(allBytes(ofEntry(noop(1, 1)))) < 64, true)
			is(t, "at least one fits", i > 0, true)
			return
		}
		ok(t, err)
	}
	t.Fatal("never full")
}

// TestSaveNoRoomForTheNext: it is not told; the segment goes on, and the next one is made as soon as there is room.
func TestSaveNoRoomForTheNext(t *testing.T) {
	d := onDisk(t, 2, "a", []byte("x"))
	w := opened(t, d, 1, wal.State{})
	ok(t, w.Save(api.Hard{}, noops(0, 1, 1)))
	ok(t, w.Save(api.Hard{}, noops(1, 1, 1)))
	segments(t, w, 1)
	ok(t, d.Remove("a"))
	ok(t, w.Save(api.Hard{}, nil))
	segments(t, w, 1) // nothing was done
	ok(t, w.Save(api.Hard{}, noops(2, 1, 1)))
	segments(t, w, 1, 2)
	ok(t, w.Save(api.Hard{}, noops(3, 1, 1)))
	holds(t, d, "wal-1", allBytes(ofEntry(noop(1, 1)), ofEntry(noop(2, 1)), ofEntry(noop(3, 1))), "wal-2", allBytes(ofEntry(noop(4, 1))))
	lasts(t, w, d, wal.State{Entries: noops(0, 1, 4)})
}

// TestSaveWithoutItsSegment: the disk's error is its own, and nothing has changed.
func TestSaveWithoutItsSegment(t *testing.T) {
	d := disk.New(99)
	w := saved(t, d, maxSegment)
	was := w.State()
	ok(t, d.Rename("wal-1", "a"))
	is(t, "Save", w.Save(api.Hard{}, noops(3, 1, 1)), api.ErrNone)
	stateIs(t, "State", w.State(), was)
	ok(t, d.Rename("a", "wal-1"))
	ok(t, w.Save(was.Hard, noops(3, 1, 1)))
	lasts(t, w, d, wal.State{Hard: was.Hard, Entries: noops(0, 1, 4)})
}

// TestBehindErrPower: once a call has answered that, all do, though the power is on again; who did not ask meanwhile goes on.
func TestBehindErrPower(t *testing.T) {
	calls := map[string]func(w *wal.Wal) api.Errno{
		"Save":              func(w *wal.Wal) api.Errno { return w.Save(hard(9, 9, 9), noops(3, 1, 1)) },
		"Save of nothing":   func(w *wal.Wal) api.Errno { return w.Save(hard(1, 2, 3), nil) },
		"Save of wrong":     func(w *wal.Wal) api.Errno { return w.Save(hard(-1, 0, 0), nil) },
		"Compact":           func(w *wal.Wal) api.Errno { return w.Compact(2, 1) },
		"Compact below 0":   func(w *wal.Wal) api.Errno { return w.Compact(-1, 1) },
		"Compact to itself": func(w *wal.Wal) api.Errno { return w.Compact(0, 0) },
	}
	want := wal.State{Hard: hard(1, 2, 3), Entries: noops(0, 1, 3)}
	for first, call := range calls {
		d := disk.New(99)
		w := saved(t, d, 1)
		d.Crash(0)
		stateIs(t, "State without power", w.State(), want)
		segments(t, w)
		is(t, first, call(w), api.ErrPower)
		d.Start()
		ops := d.Ops()
		for second, call := range calls {
			is(t, second+" behind "+first, call(w), api.ErrPower)
			stateIs(t, "State", w.State(), want)
			segments(t, w, 1, 2)
		}
		is(t, "Ops", d.Ops(), ops)
		opened(t, d, 1, want)
	}
	d := disk.New(99)
	w := saved(t, d, 1)
	for range 3 {
		d.Crash(0)
		d.Start()
	}
	is(t, "wrong", w.Save(hard(-1, 0, 0), nil), api.ErrArg)
	ok(t, w.Save(hard(1, 2, 3), noops(3, 1, 1)))
	lasts(t, w, d, wal.State{Hard: hard(1, 2, 3), Entries: noops(0, 1, 4)})
	ok(t, w.Compact(2, 1))
	lasts(t, w, d, wal.State{Index: 2, Term: 1, Hard: hard(1, 2, 3), Entries: noops(2, 1, 2)})
}

// TestSaveSyncs: all that is in the buffer is sure, whoever wrote it.
func TestSaveSyncs(t *testing.T) {
	d := onDisk(t, 99, "a", []byte("x"))
	w := saved(t, d, maxSegment)
	ok(t, d.Append("a", []byte("y")))
	ok(t, w.Save(hard(1, 2, 3), nil))
	is(t, "Pending", d.Pending(), 1)
	ok(t, w.Save(hard(1, 2, 4), nil))
	is(t, "Pending", d.Pending(), 0)
	d.Crash(0)
	d.Start()
	opened(t, d, 1, wal.State{Hard: hard(1, 2, 4), Entries: noops(0, 1, 3)})
}

// TestSaveMemory: what was handed in may be changed afterwards, and what State tells, too.
func TestSaveMemory(t *testing.T) {
	d := disk.New(99)
	w := opened(t, d, maxSegment, wal.State{})
	room := []api.Entry{members(1, 1), members(2, 1), noop(77, 77)}
	l := room[:2]
	ok(t, w.Save(api.Hard{}, l))
	want := wal.State{Entries: []api.Entry{members(1, 1), members(2, 1)}}
	is(t, "the room behind", room[2].Index, 77)
	if !slices.EqualFunc(l, want.Entries, func(a, b api.Entry) bool { return sameRecord(ofEntry(a), ofEntry(b)) }) {
		t.Fatalf("Save changed its entries: %s", show(l))
	}
	spoilState(wal.State{Entries: l})
	lasts(t, w, d, want)
	s := w.State()
	spoil(s.Entries[0].Conf)
	is(t, "the second", s.Entries[1].Conf.Voters[0], 1)
	spoilState(s)
	lasts(t, w, d, want)
	s = w.State()
	ok(t, w.Save(api.Hard{}, []api.Entry{noop(1, 2)}))
	stateIs(t, "a state told ahead", s, want)
	ok(t, w.Compact(1, 2))
	stateIs(t, "a state told ahead", s, want)
	numbers := w.Segments()
	numbers[0] = 99
	segments(t, w, 2)
}

// TestSaveMany: a long log, entry by entry, and all at once.
func TestSaveMany(t *testing.T) {
	const n = 30000
	d := disk.New(1 << 20)
	w := opened(t, d, 4096, wal.State{})
	for i := range n {
		ok(t, w.Save(hard(1, 1, i), noops(i, 1, 1)))
	}
	want := wal.State{Hard: hard(1, 1, n-1), Entries: noops(0, 1, n)}
	lasts(t, w, d, want)
	ok(t, w.Save(hard(1, 1, n), noops(0, 2, n)))
	want = wal.State{Hard: hard(1, 1, n), Entries: noops(0, 2, n)}
	lasts(t, w, d, want)
	ok(t, w.Compact(n/2, 2))
	segments(t, w, w.Segments()[0])
	want = wal.State{Index: n / 2, Term: 2, Hard: hard(1, 1, n), Entries: noops(n/2, 2, n-n/2)}
	lasts(t, w, d, want)
}
