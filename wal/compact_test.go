package wal_test

import (
	"math"
	"slices"
	"testing"

	"corbel/api"
	"corbel/disk"
	"corbel/wal"
)

// terms: a log with the base 2 of term 1 and entries 3 to 6 of the terms 1, 2, 2 and 3, in the segments 2 to 6; the last one is empty.
func terms(t *testing.T, d *disk.Disk) (*wal.Wal, wal.State) {
	t.Helper()
	w := opened(t, d, 1, wal.State{})
	ok(t, w.Compact(2, 1))
	s := wal.State{Index: 2, Term: 1, Hard: hard(3, 1, 4), Entries: []api.Entry{noop(3, 1), noop(4, 2), members(5, 2), put(6, 3, "v")}}
	for _, e := range s.Entries {
		ok(t, w.Save(s.Hard, []api.Entry{e}))
	}
	stateIs(t, "State", w.State(), s)
	segments(t, w, 2, 3, 4, 5, 6)
	return w, s
}

// TestCompact: at the base, at each entry, with its term and with others, and beyond; the next number's segment is the only one, with the base, the hard and the entries left.
func TestCompact(t *testing.T) {
	for index := 2; index <= 9; index++ {
		for term := range 5 {
			d := disk.New(99)
			w, s := terms(t, d)
			want, right := plainFold(s, ofBase(index, term))
			is(t, "right", right, true)
			ops := d.Ops()
			ok(t, w.Compact(index, term))
			is(t, "Ops", d.Ops(), ops+4+5)
			segments(t, w, 7)
			b := allBytes(ofBase(index, term), wal.Record{Kind: wal.KindHard, Hard: s.Hard})
			for _, e := range want.Entries {
				b = append(b, allBytes(ofEntry(e))...)
			}
			holds(t, d, "wal-7", b)
			lasts(t, w, d, want)
			last := noop(want.Index+len(want.Entries)+1, 5)
			ok(t, w.Save(s.Hard, []api.Entry{last}))
			want.Entries = append(want.Entries, last)
			holds(t, d, "wal-7", slices.Concat(b, allBytes(ofEntry(last))), "wal-8", []byte(nil))
			lasts(t, w, d, want)
		}
	}
}

// TestCompactWrittenOut: which entries are left, without the chapter's fold.
func TestCompactWrittenOut(t *testing.T) {
	for _, c := range []struct{ index, term, left int }{
		{2, 1, 4}, {2, 9, 4}, {3, 1, 3}, {3, 2, 0}, {4, 2, 2}, {4, 1, 0}, {5, 2, 1}, {5, 3, 0}, {6, 3, 0}, {6, 4, 0}, {7, 3, 0}, {1000, 1, 0}, {math.MaxInt, math.MaxInt, 0},
	} {
		d := disk.New(99)
		w, s := terms(t, d)
		ok(t, w.Compact(c.index, c.term))
		lasts(t, w, d, with(s, c.index, c.term, s.Entries[4-c.left:]...))
	}
}

// TestCompactOfNothing: a hard that is zero is written, too.
func TestCompactOfNothing(t *testing.T) {
	d := disk.New(99)
	w := opened(t, d, 1, wal.State{})
	ok(t, w.Compact(0, 0))
	holds(t, d, "wal-2", allBytes(ofBase(0, 0), ofHard(0, 0, 0)))
	ok(t, w.Compact(0, 7))
	holds(t, d, "wal-3", allBytes(ofBase(0, 7), ofHard(0, 0, 0)))
	lasts(t, w, d, wal.State{Term: 7})
}

func TestCompactArg(t *testing.T) {
	d := disk.New(99)
	w, s := terms(t, d)
	ops := d.Ops()
	arg := func(index, term int) {
		t.Helper()
		is(t, "Compact", w.Compact(index, term), api.ErrArg)
		is(t, "Ops", d.Ops(), ops)
		segments(t, w, 2, 3, 4, 5, 6)
		stateIs(t, "State", w.State(), s)
	}
	for _, n := range ends() {
		if n < 0 {
			arg(n, 1)
			arg(4, n)
			arg(9, n)
			arg(n, n)
		}
	}
	arg(1, 1)
	arg(0, 0)
	arg(1, 0)
	lasts(t, w, d, s)
}

// TestCompactAtTheLastNumber: there is no next one.
func TestCompactAtTheLastNumber(t *testing.T) {
	d := onDisk(t, 99, "wal-999999998", allBytes(ofEntry(noop(1, 1))))
	w := opened(t, d, maxSegment, wal.State{Entries: noops(0, 1, 1)})
	ok(t, w.Compact(1, 1))
	segments(t, w, 999999999)
	b := allBytes(ofBase(1, 1), ofHard(0, 0, 0))
	holds(t, d, "wal-999999999", b)
	ops := d.Ops()
	is(t, "Compact", w.Compact(1, 1), api.ErrArg)
	is(t, "Compact below 0", w.Compact(-1, 1), api.ErrArg)
	is(t, "Ops", d.Ops(), ops)
	holds(t, d, "wal-999999999", b)
	ok(t, w.Save(api.Hard{}, noops(1, 1, 1)))
	lasts(t, w, d, wal.State{Index: 1, Term: 1, Entries: noops(1, 1, 1)})
	d.Crash(0)
	is(t, "Compact without power", w.Compact(1, 1), api.ErrPower)
}

// TestCompactRemoves: all other segments, whoever made them, from the greatest number down, and no other file.
func TestCompactRemoves(t *testing.T) {
	d := onDisk(t, 99, "a", []byte("x"), "wal-01", []byte("y"), "wal.old", []byte("z"), "wal.new", []byte("old"))
	w := opened(t, d, maxSegment, wal.State{})
	for _, name := range []string{"wal-3", "wal-10", "wal-9", "wal-200"} {
		ok(t, d.Create(name))
	}
	segments(t, w, 1, 3, 9, 10, 200)
	ok(t, w.Compact(5, 5))
	b := allBytes(ofBase(5, 5), ofHard(0, 0, 0))
	holds(t, d, "a", []byte("x"), "wal-01", []byte("y"), "wal.old", []byte("z"), "wal-2", b)

	for gone := range 5 { // the power fails ahead of each that is to be removed
		d := disk.New(99)
		w, s := terms(t, d)
		ok(t, d.Arm(5+gone, 0))
		is(t, "Compact", w.Compact(4, 2), api.ErrPower)
		want := with(s, 4, 2, s.Entries[2:]...)
		stateIs(t, "State", w.State(), want)
		segments(t, w)
		d.Start()
		segments(t, w, append([]int{2, 3, 4, 5, 6}[:5-gone], 7)...)
		is(t, "Compact", w.Compact(4, 2), api.ErrPower)
		w = opened(t, d, 1, want)
		ok(t, w.Compact(4, 2))
		segments(t, w, 8)
		lasts(t, w, d, want)
	}
}

// TestCompactFull: the disk's error, and nothing has changed, but that wal.new may be there, which counts for nothing.
func TestCompactFull(t *testing.T) {
	long := []api.Entry{put(1, 1, string(make([]byte, 100))), put(2, 1, string(make([]byte, 100)))}
	for free, want := range []api.Errno{api.ErrFull, api.ErrFull, api.ErrFull, api.OK} {
		d := disk.New(5 + free)
		w := opened(t, d, maxSegment, wal.State{})
		ok(t, w.Save(hard(1, 1, 1), long))
		is(t, "Used", d.Used(), 5)
		is(t, "Compact", w.Compact(1, 1), want)
		if want == api.OK {
			segments(t, w, 2)
			lasts(t, w, d, wal.State{Index: 1, Term: 1, Hard: hard(1, 1, 1), Entries: long[1:]})
			continue
		}
		s := wal.State{Hard: hard(1, 1, 1), Entries: long}
		segments(t, w, 1)
		lasts(t, w, d, s)
		ok(t, w.Save(hard(1, 1, 2), nil))
		s.Hard.Commit = 2
		lasts(t, w, d, s)
		if free > 0 { // there is room for less
			ok(t, w.Compact(9, 1))
			segments(t, w, 2)
			lasts(t, w, d, wal.State{Index: 9, Term: 1, Hard: s.Hard})
		}
	}
}

// TestCompactSize: the new segment's bytes count, though it is only with the next Save that another one follows.
func TestCompactSize(t *testing.T) {
	size := len(allBytes(ofBase(1, 1), ofHard(0, 0, 0), ofEntry(noop(2, 1))))
	more := len(allBytes(ofEntry(noop(3, 1))))
	for segment, want := range map[int][]int{1: {3, 4}, size - 1: {3, 4}, size: {3, 4}, size + more - 1: {3, 4}, size + more: {3}} {
		d := disk.New(99)
		w := opened(t, d, segment, wal.State{})
		ok(t, w.Compact(1, 1))
		ok(t, w.Save(api.Hard{}, nil))
		segments(t, w, 2)
		w = opened(t, d, maxSegment, wal.State{Index: 1, Term: 1})
		ok(t, w.Save(api.Hard{}, noops(1, 1, 1)))
		w = opened(t, d, segment, wal.State{Index: 1, Term: 1, Entries: noops(1, 1, 1)})
		ok(t, w.Compact(1, 1))
		segments(t, w, 3)
		ok(t, w.Save(api.Hard{}, nil))
		segments(t, w, 3)
		ok(t, w.Save(api.Hard{}, noops(2, 1, 1)))
		segments(t, w, want...)
	}
}

// TestCompactMemory: it keeps nothing of a state that was told, and the next Save changes none.
func TestCompactMemory(t *testing.T) {
	d := disk.New(99)
	w, s := terms(t, d)
	ok(t, w.Compact(4, 2))
	want := with(s, 4, 2, s.Entries[2:]...)
	told := w.State()
	spoilState(w.State())
	ok(t, w.Save(s.Hard, []api.Entry{noop(5, 9)}))
	stateIs(t, "a state told ahead", told, want)
	lasts(t, w, d, with(s, 4, 2, noop(5, 9)))
}
