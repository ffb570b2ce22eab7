package wal_test

import (
	"math"
	"slices"
	"strconv"
	"testing"

	"corbel/api"
	"corbel/disk"
	"corbel/wal"
)

const maxSegment = 1 << 20

func TestOpenErrors(t *testing.T) {
	for _, segment := range []int{math.MinInt, -1, 0, 1, 2, maxSegment, maxSegment + 1, math.MaxInt} {
		refused(t, nil, segment, api.ErrMade)
		refused(t, &disk.Disk{}, segment, api.ErrMade)
		d := onDisk(t, 9, "wal-1", allBytes(ofHard(1, 1, 1)), "wal-2", []byte("x"), "wal-3", []byte("y"))
		ops := d.Ops()
		if segment < 1 || segment > maxSegment { // ahead of what is corrupt
			refused(t, d, segment, api.ErrArg)
		} else {
			refused(t, d, segment, api.ErrCorrupt)
		}
		is(t, "Ops", d.Ops(), ops)
		d.Crash(0)
		refused(t, d, segment, api.ErrPower)
		d.Start()
		holds(t, d, "wal-1", allBytes(ofHard(1, 1, 1)), "wal-2", []byte("x"), "wal-3", []byte("y"))
	}
	for _, segment := range []int{1, 2, maxSegment - 1, maxSegment} {
		opened(t, disk.New(1), segment, wal.State{})
	}
}

// TestOpenOfNothing: the first segment is made, and it is sure.
func TestOpenOfNothing(t *testing.T) {
	d := disk.New(9)
	w := opened(t, d, 100, wal.State{})
	is(t, "Ops", d.Ops(), 2)
	segments(t, w, 1)
	holds(t, d, "wal-1", []byte(nil))
	opened(t, d, 100, wal.State{})
	is(t, "Ops", d.Ops(), 2) // it is there now
	d = onDisk(t, 9, "a", []byte("x"), "wal", []byte("y"), "wal.new", []byte("z"), "wal-01", []byte("u"), "wal-1.x", []byte("v"))
	w = opened(t, d, 100, wal.State{})
	segments(t, w, 1)
	holds(t, d, "a", []byte("x"), "wal", []byte("y"), "wal.new", []byte("z"), "wal-01", []byte("u"), "wal-1.x", []byte("v"), "wal-1", []byte(nil))
}

// TestOpenSyncs: what else is in the buffer is sure, too, once there is a first segment.
func TestOpenSyncs(t *testing.T) {
	d := onDisk(t, 9, "a", []byte("x"))
	ok(t, d.Append("a", []byte("y")))
	opened(t, d, 100, wal.State{})
	d.Crash(0)
	d.Start()
	holds(t, d, "a", []byte("xy"), "wal-1", []byte(nil))
}

// TestOpenReads: by numbers, not by bytes of names, with gaps between them; no operation of the disk is done.
func TestOpenReads(t *testing.T) {
	hard := ofHard(3, 1, 2)
	d := onDisk(t, 99,
		"wal-10", allBytes(ofEntry(noop(3, 3)), ofEntry(members(4, 3))),
		"wal-9", allBytes(ofEntry(noop(3, 2)), hard),
		"wal-2", allBytes(ofEntry(noop(1, 1)), ofEntry(noop(2, 1)), ofHard(1, 1, 0)),
		"wal-999999999", allBytes(ofEntry(put(5, 3, "v"))),
		"wal-30", []byte(nil),
		"wal.new", allBytes(ofEntry(noop(1, 9))), "wal-011", []byte("x"), "snap-5", []byte("x"), "wal-1000000000", []byte("x"))
	ops := d.Ops()
	w := opened(t, d, 1, wal.State{Hard: hard.Hard, Entries: []api.Entry{noop(1, 1), noop(2, 1), noop(3, 3), members(4, 3), put(5, 3, "v")}})
	segments(t, w, 2, 9, 10, 30, 999999999)
	is(t, "Ops", d.Ops(), ops)
	d = onDisk(t, 9, "wal-7", allBytes(ofEntry(noop(1, 1)), hard))
	w = opened(t, d, 1, wal.State{Hard: hard.Hard, Entries: noops(0, 1, 1)})
	segments(t, w, 7)
}

// TestOpenWritesOn: the segment with the greatest number.
func TestOpenWritesOn(t *testing.T) {
	one, two := allBytes(ofEntry(noop(1, 1))), allBytes(ofEntry(noop(2, 1)))
	d := onDisk(t, 99, "wal-9", one, "wal-10", two)
	w := opened(t, d, 1000, wal.State{Entries: noops(0, 1, 2)})
	ok(t, w.Save(api.Hard{}, noops(2, 1, 1)))
	holds(t, d, "wal-9", one, "wal-10", slices.Concat(two, allBytes(ofEntry(noop(3, 1)))))
}

// TestOpenAtABase: from an empty state again, and Hard is forgotten, too.
func TestOpenAtABase(t *testing.T) {
	ahead := allBytes(ofEntry(noop(1, 1)), ofHard(1, 1, 1), ofEntry(noop(2, 1)))
	base := allBytes(ofBase(7, 2), ofEntry(noop(8, 2)))
	behind := allBytes(ofEntry(noop(9, 2)), ofHard(2, 1, 8))
	w := opened(t, onDisk(t, 99, "wal-1", ahead, "wal-2", base), 1, wal.State{Index: 7, Term: 2, Entries: noops(7, 2, 1)})
	segments(t, w, 1, 2)
	all := wal.State{Index: 7, Term: 2, Hard: api.Hard{Term: 2, Vote: 1, Commit: 8}, Entries: noops(7, 2, 2)}
	opened(t, onDisk(t, 99, "wal-1", ahead, "wal-2", base, "wal-3", behind), 1, all)
	opened(t, onDisk(t, 99, "wal-2", base, "wal-3", behind), 1, all)
	later := allBytes(ofBase(3, 9)) // a lesser one is right at the beginning of a segment
	opened(t, onDisk(t, 99, "wal-1", ahead, "wal-2", base, "wal-3", behind, "wal-5", later), 1, wal.State{Index: 3, Term: 9})
	opened(t, onDisk(t, 99, "wal-1", ahead, "wal-2", base, "wal-3", behind, "wal-5", later, "wal-6", []byte(nil)), 1, wal.State{Index: 3, Term: 9})
	opened(t, onDisk(t, 99, "wal-1", allBytes(ofBase(0, 0))), 1, wal.State{})
}

// TestOpenAtABaseInside: a Base that is not a segment's first record is folded as any other.
func TestOpenAtABaseInside(t *testing.T) {
	hard := ofHard(1, 1, 1)
	ahead := allBytes(hard, ofEntry(noop(1, 1)), ofEntry(noop(2, 1)))
	opened(t, onDisk(t, 99, "wal-1", slices.Concat(ahead, allBytes(ofBase(1, 1)))), 1, wal.State{Index: 1, Term: 1, Hard: hard.Hard, Entries: noops(1, 1, 1)})
	opened(t, onDisk(t, 99, "wal-1", ahead, "wal-2", allBytes(ofHard(2, 2, 2), ofBase(2, 1))), 1, wal.State{Index: 2, Term: 1, Hard: api.Hard{Term: 2, Vote: 2, Commit: 2}})
	opened(t, onDisk(t, 99, "wal-1", allBytes(ofBase(4, 1), ofBase(6, 1), ofEntry(noop(7, 1)))), 1, wal.State{Index: 6, Term: 1, Entries: noops(6, 1, 1)})
	refused(t, onDisk(t, 99, "wal-1", allBytes(ofBase(4, 1), ofBase(3, 1))), 1, api.ErrCorrupt)
	refused(t, onDisk(t, 99, "wal-1", allBytes(ofBase(4, 1)), "wal-2", allBytes(hard, ofBase(3, 1))), 1, api.ErrCorrupt)
}

// untouched: ErrCorrupt, and the disk is as it was, by no operation.
func untouched(t *testing.T, files ...any) {
	t.Helper()
	d := onDisk(t, 99, files...)
	ops := d.Ops()
	refused(t, d, 100, api.ErrCorrupt)
	is(t, "Ops", d.Ops(), ops)
	holds(t, d, files...)
}

// wrongAhead: what makes a log corrupt, wherever it stands ahead of the last segment.
func wrongAhead() [][]byte {
	one := allBytes(ofEntry(noop(1, 1)))
	l := [][]byte{
		allBytes(ofEntry(noop(5, 1))),
		allBytes(ofEntry(noop(1, 1)), ofEntry(noop(3, 1))),
		allBytes(ofHard(1, 1, 1), ofEntry(noop(7, 1))),
		allBytes(ofBase(9, 1), ofBase(8, 1)),
		allBytes(ofBase(9, 1), ofEntry(noop(9, 1))),
		allBytes(ofBase(9, 1), ofEntry(noop(11, 1))),
	}
	for _, b := range torn() {
		l = append(l, b, slices.Concat(one, b), slices.Concat(allBytes(ofBase(0, 0)), b))
	}
	return l
}

// TestOpenWrongAheadOfABase: bytes that are no record's, and folds that are not right, ahead of one segment that begins with a Base, of two, between them, and beside what is right or to be mended.
func TestOpenWrongAheadOfABase(t *testing.T) {
	base, other := allBytes(ofBase(7, 2), ofEntry(noop(8, 2))), allBytes(ofBase(8, 2), ofHard(2, 1, 8))
	first, hard, empty := allBytes(ofEntry(noop(1, 1))), allBytes(ofHard(1, 1, 1)), []byte(nil)
	end := slices.Concat(base, []byte("torn"))
	for _, wrong := range wrongAhead() {
		untouched(t, "wal-1", wrong, "wal-2", base)
		untouched(t, "wal-3", wrong, "wal-9", base)
		untouched(t, "wal-9", wrong, "wal-10", base)
		untouched(t, "wal-1", wrong, "wal-2", base, "wal-3", empty)
		untouched(t, "wal-1", wrong, "wal-2", empty, "wal-3", base)
		untouched(t, "wal-1", wrong, "wal-2", hard, "wal-3", base)
		untouched(t, "wal-1", hard, "wal-2", wrong, "wal-3", base)
		untouched(t, "wal-1", wrong, "wal-2", wrong, "wal-3", base)
		untouched(t, "wal-1", wrong, "wal-2", end)
		untouched(t, "wal-1", wrong, "wal-2", base, "wal-3", []byte("torn"))
		untouched(t, "wal-1", wrong, "wal-2", base, "wal-3", other)
		untouched(t, "wal-1", wrong, "wal-2", base, "wal-4", other, "wal-5", empty)
		untouched(t, "wal-1", first, "wal-2", wrong, "wal-3", base, "wal-4", other)
		untouched(t, "wal-1", base, "wal-2", wrong, "wal-3", other)
		untouched(t, "wal-1", first, "wal-2", base, "wal-3", wrong, "wal-4", other)
	}
}

// TestOpenWrongBehindARemoval: others put back what Compact has removed, and that may be right or not.
func TestOpenWrongBehindARemoval(t *testing.T) {
	want := wal.State{Index: 2, Term: 1, Hard: hard(1, 2, 3), Entries: noops(2, 1, 1)}
	for _, wrong := range wrongAhead() {
		d := disk.New(99)
		ok(t, saved(t, d, 100).Compact(2, 1))
		b, _ := d.Read("wal-2")
		ok(t, d.Create("wal-1"))
		opened(t, d, 100, want)
		ok(t, d.Append("wal-1", wrong))
		refused(t, d, 100, api.ErrCorrupt)
		ok(t, d.Sync())
		refused(t, d, 100, api.ErrCorrupt)
		holds(t, d, "wal-1", wrong, "wal-2", b)
		ok(t, d.Create("wal-1"))
		ok(t, d.Append("wal-1", allBytes(ofEntry(noop(1, 9)), ofHard(9, 9, 9))))
		opened(t, d, 100, want)
		ok(t, d.Append("wal-1", wrong[:1]))
		refused(t, d, 100, api.ErrCorrupt)
		ok(t, d.Remove("wal-1"))
		opened(t, d, 100, want)
	}
}

// TestOpenRightAheadOfABase: it counts for nothing, be it more or less than what is behind it, one run of segments or two, with gaps between the numbers; nothing is done to it.
func TestOpenRightAheadOfABase(t *testing.T) {
	want := wal.State{Index: 7, Term: 2, Entries: noops(7, 2, 1)}
	base, empty := allBytes(ofBase(7, 2), ofEntry(noop(8, 2))), []byte(nil)
	for _, ahead := range [][]byte{
		nil,
		allBytes(ofHard(5, 5, 5)),
		allBytes(ofEntry(noop(1, 1)), ofEntry(noop(2, 1)), ofHard(1, 1, 1)),
		allBytes(ofBase(6, 2), ofEntry(noop(7, 2)), ofEntry(noop(8, 9)), ofEntry(noop(9, 9)), ofHard(9, 9, 9)),
		allBytes(ofBase(7, 2), ofEntry(noop(8, 2)), ofEntry(noop(9, 2))),
		allBytes(ofBase(math.MaxInt, math.MaxInt), ofHard(math.MaxInt, 0, 0)),
	} {
		for _, files := range [][]any{
			{"wal-1", ahead, "wal-2", base},
			{"wal-3", ahead, "wal-7", base, "wal-8", empty},
			{"wal-9", ahead, "wal-10", base},
			{"wal-1", ahead, "wal-2", empty, "wal-3", base},
			{"wal-1", ahead, "wal-2", allBytes(ofBase(3, 3), ofHard(3, 3, 3), ofEntry(noop(4, 3))), "wal-3", base},
			{"wal-1", allBytes(ofBase(8, 8), ofEntry(noop(9, 8))), "wal-2", allBytes(ofEntry(noop(10, 8))), "wal-5", slices.Concat(allBytes(ofBase(0, 0)), ahead), "wal-6", base},
		} {
			d := onDisk(t, 99, files...)
			ops := d.Ops()
			opened(t, d, 100, want)
			is(t, "Ops", d.Ops(), ops)
			holds(t, d, files...)
		}
	}
}

// TestOpenFoldNotRight: wherever it is; and what is torn is not mended then.
func TestOpenFoldNotRight(t *testing.T) {
	right := allBytes(ofEntry(noop(1, 1)), ofEntry(noop(2, 1)))
	for _, wrong := range [][]byte{
		allBytes(ofEntry(noop(4, 1))),
		allBytes(ofEntry(noop(3, 1)), ofEntry(noop(5, 1))),
		allBytes(ofHard(1, 1, 1), ofBase(5, 1), ofEntry(noop(5, 1))),
		allBytes(ofHard(1, 1, 1), ofBase(5, 1), ofBase(4, 1)),
	} {
		refused(t, onDisk(t, 99, "wal-1", slices.Concat(right, wrong)), 1, api.ErrCorrupt)
		refused(t, onDisk(t, 99, "wal-1", right, "wal-2", wrong), 1, api.ErrCorrupt)
		refused(t, onDisk(t, 99, "wal-1", right, "wal-2", wrong, "wal-3", right), 1, api.ErrCorrupt)
		refused(t, onDisk(t, 99, "wal-1", right, "wal-2", wrong, "wal-3", []byte(nil)), 1, api.ErrCorrupt)
		torn := slices.Concat(wrong, []byte("torn"))
		d := onDisk(t, 99, "wal-1", right, "wal-2", torn)
		ops := d.Ops()
		refused(t, d, 1, api.ErrCorrupt)
		is(t, "Ops", d.Ops(), ops)
		holds(t, d, "wal-1", right, "wal-2", torn)
	}
	refused(t, onDisk(t, 99, "wal-1", allBytes(ofEntry(noop(2, 1)))), 1, api.ErrCorrupt)
}

// torn: bytes that are no record's, behind records or alone.
func torn() [][]byte {
	r := allBytes(ofEntry(put(3, 1, "value")))
	turned := slices.Clone(r)
	turned[6] ^= 1
	return [][]byte{{0}, {0xc5}, r[:4], r[:len(r)-1], r[1:], turned, slices.Concat(turned, r), framed(nil), make([]byte, 200)}
}

// TestOpenMends: the last segment has its records alone, which were written beside it and are sure.
func TestOpenMends(t *testing.T) {
	first := allBytes(ofHard(1, 1, 1), ofEntry(noop(1, 1)))
	last := allBytes(ofEntry(noop(2, 1)))
	want := wal.State{Hard: api.Hard{Term: 1, Vote: 1, Commit: 1}, Entries: noops(0, 1, 2)}
	for _, behind := range torn() {
		d := onDisk(t, 99, "wal-1", first, "wal-4", slices.Concat(last, behind), "a", []byte("x"))
		ops := d.Ops()
		w := opened(t, d, 1000, want)
		is(t, "Ops", d.Ops(), ops+4)
		segments(t, w, 1, 4)
		holds(t, d, "wal-1", first, "wal-4", last, "a", []byte("x"))
		ok(t, w.Save(api.Hard{Term: 1, Vote: 1, Commit: 1}, noops(2, 1, 1)))
		holds(t, d, "wal-1", first, "wal-4", slices.Concat(last, allBytes(ofEntry(noop(3, 1)))), "a", []byte("x"))

		d = onDisk(t, 99, "wal-1", first, "wal-4", behind, "wal.new", []byte("old")) // there are no records: nothing is appended
		ops = d.Ops()
		opened(t, d, 1000, wal.State{Hard: want.Hard, Entries: want.Entries[:1]})
		is(t, "Ops", d.Ops(), ops+3)
		holds(t, d, "wal-1", first, "wal-4", []byte(nil))

		d = onDisk(t, 99, "wal-1", behind)
		opened(t, d, 1000, wal.State{})
		holds(t, d, "wal-1", []byte(nil))
	}
}

// TestOpenMendedSize: the segment's bytes are counted without those that went.
func TestOpenMendedSize(t *testing.T) {
	last := allBytes(ofEntry(noop(1, 1)))
	size := 2 * len(last)
	for _, more := range []int{0, 1} {
		d := onDisk(t, 99, "wal-1", slices.Concat(last, make([]byte, 100)))
		w := opened(t, d, size-more, wal.State{Entries: noops(0, 1, 1)})
		ok(t, w.Save(api.Hard{}, noops(1, 1, 1)))
		segments(t, w, []int{1, 2}[:1+more]...)
	}
}

// TestOpenTornAhead: bytes that are no record's, in a segment that is not the last.
func TestOpenTornAhead(t *testing.T) {
	first := allBytes(ofEntry(noop(1, 1)))
	for _, behind := range torn() {
		for _, last := range [][]byte{nil, allBytes(ofEntry(noop(2, 1))), behind, allBytes(ofHard(1, 0, 0), ofBase(5, 1))} {
			for _, ahead := range [][]byte{slices.Concat(first, behind), behind} {
				d := onDisk(t, 99, "wal-1", ahead, "wal-2", last)
				refused(t, d, 1, api.ErrCorrupt)
				holds(t, d, "wal-1", ahead, "wal-2", last)
				refused(t, onDisk(t, 99, "wal-1", first, "wal-2", ahead[:len(ahead):len(ahead)], "wal-3", last), 1, api.ErrCorrupt)
			}
		}
	}
}

// TestOpenFull: the disk's own error, where a file is to be made, and where its bytes do not fit.
func TestOpenFull(t *testing.T) {
	refused(t, disk.New(0), 1, api.ErrFull)
	d := onDisk(t, 1, "a", []byte("x"))
	refused(t, d, 1, api.ErrFull)
	holds(t, d, "a", []byte("x"))

	last := slices.Concat(allBytes(ofEntry(noop(1, 1))), []byte("torn"))
	d = onDisk(t, 1, "wal-1", last)
	refused(t, d, 1, api.ErrFull)
	holds(t, d, "wal-1", last)
	d = onDisk(t, 2, "wal-1", last)
	opened(t, d, 1, wal.State{Entries: noops(0, 1, 1)})
	holds(t, d, "wal-1", last[:len(last)-4])

	long := slices.Concat(allBytes(ofEntry(put(1, 1, string(make([]byte, 200))))), []byte("torn"))
	d = onDisk(t, len(long)/64+2, "wal-1", long) // one block more than that has, which is too little
	refused(t, d, 1, api.ErrFull)
	b, _ := d.Read("wal-1")
	is(t, "the segment", string(b), string(long))
	segmentsOf(t, d, "wal-1")
}

// segmentsOf: these are a disk's files that are segments.
func segmentsOf(t *testing.T, d *disk.Disk, want ...string) {
	t.Helper()
	var got []string
	for _, n := range plainNumbers(d.List()) {
		got = append(got, "wal-"+strconv.Itoa(n))
	}
	if !slices.Equal(got, want) {
		t.Fatalf("segments %q, want %q", got, want)
	}
}

// TestOpenMemory: what Open tells may be changed without a change of the log, or of what it tells again.
func TestOpenMemory(t *testing.T) {
	want := wal.State{Entries: []api.Entry{members(1, 1), members(2, 1)}}
	d := onDisk(t, 99, "wal-1", allBytes(ofEntry(members(1, 1)), ofEntry(members(2, 1))))
	w, s, err := wal.Open(d, 100)
	ok(t, err)
	spoil(s.Entries[0].Conf)
	is(t, "the second", s.Entries[1].Conf.Voters[0], 1)
	spoilState(s)
	stateIs(t, "State", w.State(), want)
	opened(t, d, 100, want)
}
