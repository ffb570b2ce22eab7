package wal_test

import (
	"testing"

	"corbel/api"
	"corbel/disk"
	"corbel/wal"
)

// scene: what is done ahead, and a call in which the power fails.
type scene struct {
	name    string
	segment int
	ahead   func(t *testing.T, w *wal.Wal)
	call    func(w *wal.Wal) api.Errno
	records []wal.Record // those of the call
	ops     int          // how many operations of the disk it has
	needed  int          // if none of the first ones fails, all records are there
	torn    int          // which one may leave some of the records, if it fails; 0: none
}

func scenes() []scene {
	nothing := func(*testing.T, *wal.Wal) {}
	entries := func(t *testing.T, w *wal.Wal) {
		t.Helper()
		ok(t, w.Save(hard(1, 1, 0), []api.Entry{noop(1, 1), members(2, 1), noop(3, 1)}))
		ok(t, w.Save(hard(1, 1, 1), []api.Entry{noop(4, 1)}))
	}
	based := func(t *testing.T, w *wal.Wal) {
		t.Helper()
		entries(t, w)
		ok(t, w.Compact(2, 1))
	}
	news := []api.Entry{noop(3, 2), members(4, 2), put(5, 2, "v")}
	records := []wal.Record{ofEntry(news[0]), ofEntry(news[1]), ofEntry(news[2]), ofHard(2, 3, 2)}
	first := []wal.Record{ofEntry(noop(1, 1)), ofHard(1, 0, 0)}
	save := func(w *wal.Wal) api.Errno { return w.Save(hard(2, 3, 2), news) }
	saveFirst := func(w *wal.Wal) api.Errno { return w.Save(hard(1, 0, 0), noops(0, 1, 1)) }
	saveHard := func(w *wal.Wal) api.Errno { return w.Save(hard(2, 3, 2), nil) }
	compact := func(index, term int) func(w *wal.Wal) api.Errno {
		return func(w *wal.Wal) api.Errno { return w.Compact(index, term) }
	}
	base := func(index, term int) []wal.Record { return []wal.Record{ofBase(index, term)} }
	return []scene{
		{"the first save", maxSegment, nothing, saveFirst, first, 2, 2, 2},
		{"a save", maxSegment, entries, save, records, 2, 2, 2},
		{"a save, and the next segment", 20, entries, save, records, 4, 2, 2},
		{"a save behind a base", maxSegment, based, save, records, 2, 2, 2},
		{"a save of a hard", maxSegment, entries, saveHard, records[3:], 2, 2, 2},
		{"a compact", maxSegment, entries, compact(2, 1), base(2, 1), 5, 4, 0},
		{"a compact of many segments", 1, entries, compact(3, 1), base(3, 1), 7, 4, 0},
		{"a compact beyond all", 1, entries, compact(9, 5), base(9, 5), 7, 4, 0},
		{"a compact behind a base", 1, based, compact(3, 1), base(3, 1), 5, 4, 0},
	}
}

// play: the power fails at the n-th operation of the call (0: not at all), and keep bytes of the buffer are left: the disk, with its power on again, and the state ahead of the call.
func (s scene) play(t *testing.T, n, keep int) (*disk.Disk, wal.State) {
	t.Helper()
	d := disk.New(999)
	w := opened(t, d, s.segment, wal.State{})
	s.ahead(t, w)
	ahead := w.State()
	ops := d.Ops()
	ok(t, d.Arm(n, keep))
	err := s.call(w)
	if n == 0 {
		ok(t, err)
		is(t, s.name+": Ops", d.Ops()-ops, s.ops)
	} else {
		is(t, s.name, err, api.ErrPower)
	}
	told := ahead
	if n == 0 || n > s.needed {
		told = s.behind(t, ahead, s.records)
	}
	stateIs(t, s.name+": State", w.State(), told)
	d.Start()
	return d, ahead
}

// behind: a state behind records.
func (s scene) behind(t *testing.T, state wal.State, records []wal.Record) wal.State {
	t.Helper()
	for _, r := range records {
		next, right := plainFold(state, r)
		is(t, s.name+": right", right, true)
		state = next
	}
	return state
}

// left: the state of what is there behind a failure at the n-th operation.
func (s scene) left(t *testing.T, ahead wal.State, n, keep int) wal.State {
	t.Helper()
	if n == 0 || n > s.needed {
		return s.behind(t, ahead, s.records)
	}
	whole := 0
	for n == s.torn && whole < len(s.records) && len(allBytes(s.records[:whole+1]...)) <= keep {
		whole++
	}
	return s.behind(t, ahead, s.records[:whole])
}

// TestPower: the power fails at each operation of a call, with each number of bytes kept; then at each operation of the Open behind it, likewise. Open tells just what was left.
func TestPower(t *testing.T) {
	for _, s := range scenes() {
		d, ahead := s.play(t, 0, 0)
		s.opens(t, d, s.left(t, ahead, 0, 0))
		for n := 1; n <= s.ops; n++ {
			for keep := -1; keep <= 90; keep++ {
				s.fails(t, n, keep)
			}
		}
	}
}

// fails: at that operation of the call, and then at none and at each one of Open.
func (s scene) fails(t *testing.T, n, keep int) {
	t.Helper()
	d, ahead := s.play(t, n, keep)
	want := s.left(t, ahead, n, keep)
	ops := s.opens(t, d, want)
	for m := 1; m <= ops; m++ {
		for left := -1; left <= 70; left++ {
			d, _ := s.play(t, n, keep)
			ok(t, d.Arm(m, left))
			refused(t, d, s.segment, api.ErrPower)
			d.Start()
			s.opens(t, d, want)
		}
	}
}

// opens: that state, by so many operations; and the log takes more, which lasts.
func (s scene) opens(t *testing.T, d *disk.Disk, want wal.State) int {
	t.Helper()
	before := d.Ops()
	w := opened(t, d, s.segment, want)
	ops := d.Ops() - before
	e := put(want.Index+len(want.Entries)+1, 9, "more")
	ok(t, w.Save(hard(9, 9, 9), []api.Entry{e}))
	d.Crash(0)
	d.Start()
	w = opened(t, d, s.segment, s.behind(t, want, []wal.Record{ofEntry(e), ofHard(9, 9, 9)}))
	ok(t, w.Compact(e.Index, 9))
	d.Crash(0)
	d.Start()
	w = opened(t, d, s.segment, wal.State{Index: e.Index, Term: 9, Hard: hard(9, 9, 9)})
	is(t, "how many segments", len(w.Segments()), 1)
	return ops
}

// TestPowerAtTheFirstOpen: on a disk without segments.
func TestPowerAtTheFirstOpen(t *testing.T) {
	for n := 1; n <= 2; n++ {
		d := disk.New(999)
		ok(t, d.Arm(n, 0))
		refused(t, d, 1, api.ErrPower)
		d.Start()
		segmentsOf(t, d, []string{"wal-1"}[:n-1]...)
		scenes()[0].opens(t, d, wal.State{})
	}
}
