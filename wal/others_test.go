package wal_test

import (
	"slices"
	"testing"

	"corbel/api"
	"corbel/disk"
	"corbel/wal"
)

// Others may write to the files of a log that is open: how many bytes a segment has is how many its file has when Save looks.

// bytesOf: a file's.
func bytesOf(t *testing.T, d *disk.Disk, name string) []byte {
	t.Helper()
	b, err := d.Read(name)
	ok(t, err)
	return b
}

// counted: a call has that many operations.
func counted(t *testing.T, d *disk.Disk, want int, call func() api.Errno) {
	t.Helper()
	ops := d.Ops()
	ok(t, call())
	is(t, "Ops", d.Ops()-ops, want)
}

// TestSaveOthersAppended: with just as many bytes as segment says the segment is written on; with one more it is not. Whether the bytes are sure, and whose they are, makes no difference.
func TestSaveOthersAppended(t *testing.T) {
	own := allBytes(ofHard(1, 0, 0))
	for _, synced := range []bool{true, false} {
		for n, want := range map[int]int{0: 1, 1: 1, 99 - len(own): 1, 100 - len(own): 1, 101 - len(own): 2, 100: 2, 101: 2, 200: 2, 5000: 2} {
			d := disk.New(5000)
			w := opened(t, d, 100, wal.State{})
			junk := make([]byte, n)
			ok(t, d.Append("wal-1", junk))
			if synced {
				ok(t, d.Sync())
			}
			counted(t, d, 2*want, func() api.Errno { return w.Save(hard(1, 0, 0), nil) })
			segments(t, w, []int{1, 2}[:want]...)
			files := []any{"wal-1", slices.Concat(junk, own), "wal-2", []byte(nil)}
			holds(t, d, files[:2*want]...)
			ok(t, w.Save(hard(1, 0, 0), noops(0, 1, 1)))
			if want == 2 {
				holds(t, d, "wal-1", files[1], "wal-2", allBytes(ofEntry(noop(1, 1))))
			}
			stateIs(t, "State", w.State(), wal.State{Hard: hard(1, 0, 0), Entries: noops(0, 1, 1)})
		}
	}
}

// TestSaveOthersAppendedNothingSaved: no record, or one that may not be: nothing is done, however many bytes there are.
func TestSaveOthersAppendedNothingSaved(t *testing.T) {
	d := disk.New(5000)
	w := saved(t, d, 100)
	ok(t, d.Append("wal-1", make([]byte, 200)))
	counted(t, d, 0, func() api.Errno { return w.Save(hard(1, 2, 3), nil) })
	ops := d.Ops()
	is(t, "Save", w.Save(hard(1, 2, 3), noops(9, 1, 1)), api.ErrArg)
	is(t, "Ops", d.Ops(), ops)
	is(t, "Pending", d.Pending(), 200)
	segments(t, w, 1)
	counted(t, d, 4, func() api.Errno { return w.Save(hard(1, 2, 4), nil) })
	segments(t, w, 1, 2)
}

// TestSaveOthersAppendedElsewhere: it is the last segment's bytes that count.
func TestSaveOthersAppendedElsewhere(t *testing.T) {
	d := onDisk(t, 5000, "wal-1", []byte(nil), "wal-3", []byte(nil), "a", []byte(nil))
	w := opened(t, d, 100, wal.State{})
	for _, name := range []string{"wal-1", "a"} {
		ok(t, d.Append(name, make([]byte, 200)))
	}
	counted(t, d, 2, func() api.Errno { return w.Save(hard(1, 0, 0), nil) })
	segments(t, w, 1, 3)
	ok(t, d.Append("wal-3", make([]byte, 200)))
	counted(t, d, 4, func() api.Errno { return w.Save(hard(2, 0, 0), nil) })
	segments(t, w, 1, 3, 4)
	ok(t, d.Append("wal-3", make([]byte, 200)))
	counted(t, d, 2, func() api.Errno { return w.Save(hard(3, 0, 0), nil) })
	segments(t, w, 1, 3, 4)
}

// TestSaveOthersAppendedBehind: to a segment that Save, Compact, or an Open that mends has made.
func TestSaveOthersAppendedBehind(t *testing.T) {
	for name, made := range map[string]func(w *wal.Wal, d *disk.Disk) *wal.Wal{
		"Save": func(w *wal.Wal, d *disk.Disk) *wal.Wal {
			ok(t, d.Append("wal-1", make([]byte, 200)))
			ok(t, w.Save(hard(1, 2, 4), nil))
			return w
		},
		"Compact": func(w *wal.Wal, d *disk.Disk) *wal.Wal {
			ok(t, w.Compact(3, 1))
			return w
		},
		"Open": func(w *wal.Wal, d *disk.Disk) *wal.Wal {
			ok(t, d.Rename("wal-1", "wal-2"))
			ok(t, d.Append("wal-2", make([]byte, 200)))
			return opened(t, d, 100, w.State())
		},
	} {
		d := disk.New(5000)
		w := made(saved(t, d, 100), d)
		b := bytesOf(t, d, "wal-2")
		ok(t, d.Append("wal-2", make([]byte, 100)))
		counted(t, d, 4, func() api.Errno { return w.Save(hard(9, 9, 9), nil) })
		is(t, name, string(bytesOf(t, d, "wal-2")), string(b)+string(make([]byte, 100))+string(allBytes(ofHard(9, 9, 9))))
		is(t, name, len(bytesOf(t, d, "wal-3")), 0)
	}
}

// TestSaveOthersAppendedAtTheLastNumber: there is no next one.
func TestSaveOthersAppendedAtTheLastNumber(t *testing.T) {
	d := onDisk(t, 5000, "wal-999999999", []byte(nil))
	w := opened(t, d, 100, wal.State{})
	ok(t, d.Append("wal-999999999", make([]byte, 200)))
	counted(t, d, 2, func() api.Errno { return w.Save(hard(1, 0, 0), nil) })
	segments(t, w, 999999999)
}

// TestSaveOthersAppendedNoRoom: the next one is tried for by each Save that writes, and made as soon as there is room.
func TestSaveOthersAppendedNoRoom(t *testing.T) {
	d := onDisk(t, 5, "a", []byte("x"))
	w := opened(t, d, 100, wal.State{})
	junk := make([]byte, 200)
	ok(t, d.Append("wal-1", junk)) // four blocks: none is free
	is(t, "Used", d.Used(), 5)
	counted(t, d, 3, func() api.Errno { return w.Save(hard(1, 0, 0), nil) })
	counted(t, d, 3, func() api.Errno { return w.Save(hard(1, 0, 0), noops(0, 1, 1)) })
	b := slices.Concat(junk, allBytes(ofHard(1, 0, 0), ofEntry(noop(1, 1))))
	holds(t, d, "a", []byte("x"), "wal-1", b)
	ok(t, d.Remove("a"))
	counted(t, d, 0, func() api.Errno { return w.Save(hard(1, 0, 0), nil) })
	segments(t, w, 1)
	counted(t, d, 4, func() api.Errno { return w.Save(hard(2, 0, 0), nil) })
	b = append(b, allBytes(ofHard(2, 0, 0))...)
	holds(t, d, "wal-1", b, "wal-2", []byte(nil))
	counted(t, d, 2, func() api.Errno { return w.Save(hard(2, 0, 0), noops(1, 1, 1)) })
	holds(t, d, "wal-1", b, "wal-2", allBytes(ofEntry(noop(2, 1))))
	stateIs(t, "State", w.State(), wal.State{Hard: hard(2, 0, 0), Entries: noops(0, 1, 2)})
}

// TestSaveOthersEmptied: what was there does not count any more.
func TestSaveOthersEmptied(t *testing.T) {
	l := noops(0, 1, 4)
	again := allBytes(ofEntry(l[0]), ofEntry(l[1]), ofEntry(l[2]), ofEntry(l[3]))
	first := len(again) + len(allBytes(ofHard(1, 0, 0)))
	for _, segment := range []int{len(again) - 1, len(again), first - 1, first, 2*len(again) - 1, maxSegment} {
		d := disk.New(5000)
		w := opened(t, d, maxSegment, wal.State{})
		ok(t, w.Save(hard(1, 0, 0), l))
		w = opened(t, d, segment, w.State())
		ok(t, d.Create("wal-1"))
		files := []any{"wal-1", again, "wal-2", []byte(nil)}
		made := 2
		if len(again) <= segment {
			made = 1
		}
		counted(t, d, 2*made, func() api.Errno { return w.Save(hard(1, 0, 0), l) })
		segments(t, w, []int{1, 2}[:made]...)
		holds(t, d, files[:2*made]...)
		stateIs(t, "State", w.State(), wal.State{Hard: hard(1, 0, 0), Entries: l})
	}
}

// TestSaveOthersEmptiedBehind: a segment that Compact has made, or that Save has, or that one was renamed to.
func TestSaveOthersEmptiedBehind(t *testing.T) {
	d := disk.New(5000)
	w := saved(t, d, 60)
	ok(t, w.Compact(0, 0))
	ok(t, d.Create("wal-2"))
	counted(t, d, 2, func() api.Errno { return w.Save(hard(9, 9, 9), nil) })
	holds(t, d, "wal-2", allBytes(ofHard(9, 9, 9)))
	ok(t, d.Append("wal-2", make([]byte, 60)))
	counted(t, d, 4, func() api.Errno { return w.Save(hard(8, 9, 9), nil) })
	segments(t, w, 2, 3)
	ok(t, w.Save(hard(8, 9, 9), noops(3, 1, 3)))
	segments(t, w, 2, 3)
	ok(t, d.Create("a"))
	ok(t, d.Append("a", make([]byte, 40)))
	ok(t, d.Rename("a", "wal-3"))
	counted(t, d, 2, func() api.Errno { return w.Save(hard(7, 9, 9), nil) })
	segments(t, w, 2, 3)
	counted(t, d, 4, func() api.Errno { return w.Save(hard(7, 9, 9), noops(6, 1, 1)) })
	segments(t, w, 2, 3, 4)
}

// TestSaveOthersEmptiedNoRoom: a segment for which there was no next one has few bytes again: none is tried for until it has more, and then as soon as there is room.
func TestSaveOthersEmptiedNoRoom(t *testing.T) {
	size := len(allBytes(ofEntry(noop(1, 1))))
	d := onDisk(t, 2, "a", []byte("x"))
	w := opened(t, d, 2*size, wal.State{})
	counted(t, d, 2, func() api.Errno { return w.Save(api.Hard{}, noops(0, 1, 2)) })
	counted(t, d, 3, func() api.Errno { return w.Save(api.Hard{}, noops(2, 1, 1)) })
	ok(t, d.Create("wal-1"))
	counted(t, d, 2, func() api.Errno { return w.Save(api.Hard{}, noops(3, 1, 1)) })
	counted(t, d, 2, func() api.Errno { return w.Save(api.Hard{}, noops(4, 1, 1)) })
	holds(t, d, "a", []byte("x"), "wal-1", allBytes(ofEntry(noop(4, 1)), ofEntry(noop(5, 1))))
	counted(t, d, 3, func() api.Errno { return w.Save(api.Hard{}, noops(5, 1, 1)) })
	segments(t, w, 1)
	ok(t, d.Create("wal-1"))
	ok(t, d.Remove("a"))
	counted(t, d, 2, func() api.Errno { return w.Save(api.Hard{}, noops(6, 1, 2)) }) // there is room, but it has few bytes
	segments(t, w, 1)
	counted(t, d, 4, func() api.Errno { return w.Save(api.Hard{}, noops(8, 1, 1)) })
	holds(t, d, "wal-1", allBytes(ofEntry(noop(7, 1)), ofEntry(noop(8, 1)), ofEntry(noop(9, 1))), "wal-2", []byte(nil))
	stateIs(t, "State", w.State(), wal.State{Entries: noops(0, 1, 9)})
}
