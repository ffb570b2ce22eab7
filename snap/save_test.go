package snap_test

import (
	"math"
	"testing"

	"corbel/api"
	"corbel/disk"
	"corbel/snap"
)

// TestExample: Save of index 5, Save of index 9: one file, snap-9.
func TestExample(t *testing.T) {
	d := disk.New(5000)
	ok(t, snap.Save(d, of(5, 3)))
	holds(t, d, "snap-5", file(of(5, 3)))
	loads(t, d, of(5, 3))
	ok(t, snap.Save(d, of(9, 3)))
	holds(t, d, "snap-9", file(of(9, 3)))
	loads(t, d, of(9, 3))
}

// TestSaveOfGoodOnes: each is there, by one operation for each chunk and three more, and is sure.
func TestSaveOfGoodOnes(t *testing.T) {
	for _, s := range goodSnaps(t) {
		d := disk.New(17000)
		if s.Index > 999999999 {
			is(t, show(s), snap.Save(d, s), api.ErrArg)
			is(t, "Ops", d.Ops(), 0)
			holds(t, d)
			continue
		}
		ok(t, snap.Save(d, s))
		is(t, "Ops", d.Ops(), 3+len(plainChunks(s)))
		is(t, "Pending", d.Pending(), 0)
		d.Crash(0)
		d.Start()
		holds(t, d, snap.Name(s.Index), file(s))
		loads(t, d, s)
	}
}

// TestSaveErrors: in their order; nothing is done.
func TestSaveErrors(t *testing.T) {
	wrong := append(badSnaps(), of(1000000000, 3), of(math.MaxInt, 3))
	for _, s := range append([]api.Snapshot{of(5, 3)}, wrong...) {
		is(t, "nil", snap.Save(nil, s), api.ErrMade)
		is(t, "made by no call", snap.Save(&disk.Disk{}, s), api.ErrMade)
		d := onDisk(t, 99, "snap-3", file(of(3, 3)), "snap.new", []byte("x"))
		d.Crash(0)
		ops := d.Ops()
		is(t, "without power", snap.Save(d, s), api.ErrPower)
		is(t, "Ops", d.Ops(), ops)
		d.Start()
		holds(t, d, "snap-3", file(of(3, 3)), "snap.new", []byte("x"))
	}
	for _, s := range wrong {
		d := onDisk(t, 99, "snap-3", file(of(3, 3)), "snap.new", []byte("x"))
		ok(t, d.Arm(1, 0)) // no operation is begun, so that none fails
		ops := d.Ops()
		is(t, show(s), snap.Save(d, s), api.ErrArg)
		is(t, "Ops", d.Ops(), ops)
		holds(t, d, "snap-3", file(of(3, 3)), "snap.new", []byte("x"))
		loads(t, d, of(3, 3))
	}
}

// TestSaveRemoves: files of lesser numbers, whole or not, and no others.
func TestSaveRemoves(t *testing.T) {
	x, y := []byte("x"), []byte("y")
	d := onDisk(t, 999,
		"snap-1", file(of(1, 3)), "snap-9", x, "snap-10", file(of(10, 3)), "snap-11", y, "snap-99", []byte(nil), "snap-100", file(of(100, 3)), "snap-999999999", y,
		"snap-01", x, "snap-0", x, "snap-", x, "snap.new", x, "snap.5", x, "wal-1", x, "wal.new", y, "snap-1000000000", x, "a", y)
	ops := d.Ops()
	ok(t, snap.Save(d, of(11, 200)))
	is(t, "Ops", d.Ops()-ops, 5+3)
	holds(t, d,
		"snap-11", file(of(11, 200)), "snap-99", []byte(nil), "snap-100", file(of(100, 3)), "snap-999999999", y,
		"snap-01", x, "snap-0", x, "snap-", x, "snap.5", x, "wal-1", x, "wal.new", y, "snap-1000000000", x, "a", y)
	loads(t, d, of(100, 3))
	ok(t, snap.Save(d, of(999999999, 0)))
	holds(t, d,
		"snap-999999999", file(of(999999999, 0)),
		"snap-01", x, "snap-0", x, "snap-", x, "snap.5", x, "wal-1", x, "wal.new", y, "snap-1000000000", x, "a", y)
	loads(t, d, of(999999999, 0))
}

// TestSaveRemovesFalling: by numbers, not by bytes of names: where the power fails at one, those of greater numbers are gone.
func TestSaveRemovesFalling(t *testing.T) {
	numbers := []int{100, 20, 10, 9, 3, 2, 1} // falling
	for left := range len(numbers) + 1 {
		d := disk.New(999)
		want := []any{"snap-500", file(of(500, 3))}
		for i, n := range numbers {
			ok(t, d.Create(nameOf(n)))
			if i >= left {
				want = append(want, nameOf(n), []byte(nil))
			}
		}
		ok(t, d.Arm(5+left+1, 0))
		err := snap.Save(d, of(500, 3))
		if left == len(numbers) {
			ok(t, err)
		} else {
			is(t, "Save", err, api.ErrPower)
		}
		d.Start()
		holds(t, d, want...)
		loads(t, d, of(500, 3))
	}
}

// TestSaveAgain: at the same index the newer one counts; one at a lesser index does not take the place of a greater one.
func TestSaveAgain(t *testing.T) {
	d := disk.New(999)
	ok(t, snap.Save(d, of(9, 5000)))
	other := of(9, 20)
	other.Term = 4
	ok(t, snap.Save(d, other))
	holds(t, d, "snap-9", file(other))
	loads(t, d, other)
	ok(t, snap.Save(d, of(5, 1)))
	holds(t, d, "snap-5", file(of(5, 1)), "snap-9", file(other))
	loads(t, d, other)
	ok(t, d.Spoil("snap-9", 30, 0))
	loads(t, d, of(5, 1))
	ok(t, snap.Save(d, of(7, 1)))
	loads(t, d, of(7, 1))
	ok(t, snap.Save(d, other))
	holds(t, d, "snap-9", file(other))
	loads(t, d, other)
}

// TestSaveSyncs: what else is in the buffer is sure, too.
func TestSaveSyncs(t *testing.T) {
	d := onDisk(t, 99, "a", []byte("x"))
	ok(t, d.Append("a", []byte("y")))
	ok(t, snap.Save(d, of(5, 3)))
	d.Crash(0)
	d.Start()
	holds(t, d, "a", []byte("xy"), "snap-5", file(of(5, 3)))
}

// TestSaveFull: on disks with too few blocks; what was there counts, and with enough of them a Save goes on.
func TestSaveFull(t *testing.T) {
	old, s := of(3, 100), of(5, 9000)
	l := plainChunks(s)
	for free := range 200 {
		d := onDisk(t, len(file(old))/64+1+free, "snap-3", file(old))
		fit, size := 0, 0
		for fit < len(l) && (size+len(l[fit]))/64+1 <= free {
			size += len(l[fit])
			fit++
		}
		ops, err := d.Ops(), snap.Save(d, s)
		switch {
		case fit == len(l):
			ok(t, err)
			is(t, "Ops", d.Ops()-ops, 4+len(l))
			holds(t, d, "snap-5", file(s))
			loads(t, d, s)
			continue
		case free == 0:
			is(t, "Ops", d.Ops()-ops, 1)
			holds(t, d, "snap-3", file(old))
		default:
			is(t, "Ops", d.Ops()-ops, 2+fit)
			holds(t, d, "snap-3", file(old), "snap.new", file(s)[:size])
			is(t, "Pending", d.Pending(), size)
		}
		is(t, "Save", err, api.ErrFull)
		loads(t, d, old)
		if free >= 5 { // what was left of the one ahead of it is in nobody's way
			ok(t, snap.Save(d, of(4, 100)))
			holds(t, d, "snap-4", file(of(4, 100)))
			loads(t, d, of(4, 100))
		}
	}
}

// TestSaveOverOthers: a snap.new that is there goes, with its writes in the buffer.
func TestSaveOverOthers(t *testing.T) {
	d := onDisk(t, 99, "snap.new", file(of(9, 200)))
	ok(t, d.Append("snap.new", []byte("more")))
	loadsNothing(t, d, api.OK)
	ok(t, snap.Save(d, of(5, 3)))
	holds(t, d, "snap-5", file(of(5, 3)))
	ok(t, d.Append("snap-5", []byte("more")))
	loadsNothing(t, d, api.OK)
	ok(t, snap.Save(d, of(5, 3)))
	holds(t, d, "snap-5", file(of(5, 3)))
	is(t, "Pending", d.Pending(), 0)
	loads(t, d, of(5, 3))
}
