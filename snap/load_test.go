package snap_test

import (
	"slices"
	"testing"

	"corbel/api"
	"corbel/disk"
)

func TestLoadErrors(t *testing.T) {
	loadsNothing(t, nil, api.ErrMade)
	loadsNothing(t, &disk.Disk{}, api.ErrMade)
	d := onDisk(t, 99, "snap-3", file(of(3, 3)))
	d.Crash(0)
	loadsNothing(t, d, api.ErrPower)
	d.Start()
	ok(t, d.Arm(1, 0)) // it does no operation that could fail
	loads(t, d, of(3, 3))
	is(t, "On", d.On(), true)
	holds(t, d, "snap-3", file(of(3, 3)))
}

// TestLoadOfNone: files that are no snapshots', whatever stands in them.
func TestLoadOfNone(t *testing.T) {
	loadsNothing(t, disk.New(0), api.OK)
	loadsNothing(t, disk.New(9), api.OK)
	b := file(of(5, 3))
	d := onDisk(t, 99, "snap.new", b, "snap-05", b, "snap", b, "snap-", b, "snap-5.", b, "snap5", b, "wal-5", b, "a", b, "snap-0", b, "snap-1000000000", file(of(1000000000, 3)))
	loadsNothing(t, d, api.OK)
	d = onDisk(t, 99, "snap-5", []byte(nil), "snap-6", []byte("x"), "snap-7", b, "snap-4", b, "snap-8", b[1:], "snap-9", b[:len(b)-1])
	loadsNothing(t, d, api.OK)
}

// TestLoadOfTheNewest: by numbers, not by bytes of names; what is not whole, or has another Index, is passed over, and stays.
func TestLoadOfTheNewest(t *testing.T) {
	two, nine, ten, last := of(2, 3), of(9, 5000), of(10, 3), of(999999999, 3)
	d := onDisk(t, 999, "snap-9", file(nine), "snap-2", file(two), "snap-10", file(ten), "snap-999999999", file(last))
	loads(t, d, last)
	ok(t, d.Spoil("snap-999999999", 20, 3))
	loads(t, d, ten)
	ok(t, d.Spoil("snap-999999999", 20, 3))
	loads(t, d, last)
	ok(t, d.Remove("snap-999999999"))
	loads(t, d, ten)
	ok(t, d.Rename("snap-10", "snap-11"))
	loads(t, d, nine)
	ok(t, d.Append("snap-9", []byte{0}))
	loads(t, d, two)
	ok(t, d.Create("snap-2"))
	loadsNothing(t, d, api.OK)
	ok(t, d.Append("snap-2", file(two)))
	loads(t, d, two) // in the buffer or not
	holds(t, d, "snap-2", file(two), "snap-9", append(file(nine), 0), "snap-11", file(ten))
}

// TestLoadOfTurnedBits: each bit of a chunk is seen, and the elder one is told.
func TestLoadOfTurnedBits(t *testing.T) {
	old, s := of(3, 10), of(5, 40)
	d := onDisk(t, 99, "snap-3", file(old), "snap-5", file(s))
	for at := range file(s) {
		for bit := range 8 {
			ok(t, d.Spoil("snap-5", at, bit))
			loads(t, d, old)
			ok(t, d.Spoil("snap-5", at, bit))
		}
	}
	loads(t, d, s)
}

// TestLoadOfMany: the greatest number of many counts, whatever order their names have.
func TestLoadOfMany(t *testing.T) {
	d := disk.New(9999)
	numbers := []int{}
	for n := 1; n <= 999999999; n = n*3 + 1 {
		numbers = append(numbers, n, n+1)
	}
	for _, n := range numbers {
		ok(t, d.Create(nameOf(n)))
		ok(t, d.Append(nameOf(n), file(of(n, 3))))
	}
	slices.Sort(numbers)
	for _, n := range slices.Backward(slices.Compact(numbers)) {
		loads(t, d, of(n, 3))
		ok(t, d.Spoil(nameOf(n), 2, 1))
	}
	loadsNothing(t, d, api.OK)
}
