package snap_test

import (
	"fmt"
	"math/rand"
	"testing"

	"corbel/api"
	"corbel/disk"
	"corbel/snap"
)

// two: two disks to which the same is done, by the program and by a plain telling of the chapter.
type two struct {
	t    *testing.T
	a, b *disk.Disk
}

// same: the disks have the same in them, by as many operations, and the same snapshot is told of them.
func (x *two) same(what string) {
	x.t.Helper()
	is(x.t, what+": On", x.a.On(), x.b.On())
	is(x.t, what+": Ops", x.a.Ops(), x.b.Ops())
	is(x.t, what+": Pending", x.a.Pending(), x.b.Pending())
	is(x.t, what+": files", contents(x.a), contents(x.b))
	s, told, err := snap.Load(x.a)
	want, there, wrong := plainLoad(x.b)
	if told != there || err != wrong || !same(s, want) {
		x.t.Fatalf("%s: Load: %s, %t, %v, want %s, %t, %v", what, show(s), told, err, show(want), there, wrong)
	}
}

func contents(d *disk.Disk) string {
	all := ""
	for _, name := range d.List() {
		b, _ := d.Read(name)
		all += fmt.Sprintf("%s %x\n", name, b)
	}
	return all
}

// both: an operation on each disk.
func (x *two) both(what string, do func(d *disk.Disk)) {
	x.t.Helper()
	do(x.a)
	do(x.b)
	x.same(what)
}

// some: a snapshot, which is mostly good.
func some(r *rand.Rand) api.Snapshot {
	size := r.Intn(200)
	if r.Intn(8) == 0 {
		size = r.Intn(9000)
	}
	s := of(1+r.Intn(14), size)
	switch r.Intn(30) {
	case 0:
		s.Index = []int{-1, 0, 999999999, 1000000000}[r.Intn(4)]
	case 1:
		s.Term = r.Intn(2)
	case 2:
		s.Conf.Voters = nil
	}
	return s
}

// save: where the power fails in it, Load tells what it told ahead of it, or what was to be saved.
func (x *two) save(s api.Snapshot) {
	x.t.Helper()
	on := x.a.On()
	ahead, was, _ := snap.Load(x.a)
	want := plainSave(x.b, s)
	is(x.t, "Save", snap.Save(x.a, s), want)
	x.same("Save")
	if on && want == api.ErrPower {
		x.both("Start", (*disk.Disk).Start)
		got, told, err := snap.Load(x.a)
		ok(x.t, err)
		if (told != was || !same(got, ahead)) && (!told || !same(got, s)) {
			x.t.Fatalf("Load: %s, %t, want %s, %t, or %s", show(got), told, show(ahead), was, show(s))
		}
	}
}

// others: somebody else writes a file, and it is sure.
func (x *two) others(r *rand.Rand) {
	x.t.Helper()
	name := []string{"snap.new", "a", nameOf(1 + r.Intn(14)), nameOf(1 + r.Intn(14))}[r.Intn(4)]
	b := file(of(1+r.Intn(14), r.Intn(90)))
	b = b[:len(b)-r.Intn(2)*r.Intn(4)]
	x.both("others", func(d *disk.Disk) {
		d.Create(name)
		d.Append(name, b)
		d.Sync()
	})
}

// step: one call that is drawn.
func (x *two) step(r *rand.Rand) {
	x.t.Helper()
	n, keep := 1+r.Intn(9), r.Intn(300)-1
	switch k := r.Intn(99); {
	case k < 50:
		x.save(some(r))
	case k < 70:
		x.both("Arm", func(d *disk.Disk) { d.Arm(n, keep) })
	case k < 72:
		x.both("Crash", func(d *disk.Disk) { d.Crash(keep) })
	case k < 80:
		x.both("Start", (*disk.Disk).Start)
	case k < 85:
		name, at, bit := nameOf(1+r.Intn(14)), r.Intn(200), r.Intn(8)
		x.both("Spoil", func(d *disk.Disk) { d.Spoil(name, at, bit) })
	case k < 90:
		name := nameOf(1 + r.Intn(14))
		x.both("Remove", func(d *disk.Disk) { d.Remove(name) })
	default:
		x.others(r)
	}
}

// TestDrawn: drawn calls, on disks that are soon full and on some that are not, with power that fails, bits that are turned, and others who write.
func TestDrawn(t *testing.T) {
	for seed := range 120 {
		r := rand.New(rand.NewSource(int64(seed)))
		blocks := []int{0, 1, 2, 3, 5, 8, 12, 20, 50, 5000}[seed%10]
		x := &two{t: t, a: disk.New(blocks), b: disk.New(blocks)}
		for range 200 {
			x.step(r)
		}
	}
}
