package snap_test

import (
	"testing"

	"corbel/api"
	"corbel/disk"
	"corbel/snap"
)

// scene: the files ahead of a Save in which the power fails: a name and its bytes by turns.
type scene struct {
	name  string
	files []any
	told  api.Snapshot // by Load ahead of it; zero: nothing
	s     api.Snapshot
	gone  int // how many files are removed
	last  api.Snapshot
}

func scenes() []scene {
	two, five, nine := of(2, 10), of(5, 40), of(9, 9000)
	torn := file(nine)[:5000]
	other := of(5, 300)
	none := api.Snapshot{}
	return []scene{
		{"the first", nil, none, five, 0, five},
		{"a great one", nil, none, nine, 0, nine},
		{"one behind another", []any{"snap-2", file(two)}, two, five, 1, five},
		{"one behind two", []any{"snap-2", file(two), "snap-5", file(five)}, five, nine, 2, nine},
		{"at the same index", []any{"snap-2", file(two), "snap-5", file(other)}, other, five, 1, five},
		{"the same once more", []any{"snap-5", file(five)}, five, five, 0, five},
		{"an elder one", []any{"snap-9", file(nine), "snap-2", file(two)}, nine, five, 1, nine},
		{"behind one that is torn", []any{"snap-9", torn, "snap-2", file(two)}, two, five, 1, five},
		{"over one that is torn", []any{"snap-9", torn, "snap-2", file(two)}, two, nine, 1, nine},
		{"with a snap.new", []any{"snap.new", file(nine), "snap-2", file(two)}, two, five, 1, five},
		{"with other files", []any{"wal-1", []byte("x"), "snap-3", []byte("y")}, none, five, 1, five},
	}
}

// play: the power fails at the n-th operation (0: not at all), and keep bytes of the buffer are left: the disk, with its power on again.
func (c scene) play(t *testing.T, n, keep int) *disk.Disk {
	t.Helper()
	d := onDisk(t, 999, c.files...)
	c.tells(t, d, c.told)
	ops := d.Ops()
	ok(t, d.Arm(n, keep))
	err := snap.Save(d, c.s)
	if n == 0 {
		ok(t, err)
		is(t, c.name+": Ops", d.Ops()-ops, c.ops())
	} else {
		is(t, c.name, err, api.ErrPower)
		is(t, c.name+": Ops", d.Ops()-ops, n)
		loadsNothing(t, d, api.ErrPower)
	}
	d.Start()
	return d
}

// ops: how many operations the Save has.
func (c scene) ops() int { return 3 + len(plainChunks(c.s)) + c.gone }

// tells: Load tells that snapshot; nothing, if it is zero.
func (c scene) tells(t *testing.T, d *disk.Disk, want api.Snapshot) {
	t.Helper()
	if want.Index == 0 {
		loadsNothing(t, d, api.OK)
		return
	}
	loads(t, d, want)
}

// TestPower: the power fails at each operation of a Save, with so many bytes kept: Load tells what it told ahead of it up to the renaming, and then what it tells behind a whole Save; the next Save goes on.
func TestPower(t *testing.T) {
	for _, c := range scenes() {
		c.tells(t, c.play(t, 0, 0), c.last)
		for n := 1; n <= c.ops(); n++ {
			for keep := -1; keep <= len(file(c.s))+1; keep += 1 + keep/15 {
				want := c.told
				if n > 3+len(plainChunks(c.s)) {
					want = c.last
				}
				d := c.play(t, n, keep)
				c.tells(t, d, want)
				ok(t, snap.Save(d, c.s))
				c.tells(t, d, c.last)
				ok(t, snap.Save(d, of(10, 3)))
				d.Crash(0)
				d.Start()
				loads(t, d, of(10, 3))
			}
		}
	}
}

// TestPowerTwice: the power fails at two Saves one behind the other.
func TestPowerTwice(t *testing.T) {
	for _, c := range scenes() {
		for n := 1; n <= c.ops(); n++ {
			for m := 1; m <= 5; m++ {
				d := c.play(t, n, 70)
				ahead, was, err := snap.Load(d)
				ok(t, err)
				ok(t, d.Arm(m, 30))
				is(t, "Save", snap.Save(d, of(10, 3)), api.ErrPower)
				d.Start()
				s, is, err := snap.Load(d)
				if err != api.OK || is != was || !same(s, ahead) {
					t.Fatalf("%s: %s, %t, %v, want %s", c.name, show(s), is, err, show(ahead))
				}
			}
		}
	}
}
