package disk_test

import (
	"math"
	"strings"
	"testing"

	"corbel/api"
	"corbel/disk"
)

// TestCrashKeeps: none, inside of a write, at a write's end, all and more, with writes of several files in turn.
func TestCrashKeeps(t *testing.T) {
	for _, c := range []struct {
		keep    int
		a, b, c string
	}{
		{math.MinInt, "1", "", ""}, {-1, "1", "", ""}, {0, "1", "", ""},
		{1, "1u", "", ""}, {2, "1uv", "", ""}, {3, "1uvw", "", ""},
		{4, "1uvw", "x", ""}, {5, "1uvw", "xy", ""},
		{6, "1uvwk", "xy", ""},
		{7, "1uvwk", "xy", "p"}, {8, "1uvwk", "xy", "pq"},
		{9, "1uvwk", "xyz", "pq"},
		{10, "1uvwkl", "xyz", "pq"}, {11, "1uvwklm", "xyz", "pq"},
		{12, "1uvwklm", "xyz", "pq"}, {1000, "1uvwklm", "xyz", "pq"}, {math.MaxInt, "1uvwklm", "xyz", "pq"},
	} {
		d := with(t, 9, "a", "1", "b", "", "c", "")
		add(t, d, "a", "uvw", "b", "xy", "a", "k", "c", "", "c", "pq", "b", "z", "a", "lm")
		holds(t, d, 11, "a", "1uvwklm", "b", "xyz", "c", "pq")
		keeps(t, d, c.keep, "a", c.a, "b", c.b, "c", c.c)
		keeps(t, d, 100, "a", c.a, "b", c.b, "c", c.c) // what was lost is not in the buffer any more
	}
}

func TestCrashTwice(t *testing.T) {
	d := with(t, 9, "a", "1")
	add(t, d, "a", "234")
	d.Crash(1)
	d.Crash(2)
	d.Crash(0)
	is(t, "On", d.On(), false)
	d.Start()
	holds(t, d, 0, "a", "12")
	add(t, d, "a", "xyz")
	holds(t, d, 3, "a", "12xyz")
	keeps(t, d, 2, "a", "12xy")
	ok(t, d.Sync())
	keeps(t, d, 0, "a", "12xy")
}

func TestStartWithoutACrash(t *testing.T) {
	d := with(t, 9, "a", "1")
	add(t, d, "a", "23")
	ops := d.Ops()
	d.Start()
	d.Start()
	is(t, "Ops", d.Ops(), ops)
	holds(t, d, 2, "a", "123")
	keeps(t, d, 1, "a", "12")
}

// TestWithoutPower: what is told and answered then, and that all of it is there behind Start.
func TestWithoutPower(t *testing.T) {
	d := with(t, 9, "a", "12", "b", "3")
	add(t, d, "b", "4")
	ops := d.Ops()
	d.Crash(1)
	is(t, "On", d.On(), false)
	is(t, "List", len(d.List()), 0)
	is(t, "Used", d.Used(), 0)
	is(t, "Pending", d.Pending(), 0)
	is(t, "Ops", d.Ops(), ops)
	b, err := d.Read("a")
	is(t, "Read", err, api.ErrPower)
	is(t, "bytes", len(b), 0)
	for what, err := range map[string]api.Errno{ // power comes ahead of all that may be wrong beside it
		"Create": d.Create("a"), "Create of no name": d.Create(""), "Append": d.Append("a", []byte("x")), "Append to none": d.Append("none", nil),
		"Append of too much": d.Append("a", make([]byte, 1000)), "Sync": d.Sync(), "Rename": d.Rename("a", "c"), "Rename to no name": d.Rename("a", "A"),
		"Rename of none": d.Rename("none", "c"), "Remove": d.Remove("a"), "Remove of none": d.Remove("none"), "Arm": d.Arm(1, 1), "Arm of none": d.Arm(0, 0),
		"Spoil": d.Spoil("a", 0, 0), "Spoil of none": d.Spoil("none", 0, 0), "Spoil of no bit": d.Spoil("a", 0, 9),
	} {
		is(t, what, err, api.ErrPower)
	}
	is(t, "Ops", d.Ops(), ops)
	d.Start()
	holds(t, d, 0, "a", "12", "b", "34")
	ok(t, d.Sync()) // nothing was armed
}

// TestPowerAheadOfFull: on a disk with no block free.
func TestPowerAheadOfFull(t *testing.T) {
	d := with(t, 1, "a", "")
	d.Crash(0)
	is(t, "Create", d.Create("b"), api.ErrPower)
	is(t, "Append", d.Append("a", make([]byte, 64)), api.ErrPower)
}

// operations: of each kind, for a disk of a 1 and b 2 that has no room for many bytes, or for no file more.
func operations(d *disk.Disk) map[string]func() api.Errno {
	return map[string]func() api.Errno{
		"Create":              func() api.Errno { return d.Create("new") },
		"Create of one":       func() api.Errno { return d.Create("a") },
		"Append":              func() api.Errno { return d.Append("a", []byte("!")) },
		"Append of nothing":   func() api.Errno { return d.Append("a", nil) },
		"Append of too much":  func() api.Errno { return d.Append("a", make([]byte, 1000)) },
		"Sync":                d.Sync,
		"Rename":              func() api.Errno { return d.Rename("a", "new") },
		"Rename onto one":     func() api.Errno { return d.Rename("a", "b") },
		"Rename onto itself":  func() api.Errno { return d.Rename("a", "a") },
		"Remove":              func() api.Errno { return d.Remove("a") },
		"Remove of the other": func() api.Errno { return d.Remove("b") },
	}
}

// TestArm: whichever operation it is, it is not done, but counted, and of the buffer as it was so much is left.
func TestArm(t *testing.T) {
	for what := range operations(nil) {
		for _, blocks := range []int{2, 9} { // on a disk of two, no block is free
			for _, n := range []int{1, 2, 5} {
				for keep, want := range map[int]string{math.MinInt: "1 2", -1: "1 2", 0: "1 2", 1: "13 2", 2: "134 2", 3: "134 25", 4: "1346 25", 5: "1346 25", math.MaxInt: "1346 25"} {
					d := with(t, blocks, "a", "1", "b", "2")
					add(t, d, "a", "34", "b", "5", "a", "6")
					ok(t, d.Arm(n, keep))
					for range n - 1 {
						ok(t, d.Append("b", nil))
					}
					ops := d.Ops()
					is(t, what, operations(d)[what](), api.ErrPower)
					is(t, what+": Ops", d.Ops(), ops+1)
					is(t, what+": On", d.On(), false)
					is(t, what+": again", d.Sync(), api.ErrPower)
					is(t, what+": Ops", d.Ops(), ops+1)
					d.Start()
					parts := strings.Split(want, " ")
					holds(t, d, 0, "a", parts[0], "b", parts[1])
					ok(t, d.Sync()) // no other one fails
					ok(t, d.Sync())
				}
			}
		}
	}
}

// TestArmCounts: the n-th from now on, not one more or less, and each kind of operation counts.
func TestArmCounts(t *testing.T) {
	for n := 1; n <= 8; n++ {
		d := with(t, 9, "a", "1")
		ops := d.Ops()
		ok(t, d.Arm(n, 100))
		for i, do := range []func() api.Errno{
			func() api.Errno { return d.Create("b") },
			func() api.Errno { return d.Append("b", []byte("x")) },
			func() api.Errno { return d.Append("b", nil) },
			d.Sync,
			func() api.Errno { return d.Rename("b", "c") },
			func() api.Errno { return d.Rename("c", "c") },
			func() api.Errno { return d.Remove("c") },
			d.Sync,
		} {
			want := api.OK
			if i+1 >= n {
				want = api.ErrPower
			}
			is(t, "an operation", do(), want)
			is(t, "Ops", d.Ops(), ops+min(i+1, n))
			is(t, "On", d.On(), i+1 < n)
		}
	}
}

// TestArmNothing: n below 1, which takes back what was armed, and answers no error.
func TestArmNothing(t *testing.T) {
	for _, n := range []int{0, -1, -5, math.MinInt} {
		d := with(t, 9, "a", "1")
		ok(t, d.Arm(n, 5))
		for range 10 {
			ok(t, d.Append("a", nil))
		}
		ok(t, d.Arm(1, 5))
		ok(t, d.Arm(n, 5))
		for range 10 {
			ok(t, d.Append("a", nil))
		}
		holds(t, d, 0, "a", "1")
	}
}

// TestArmAnew: the last one counts, from then on, with its keep.
func TestArmAnew(t *testing.T) {
	for _, n := range [][2]int{{1, 3}, {3, 1}, {2, 2}, {5, 2}, {1, 1}, {math.MaxInt, 4}} {
		d := with(t, 9, "a", "1")
		add(t, d, "a", "23")
		ok(t, d.Arm(n[0], 0))
		if n[0] > 1 {
			ok(t, d.Append("a", nil))
		}
		ok(t, d.Arm(n[1], 1))
		for range n[1] - 1 {
			ok(t, d.Append("a", nil))
		}
		is(t, "armed", d.Append("a", []byte("4")), api.ErrPower)
		d.Start()
		holds(t, d, 0, "a", "12")
	}
	d := with(t, 9, "a", "1")
	ok(t, d.Arm(math.MaxInt, 0))
	for range 1000 {
		ok(t, d.Sync())
	}
}

// TestArmBehindStart: nothing is armed any more, whether the power was off or not.
func TestArmBehindStart(t *testing.T) {
	for _, crash := range []bool{false, true} {
		d := with(t, 9, "a", "1")
		ok(t, d.Arm(2, 0))
		if crash {
			d.Crash(0)
		}
		d.Start()
		for range 5 {
			ok(t, d.Sync())
		}
		ok(t, d.Arm(2, 0)) // and may be armed again
		ok(t, d.Sync())
		is(t, "armed again", d.Sync(), api.ErrPower)
	}
}

// TestArmAndErrors: what is not counted does not bring the armed one nearer, nor is it the armed one; what is counted does, though it ends in ErrFull.
func TestArmAndErrors(t *testing.T) {
	d := with(t, 1, "a", "1")
	add(t, d, "a", "23")
	ops := d.Ops()
	wrong := func() {
		t.Helper()
		is(t, "Create", d.Create("A"), api.ErrName)
		is(t, "Rename", d.Rename("a", ""), api.ErrName)
		is(t, "Rename", d.Rename("b", "c"), api.ErrNone)
		is(t, "Append", d.Append("b", nil), api.ErrNone)
		is(t, "Remove", d.Remove("b"), api.ErrNone)
		d.Read("a")
		d.Spoil("a", 9, 9)
	}
	ok(t, d.Arm(4, 1))
	wrong()
	is(t, "Create", d.Create("b"), api.ErrFull)
	is(t, "Append", d.Append("a", make([]byte, 100)), api.ErrFull)
	ok(t, d.Append("a", nil))
	wrong()
	is(t, "Ops", d.Ops(), ops+3)
	holds(t, d, 2, "a", "123")
	is(t, "the fourth", d.Create("b"), api.ErrPower) // it would be ErrFull
	is(t, "Ops", d.Ops(), ops+4)
	d.Start()
	holds(t, d, 0, "a", "12")
	is(t, "Create", d.Create("b"), api.ErrFull)
	ok(t, d.Arm(1, 0))
	is(t, "Append", d.Append("a", make([]byte, 100)), api.ErrPower)
	is(t, "Ops", d.Ops(), ops+6)
}

// TestArmWithoutPower: ErrPower, and nothing is armed behind Start.
func TestArmWithoutPower(t *testing.T) {
	d := with(t, 9, "a", "1")
	d.Crash(0)
	is(t, "Arm", d.Arm(1, 0), api.ErrPower)
	d.Start()
	ok(t, d.Sync())
	ok(t, d.Sync())
}

func TestSpoil(t *testing.T) {
	for bit := range 8 {
		for at := range 6 {
			want := []byte("abcdef")
			d := with(t, 9, "x", "abc", "y", "abcdef")
			add(t, d, "x", "de", "x", "f")
			ops := d.Ops()
			ok(t, d.Spoil("x", at, bit))
			want[at] ^= []byte{1, 2, 4, 8, 16, 32, 64, 128}[bit]
			holds(t, d, 3, "x", string(want), "y", "abcdef")
			is(t, "Ops", d.Ops(), ops)
			ok(t, d.Spoil("x", at, bit))
			holds(t, d, 3, "x", "abcdef", "y", "abcdef")
		}
	}
}

func TestSpoilOutside(t *testing.T) {
	d := with(t, 9, "x", "ab", "none", "")
	add(t, d, "x", "c")
	for _, c := range []struct{ at, bit int }{
		{-1, 0}, {3, 0}, {4, 7}, {64, 0}, {math.MinInt, 0}, {math.MaxInt, 0},
		{0, -1}, {0, 8}, {2, -1}, {2, 8}, {0, 64}, {0, math.MinInt}, {0, math.MaxInt}, {-1, -1}, {3, 8},
	} {
		is(t, "Spoil", d.Spoil("x", c.at, c.bit), api.ErrRange)
		is(t, "Spoil of none", d.Spoil("y", c.at, c.bit), api.ErrNone)
	}
	for _, at := range []int{-1, 0, 1} {
		is(t, "Spoil of an empty file", d.Spoil("none", at, 0), api.ErrRange)
	}
	holds(t, d, 1, "x", "abc", "none", "")
	keeps(t, d, 0, "x", "ab", "none", "")
	is(t, "Spoil of what is lost", d.Spoil("x", 2, 0), api.ErrRange)
}

// TestSpoilLasts: the turned bit is the file's, of a sure byte at once, of one in the buffer as far as a crash leaves that, and behind a Sync, too.
func TestSpoilLasts(t *testing.T) {
	spoilt := func() *disk.Disk {
		d := with(t, 9, "x", "abc")
		add(t, d, "x", "def", "x", "ghi")
		for _, at := range []int{0, 2, 3, 7, 8} {
			ok(t, d.Spoil("x", at, 5)) // a capital
		}
		holds(t, d, 6, "x", "AbCDefgHI")
		return d
	}
	for keep, want := range []string{"AbC", "AbCD", "AbCDe", "AbCDef", "AbCDefg", "AbCDefgH", "AbCDefgHI", "AbCDefgHI"} {
		keeps(t, spoilt(), keep, "x", want)
	}
	d := spoilt()
	ok(t, d.Sync())
	holds(t, d, 0, "x", "AbCDefgHI")
	add(t, d, "x", "jk")
	keeps(t, d, 1, "x", "AbCDefgHIj")
	d = spoilt()
	d.Crash(1)
	d.Start()
	add(t, d, "x", "new") // the bytes that come where spoilt ones were lost are whole
	holds(t, d, 3, "x", "AbCDnew")
}

// unmade: disks that no call made.
func unmade() map[string]*disk.Disk {
	return map[string]*disk.Disk{"nil": nil, "zero": new(disk.Disk), "too great": disk.New(1<<24 + 1), "below 0": disk.New(-1)}
}

func TestUnmade(t *testing.T) {
	for name, d := range unmade() {
		for range 2 { // nothing that is done makes one of it
			for what, err := range map[string]api.Errno{
				"Create": d.Create("a"), "Create of no name": d.Create("A"), "Append": d.Append("a", []byte("x")), "Append of nothing": d.Append("", nil),
				"Sync": d.Sync(), "Rename": d.Rename("a", "b"), "Rename to no name": d.Rename("a", ""), "Rename onto itself": d.Rename("a", "a"),
				"Remove": d.Remove("a"), "Arm": d.Arm(1, 1), "Arm of none": d.Arm(0, 0), "Spoil": d.Spoil("a", 0, 0), "Spoil of no bit": d.Spoil("a", -1, -1),
			} {
				is(t, name+": "+what, err, api.ErrMade)
			}
			b, err := d.Read("a")
			is(t, name+": Read", err, api.ErrMade)
			is(t, name+": bytes", len(b), 0)
			is(t, name+": List", len(d.List()), 0)
			is(t, name+": Used", d.Used(), 0)
			is(t, name+": Pending", d.Pending(), 0)
			is(t, name+": Ops", d.Ops(), 0)
			is(t, name+": On", d.On(), false)
			d.Crash(5)
			d.Crash(-1)
			is(t, name+": On behind a crash", d.On(), false)
			d.Start()
			is(t, name+": On behind a start", d.On(), false)
		}
	}
}
