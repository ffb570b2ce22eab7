package disk_test

import (
	"bytes"
	"math"
	"slices"
	"strings"
	"testing"

	"corbel/api"
	"corbel/disk"
)

// is: an answer is that one.
func is[T comparable](t *testing.T, what string, got, want T) {
	t.Helper()
	if got != want {
		t.Fatalf("%s: %v, want %v", what, got, want)
	}
}

// ok: a call answered no error.
func ok(t *testing.T, err api.Errno) {
	t.Helper()
	if err != api.OK {
		t.Fatalf("%v (%d), want ok", err, int(err))
	}
}

// made: a disk of so many blocks.
func made(t *testing.T, blocks int) *disk.Disk {
	t.Helper()
	d := disk.New(blocks)
	if d == nil {
		t.Fatalf("New(%d): nil", blocks)
	}
	return d
}

// with: a disk of so many blocks, with files that are sure: a name and its bytes by turns.
func with(t *testing.T, blocks int, files ...string) *disk.Disk {
	t.Helper()
	d := made(t, blocks)
	for i := 0; i+1 < len(files); i += 2 {
		ok(t, d.Create(files[i]))
		ok(t, d.Append(files[i], []byte(files[i+1])))
	}
	ok(t, d.Sync())
	return d
}

// add: text behind a file, in the buffer: a name and its text by turns.
func add(t *testing.T, d *disk.Disk, writes ...string) {
	t.Helper()
	for i := 0; i+1 < len(writes); i += 2 {
		ok(t, d.Append(writes[i], []byte(writes[i+1])))
	}
}

// read: a file that is there.
func read(t *testing.T, d *disk.Disk, name string) string {
	t.Helper()
	b, err := d.Read(name)
	ok(t, err)
	return string(b)
}

// holds: all that a disk with power tells of its files: a name and its bytes by turns, and how many bytes are in the buffer.
func holds(t *testing.T, d *disk.Disk, pending int, files ...string) {
	t.Helper()
	var names []string
	blocks := 0
	for i := 0; i+1 < len(files); i += 2 {
		names = append(names, files[i])
		if got := read(t, d, files[i]); got != files[i+1] {
			t.Fatalf("Read(%s): %q, want %q", files[i], got, files[i+1])
		}
		blocks += len(files[i+1])/64 + 1
	}
	slices.Sort(names)
	if got := d.List(); !slices.Equal(got, names) {
		t.Fatalf("List %q, want %q", got, names)
	}
	is(t, "Used", d.Used(), blocks)
	is(t, "Pending", d.Pending(), pending)
	is(t, "On", d.On(), true)
}

// keeps: what a disk has behind a crash and a start.
func keeps(t *testing.T, d *disk.Disk, keep int, files ...string) {
	t.Helper()
	d.Crash(keep)
	is(t, "On behind a crash", d.On(), false)
	d.Start()
	holds(t, d, 0, files...)
}

// long: a text of so many bytes, no two neighbours of which are alike.
func long(n int) string {
	return strings.Repeat("abcdefghijklmnopqrstuvwxyz", n/26+1)[:n]
}

func TestExample(t *testing.T) {
	d := made(t, 3)
	ok(t, d.Create("a"))
	ok(t, d.Append("a", []byte("xyz")))
	ok(t, d.Sync())
	ok(t, d.Create("b"))
	ok(t, d.Append("b", []byte("pq")))
	ok(t, d.Append("a", []byte("r")))
	holds(t, d, 3, "a", "xyzr", "b", "pq")
	keeps(t, d, 1, "a", "xyz", "b", "p")
	is(t, "140 bytes more", d.Append("b", make([]byte, 140)), api.ErrFull)
	holds(t, d, 0, "a", "xyz", "b", "p")
	d = with(t, 2, "a", long(64))
	is(t, "blocks of 64 bytes", d.Used(), 2)
}

func TestNew(t *testing.T) {
	for _, blocks := range []int{0, 1, 2, 1000, 1<<24 - 1, 1 << 24} {
		d := made(t, blocks)
		is(t, "Ops", d.Ops(), 0)
		holds(t, d, 0)
	}
	for _, blocks := range []int{-1, -1 << 24, math.MinInt, 1<<24 + 1, 1 << 25, math.MaxInt32, 1<<32 + 1, math.MaxInt} {
		if d := disk.New(blocks); d != nil {
			t.Errorf("New(%d) is a disk", blocks)
		}
	}
}

func TestNoBlocks(t *testing.T) {
	d := made(t, 0)
	is(t, "Create", d.Create("a"), api.ErrFull)
	is(t, "Append", d.Append("a", nil), api.ErrNone)
	is(t, "Remove", d.Remove("a"), api.ErrNone)
	ok(t, d.Sync())
	is(t, "Ops", d.Ops(), 2)
	holds(t, d, 0)
	keeps(t, d, 5)
}

// TestMostBlocks: what a great disk has room for is not all told by a small one.
func TestMostBlocks(t *testing.T) {
	d := made(t, 1<<24)
	ok(t, d.Create("a"))
	part := []byte(long(1 << 20))
	for range 8 {
		ok(t, d.Append("a", part))
	}
	is(t, "Used", d.Used(), 8<<20/64+1)
	is(t, "Pending", d.Pending(), 8<<20)
	d.Crash(3 << 20)
	d.Start()
	is(t, "kept", len(read(t, d, "a")), 3<<20)
	is(t, "Used behind a crash", d.Used(), 3<<20/64+1)
}

func TestGoodLengths(t *testing.T) {
	for n := range 60 {
		is(t, "letters", disk.Good(strings.Repeat("a", n)), n >= 1 && n <= 24)
		is(t, "a letter and signs", disk.Good("z"+strings.Repeat("-", n)), n <= 23)
	}
	is(t, "a very long name", disk.Good(strings.Repeat("a", 1<<20)), false)
}

// TestGoodSigns: each byte, alone, and behind, between and at the end of letters.
func TestGoodSigns(t *testing.T) {
	const letters, others = "abcdefghijklmnopqrstuvwxyz", "0123456789.-"
	for i := range 256 {
		c := string([]byte{byte(i)})
		first := strings.Contains(letters, c)
		later := first || strings.Contains(others, c)
		for name, want := range map[string]bool{
			c: first, c + "a": first, c + "1": first, c + c: first,
			"a" + c: later, "a" + c + "b": later, "a." + c: later, strings.Repeat("a", 23) + c: later,
			strings.Repeat("a", 24) + c: false,
		} {
			if got := disk.Good(name); got != want {
				t.Errorf("Good(%q): %t", name, got)
			}
		}
	}
}

func TestGoodNames(t *testing.T) {
	for _, name := range []string{"a", "z", "wal-1", "wal.new", "snap-999999999", "a--..00", "x-", "x."} {
		is(t, name, disk.Good(name), true)
	}
	for _, name := range []string{"", "1", "-a", ".a", "A", "aB", "a b", " a", "a ", "a_b", "a/b", "a\x00", "\x00a", "é", "aé", "a\x80", "a\xff", "ａ"} {
		is(t, name, disk.Good(name), false)
	}
}

// TestNamesOfCalls: which calls ask for a good name, and what the others say of one that is none.
func TestNamesOfCalls(t *testing.T) {
	d := with(t, 9, "a", "xyz")
	most := strings.Repeat("m", 24)
	ok(t, d.Create(most))
	ok(t, d.Rename(most, "b"))
	ok(t, d.Rename("b", most))
	ops := d.Ops()
	for _, name := range []string{"", "1a", "A", "a\x80", most + "m"} {
		is(t, "Create", d.Create(name), api.ErrName)
		is(t, "Rename to it", d.Rename("a", name), api.ErrName)
		is(t, "Rename of nothing to it", d.Rename("none", name), api.ErrName)
		is(t, "Rename of it to itself", d.Rename(name, name), api.ErrName)
		is(t, "Rename of it", d.Rename(name, "c"), api.ErrNone)
		is(t, "Append", d.Append(name, []byte("x")), api.ErrNone)
		is(t, "Remove", d.Remove(name), api.ErrNone)
		is(t, "Spoil", d.Spoil(name, 0, 0), api.ErrNone)
		b, err := d.Read(name)
		is(t, "Read", err, api.ErrNone)
		is(t, "bytes", len(b), 0)
	}
	is(t, "Ops", d.Ops(), ops)
	holds(t, d, 0, "a", "xyz", most, "")
}

// TestBlocks: which files need how many, whether their bytes are sure or not, written at once or one by one.
func TestBlocks(t *testing.T) {
	for size, want := range map[int]int{0: 1, 1: 1, 62: 1, 63: 1, 64: 2, 65: 2, 127: 2, 128: 3, 129: 3, 640: 11} {
		d := made(t, want)
		ok(t, d.Create("a"))
		is(t, "an empty file", d.Used(), 1)
		ok(t, d.Append("a", []byte(long(size))))
		is(t, "in the buffer", d.Used(), want)
		ok(t, d.Sync())
		is(t, "sure", d.Used(), want)
		ok(t, d.Remove("a"))
		is(t, "removed", d.Used(), 0)
		ok(t, d.Create("b"))
		for i := range size {
			ok(t, d.Append("b", []byte{long(size)[i]}))
			is(t, "byte by byte", d.Used(), (i+1)/64+1)
		}
		holds(t, d, size, "b", long(size))
	}
}

func TestUsedOfSeveral(t *testing.T) {
	d := made(t, 20)
	want := 0
	for i, size := range []int{0, 63, 64, 65, 200} {
		name := string(rune('a' + i))
		ok(t, d.Create(name))
		ok(t, d.Append(name, make([]byte, size)))
		want += size/64 + 1
		is(t, "Used", d.Used(), want)
	}
	ok(t, d.Create("e"))
	is(t, "created anew", d.Used(), want-3)
	ok(t, d.Rename("d", "c"))
	is(t, "renamed onto one", d.Used(), want-5)
	ok(t, d.Rename("b", "f"))
	is(t, "renamed", d.Used(), want-5)
	ok(t, d.Remove("f"))
	is(t, "removed", d.Used(), want-6)
	d.Crash(0)
	d.Start()
	is(t, "behind a crash", d.Used(), 3) // a, c and e, without bytes
}

// TestListByBytes: whatever the order in which they came.
func TestListByBytes(t *testing.T) {
	names := []string{"a", "a-", "a--", "a-1", "a.", "a.b", "a0", "a1", "a10", "a2", "aa", "ab", "b", "ba", "wal-1", "wal-10", "wal-2", "wal.new", "z", "z.z", "zz"}
	for _, turn := range []int{1, 2, 5, 8, 10, 20} { // none of them has a part in common with 21
		d := made(t, 100)
		for i := range names {
			ok(t, d.Create(names[i*turn%len(names)]))
		}
		if got := d.List(); !slices.Equal(got, names) {
			t.Fatalf("%q", got)
		}
		ok(t, d.Rename("b", "a1.")) // takes its new place
		ok(t, d.Remove("a-"))
		want := slices.Concat(names[:1], names[2:8], []string{"a1."}, names[8:12], names[13:])
		if got := d.List(); !slices.Equal(got, want) {
			t.Fatalf("%q, want %q", got, want)
		}
	}
}

func TestOps(t *testing.T) {
	d := made(t, 2)
	for i, do := range []func() api.Errno{
		func() api.Errno { return d.Create("a") },
		func() api.Errno { return d.Append("a", []byte("x")) },
		func() api.Errno { return d.Append("a", nil) },
		d.Sync,
		d.Sync,
		func() api.Errno { return d.Rename("a", "b") },
		func() api.Errno { return d.Rename("b", "b") },
		func() api.Errno { return d.Create("b") },
		func() api.Errno { return d.Remove("b") },
	} {
		ok(t, do())
		is(t, "Ops", d.Ops(), i+1)
	}
	ok(t, d.Create("a"))
	for _, call := range []func(){ // none of these is an operation
		func() { d.Read("a") }, func() { d.Read("none") }, func() { d.List() }, func() { d.Used() }, func() { d.Pending() },
		func() { d.On() }, func() { d.Ops() }, func() { d.Spoil("a", 0, 0) }, func() { d.Arm(9, 9) }, func() { d.Arm(0, 0) },
		func() { d.Crash(0) }, func() { d.Start() }, func() { disk.Good("a") },
	} {
		call()
		is(t, "Ops", d.Ops(), 10)
	}
}

// TestErrorsAndOps: ErrPower, ErrName and ErrNone come ahead of the count, ErrFull behind it; none of them changes a file.
func TestErrorsAndOps(t *testing.T) {
	d := with(t, 2, "a", long(63))
	add(t, d, "a", "yz")
	ops := d.Ops()
	for _, c := range []struct {
		what string
		got  api.Errno
		want api.Errno
	}{
		{"Create", d.Create("A"), api.ErrName},
		{"Append", d.Append("b", nil), api.ErrNone},
		{"Rename", d.Rename("a", "A"), api.ErrName},
		{"Rename", d.Rename("b", "c"), api.ErrNone},
		{"Rename", d.Rename("b", "b"), api.ErrNone},
		{"Rename", d.Rename("b", "a"), api.ErrNone},
		{"Remove", d.Remove("b"), api.ErrNone},
	} {
		is(t, c.what, c.got, c.want)
	}
	is(t, "Ops", d.Ops(), ops)
	is(t, "Create", d.Create("b"), api.ErrFull)
	is(t, "Ops", d.Ops(), ops+1)
	is(t, "Append", d.Append("a", make([]byte, 63)), api.ErrFull)
	is(t, "Ops", d.Ops(), ops+2)
	holds(t, d, 2, "a", long(63)+"yz")
	d.Crash(0)
	for _, got := range []api.Errno{
		d.Create("a"), d.Create("b"), d.Append("a", nil), d.Append("a", make([]byte, 200)), d.Sync(), d.Rename("a", "b"), d.Rename("a", "a"), d.Remove("a"),
	} {
		is(t, "without power", got, api.ErrPower)
	}
	is(t, "Ops", d.Ops(), ops+2)
	d.Start()
	is(t, "Ops", d.Ops(), ops+2)
	holds(t, d, 0, "a", long(63))
}

func TestAppendOfNothing(t *testing.T) {
	d := made(t, 1)
	ok(t, d.Create("a"))
	for _, b := range [][]byte{nil, {}, make([]byte, 0, 9)} {
		ok(t, d.Append("a", b))
		holds(t, d, 0, "a", "")
	}
	add(t, d, "a", long(63))
	ok(t, d.Append("a", nil)) // no byte more has room, none is asked for
	holds(t, d, 63, "a", long(63))
	is(t, "Ops", d.Ops(), 6)
	keeps(t, d, 63, "a", long(63))
}

// TestAppendThatJustFits: and one byte more than that, from several beginnings, with another file in the way.
func TestAppendThatJustFits(t *testing.T) {
	for _, c := range []struct{ blocks, other, begin int }{
		{2, 0, 0}, {3, 0, 0}, {3, 0, 63}, {3, 0, 64}, {5, 0, 65}, {5, 64, 1}, {9, 200, 127}, {9, 200, 128},
	} {
		for _, sure := range []bool{false, true} {
			d := with(t, c.blocks, "o", long(c.other))
			ok(t, d.Create("a"))
			add(t, d, "a", long(c.begin))
			if sure {
				ok(t, d.Sync())
			}
			room := 64*(c.blocks-c.other/64-1) - 1 - c.begin
			pending := d.Pending()
			is(t, "one too long", d.Append("a", make([]byte, room+1)), api.ErrFull)
			is(t, "many too long", d.Append("a", make([]byte, room+1000)), api.ErrFull)
			holds(t, d, pending, "a", long(c.begin), "o", long(c.other))
			text := long(room)
			ok(t, d.Append("a", []byte(text)))
			holds(t, d, pending+room, "a", long(c.begin)+text, "o", long(c.other))
			is(t, "Used", d.Used(), c.blocks)
			is(t, "one more", d.Append("a", []byte("x")), api.ErrFull)
			ok(t, d.Append("a", nil))
			is(t, "no block for it", d.Create("new"), api.ErrFull)
		}
	}
}

// TestRoomComesBack: of files that are gone, and of bytes that a crash has lost.
func TestRoomComesBack(t *testing.T) {
	d := with(t, 4, "a", long(64), "b", long(64))
	is(t, "full", d.Create("c"), api.ErrFull)
	ok(t, d.Remove("a"))
	ok(t, d.Create("c"))
	ok(t, d.Create("d"))
	is(t, "full again", d.Create("e"), api.ErrFull)
	ok(t, d.Rename("c", "b"))
	ok(t, d.Append("d", []byte(long(191))))
	is(t, "a byte too much", d.Append("d", []byte("x")), api.ErrFull)
	keeps(t, d, 63, "b", "", "d", long(63))
	ok(t, d.Append("b", []byte(long(191))))
	holds(t, d, 191, "b", long(191), "d", long(63))
}

func TestCreateOfOneThatIsThere(t *testing.T) {
	d := with(t, 3, "a", long(70), "b", "")
	is(t, "full", d.Used(), 3)
	add(t, d, "b", "12", "a", "xyz", "b", "34", "a", "uvw")
	ok(t, d.Create("a")) // though no block is free
	holds(t, d, 4, "a", "", "b", "1234")
	add(t, d, "a", "new")
	holds(t, d, 7, "a", "new", "b", "1234")
	keeps(t, d, 5, "a", "n", "b", "1234")
}

// TestCreateIsSure: at once, and so is that the former one is gone.
func TestCreateIsSure(t *testing.T) {
	d := with(t, 9, "a", "xyz")
	ok(t, d.Create("b"))
	ok(t, d.Create("a"))
	keeps(t, d, 0, "a", "", "b", "")
	d = with(t, 1, "a", "xyz")
	ok(t, d.Create("a"))
	is(t, "another", d.Create("b"), api.ErrFull)
	holds(t, d, 0, "a", "")
}

func TestSync(t *testing.T) {
	d := with(t, 9, "a", "1", "b", "2")
	add(t, d, "a", "34", "b", "56", "a", "7")
	is(t, "Pending", d.Pending(), 5)
	ok(t, d.Sync())
	holds(t, d, 0, "a", "1347", "b", "256")
	add(t, d, "b", "89")
	keeps(t, d, -1, "a", "1347", "b", "256")
	ok(t, d.Sync()) // of nothing
	keeps(t, d, 0, "a", "1347", "b", "256")
}

func TestRename(t *testing.T) {
	d := with(t, 9, "a", "1", "b", "2")
	ok(t, d.Rename("a", "c"))
	holds(t, d, 0, "b", "2", "c", "1")
	is(t, "the former name", d.Rename("a", "d"), api.ErrNone)
	ok(t, d.Rename("c", "b"))
	holds(t, d, 0, "b", "1")
	keeps(t, d, 0, "b", "1")
	ok(t, d.Create("c"))
	add(t, d, "c", "behind", "b", "x")
	holds(t, d, 7, "b", "1x", "c", "behind")
}

func TestRenameOntoItself(t *testing.T) {
	d := with(t, 9, "a", "1", "b", "2")
	add(t, d, "a", "34", "b", "5")
	ops := d.Ops()
	ok(t, d.Rename("a", "a"))
	is(t, "Ops", d.Ops(), ops+1)
	holds(t, d, 3, "a", "134", "b", "2"+"5")
	keeps(t, d, 1, "a", "13", "b", "2")
	is(t, "of nothing", d.Rename("c", "c"), api.ErrNone)
}

// TestRenameOntoOneInTheBuffer: its writes leave the buffer, those of all others stay, in their order.
func TestRenameOntoOneInTheBuffer(t *testing.T) {
	for keep, want := range []string{"1 p", "13 p", "134 p", "134 pq", "1345 pq", "1345 pq"} {
		d := with(t, 9, "a", "1", "b", "2", "c", "p")
		add(t, d, "b", "xxx", "a", "34", "b", "yyy", "c", "q", "a", "5", "b", "zzz")
		ok(t, d.Rename("a", "b"))
		holds(t, d, 4, "b", "1345", "c", "pq")
		parts := strings.Split(want, " ")
		keeps(t, d, keep, "b", parts[0], "c", parts[1])
	}
}

// TestRenameOfOneInTheBuffer: its writes are the file's under its new name, and a new file of the former name has none of them.
func TestRenameOfOneInTheBuffer(t *testing.T) {
	for keep, want := range []string{"1 - 2", "13 - 2", "134 - 2", "134 x 2", "134 xx 2", "1345 xx 2", "1345 xx 26", "1345 xx 26"} {
		d := with(t, 9, "a", "1", "b", "2")
		add(t, d, "a", "34")
		ok(t, d.Rename("a", "c"))
		ok(t, d.Create("a"))
		add(t, d, "a", "xx", "c", "5", "b", "6")
		holds(t, d, 6, "a", "xx", "b", "26", "c", "1345")
		parts := strings.Split(strings.ReplaceAll(want, "-", ""), " ")
		keeps(t, d, keep, "a", parts[1], "b", parts[2], "c", parts[0])
	}
}

func TestRenameThroughSeveralNames(t *testing.T) {
	d := with(t, 9, "a", "1", "b", "2")
	add(t, d, "a", "A", "b", "B")
	ok(t, d.Rename("a", "t"))
	ok(t, d.Rename("b", "a"))
	ok(t, d.Rename("t", "b"))
	holds(t, d, 2, "a", "2B", "b", "1A")
	add(t, d, "a", "x", "b", "y")
	ok(t, d.Remove("a"))
	holds(t, d, 2, "b", "1Ay")
	keeps(t, d, 1, "b", "1A")
}

func TestRemove(t *testing.T) {
	for keep, want := range []string{"1", "1u", "1uv", "1uv", "1uv"} {
		d := with(t, 9, "a", "1", "b", long(100))
		add(t, d, "b", "xx", "a", "u", "b", "yy", "a", "v", "b", "zz")
		ok(t, d.Remove("b"))
		holds(t, d, 2, "a", "1uv")
		is(t, "once more", d.Remove("b"), api.ErrNone)
		_, err := d.Read("b")
		is(t, "Read", err, api.ErrNone)
		keeps(t, d, keep, "a", want)
		ok(t, d.Create("b"))
		holds(t, d, 0, "a", want, "b", "") // nothing of it is left
	}
}

func TestRemoveIsSure(t *testing.T) {
	d := with(t, 1, "a", "xyz")
	ok(t, d.Remove("a"))
	keeps(t, d, 9)
	ok(t, d.Create("b"))
	holds(t, d, 0, "b", "")
}

// TestBytesAreCopied: a caller may write to what it handed in and to what it was told, and to the room behind both.
func TestBytesAreCopied(t *testing.T) {
	d := with(t, 9, "a", "1")
	room := []byte("2345678")
	ok(t, d.Append("a", room[:3]))
	is(t, "what was handed in", string(room), "2345678")
	clear(room)
	holds(t, d, 3, "a", "1234")
	ok(t, d.Append("a", []byte("5")))
	spoilt, err := d.Read("a")
	ok(t, err)
	other, err := d.Read("a")
	ok(t, err)
	clear(spoilt[:cap(spoilt)])
	is(t, "another answer", string(other), "12345")
	holds(t, d, 4, "a", "12345")
	names := d.List()
	clear(names[:cap(names)])
	holds(t, d, 4, "a", "12345")
	ok(t, d.Append("a", []byte("6")))
	ok(t, d.Spoil("a", 0, 0))
	d.Crash(0)
	is(t, "an answer of before", string(other), "12345")
	if !bytes.Equal(room, make([]byte, 7)) {
		t.Errorf("the caller's bytes: %q", room)
	}
}
