package snap_test

import (
	"bytes"
	"encoding/binary"
	"fmt"
	"hash/crc32"
	"math"
	"slices"
	"strconv"
	"testing"

	"corbel/api"
	"corbel/disk"
	"corbel/entry"
	"corbel/snap"
)

// What chapters 1 and 12 say, told once more without the packages that are tried. A snapshot's bytes and disks are what their own packages say.

// is: an answer is that one.
func is[T comparable](t *testing.T, what string, got, want T) {
	t.Helper()
	if got != want {
		t.Fatalf("%s: %v, want %v", what, got, want)
	}
}

// ok: a call answered no error.
func ok(t *testing.T, err api.Errno) {
	t.Helper()
	is(t, "a call", err, api.OK)
}

// unsigned: a number in as few bytes as hold it.
func unsigned(u uint64) []byte {
	for k := range 8 {
		if u>>(7*(k+1)) == 0 {
			return inBytes(u, k)
		}
	}
	return inBytes(u, 8)
}

// inBytes: a number with k bytes behind its first one, though fewer might hold it.
func inBytes(u uint64, k int) []byte {
	b := binary.BigEndian.AppendUint64(nil, u)
	if k == 8 {
		return append([]byte{0xff}, b...)
	}
	b = b[7-k:]
	b[0] |= []byte{0, 0x80, 0xc0, 0xe0, 0xf0, 0xf8, 0xfc, 0xfe}[k]
	return b
}

// signed: twice a number, and one more if it is below 0; the highest bit falls off.
func signed(n int) []byte {
	u := uint64(n) * 2
	if n < 0 {
		u++
	}
	return unsigned(u)
}

func sum(b []byte) uint32 { return crc32.Checksum(b, crc32.MakeTable(crc32.Castagnoli)) }

// framed: what a frame of these bytes is.
func framed(b []byte) []byte {
	count := binary.LittleEndian.AppendUint32(nil, uint32(len(b)))
	f := slices.Concat([]byte{0xc5}, count[:3], b)
	return binary.LittleEndian.AppendUint32(f, sum(f))
}

// headed: what stands in a first chunk.
func headed(index, term, count int, sum uint32) []byte {
	return slices.Concat(signed(index), signed(term), unsigned(uint64(count)), unsigned(uint64(sum)))
}

// plainChunks: those of a snapshot, good or not.
func plainChunks(s api.Snapshot) [][]byte {
	b := entry.SnapBytes(s)
	l := [][]byte{framed(headed(s.Index, s.Term, len(b), sum(b)))}
	for len(b) > 4096 {
		l = append(l, framed(b[:4096]))
		b = b[4096:]
	}
	return append(l, framed(b))
}

// file: all chunks of a snapshot, one behind the other.
func file(s api.Snapshot) []byte { return slices.Concat(plainChunks(s)...) }

// plainFrames: what stands in the frames that bytes are, up to the first one that is none; and what is left there.
func plainFrames(b []byte) (l [][]byte, rest []byte) {
	for len(b) >= 8 && b[0] == 0xc5 {
		count := int(b[1]) | int(b[2])<<8 | int(b[3])<<16
		if count > 1048576 || len(b) < count+8 || !bytes.Equal(framed(b[4:4+count]), b[:count+8]) {
			break
		}
		l, b = append(l, b[4:4+count]), b[count+8:]
	}
	return l, b
}

// plainJoin: the snapshot of which bytes are the chunks; false, if there is none. Each thing that must hold is asked for by itself.
func plainJoin(b []byte) (api.Snapshot, bool) {
	l, rest := plainFrames(b)
	if len(l) < 2 || len(rest) > 0 {
		return api.Snapshot{}, false
	}
	for i, piece := range l[1:] {
		if len(piece) != 4096 && i < len(l)-2 || len(piece) > 4096 || len(piece) == 0 {
			return api.Snapshot{}, false
		}
	}
	all := slices.Concat(l[1:]...)
	s, err := entry.ReadSnap(all)
	if err != api.OK || !bytes.Equal(l[0], headed(s.Index, s.Term, len(all), sum(all))) {
		return api.Snapshot{}, false
	}
	return s, true
}

// plainIndex: the number that the chapter gives a name; 0, if it gives none.
func plainIndex(name string) int {
	if len(name) < 6 || len(name) > 14 || name[:5] != "snap-" || name[5] == '0' {
		return 0
	}
	n := 0
	for _, c := range []byte(name[5:]) {
		if c < '0' || c > '9' {
			return 0
		}
		n = 10*n + int(c-'0')
	}
	return n
}

// plainFalling: the numbers among names, from the greatest on.
func plainFalling(names []string) []int {
	var l []int
	for _, name := range names {
		if n := plainIndex(name); n > 0 {
			l = append(l, n)
		}
	}
	slices.SortFunc(l, func(a, b int) int { return b - a })
	return l
}

func nameOf(n int) string { return "snap-" + strconv.Itoa(n) }

// plainSave: on a disk that a call made.
func plainSave(d *disk.Disk, s api.Snapshot) api.Errno {
	switch {
	case !d.On():
		return api.ErrPower
	case !plainlyGood(s) || s.Index > 999999999:
		return api.ErrArg
	}
	if err := d.Create("snap.new"); err != api.OK {
		return err
	}
	for _, chunk := range plainChunks(s) {
		if err := d.Append("snap.new", chunk); err != api.OK {
			return err
		}
	}
	if err := d.Sync(); err != api.OK {
		return err
	}
	if err := d.Rename("snap.new", nameOf(s.Index)); err != api.OK {
		return err
	}
	for _, n := range plainFalling(d.List()) {
		if n < s.Index && d.Remove(nameOf(n)) == api.ErrPower {
			return api.ErrPower
		}
	}
	return api.OK
}

// plainLoad: of a disk that a call made.
func plainLoad(d *disk.Disk) (api.Snapshot, bool, api.Errno) {
	if !d.On() {
		return api.Snapshot{}, false, api.ErrPower
	}
	for _, n := range plainFalling(d.List()) {
		b, _ := d.Read(nameOf(n))
		if s, right := plainJoin(b); right && s.Index == n {
			return s, true, api.OK
		}
	}
	return api.Snapshot{}, false, api.OK
}

// plainlyGood: chapter 10's words.
func plainlyGood(s api.Snapshot) bool {
	times := map[int]int{}
	for _, l := range [][]int{s.Conf.Voters, s.Conf.Learners} {
		for i, n := range l {
			times[n]++
			if n < 1 || n > 9 || times[n] > 1 || i > 0 && n <= l[i-1] {
				return false
			}
		}
	}
	return s.Index >= 1 && s.Term >= 1 && len(s.Conf.Voters) > 0 && len(s.Data) <= 1048576
}

func same(a, b api.Snapshot) bool {
	return a.Index == b.Index && a.Term == b.Term && entry.SameConf(a.Conf, b.Conf) && bytes.Equal(a.Data, b.Data)
}

// show: in a line that can be read.
func show(x any) string {
	s := fmt.Sprintf("%+v", x)
	return s[:min(len(s), 300)]
}

// of: a snapshot at an index, with so many bytes of data.
func of(index, size int) api.Snapshot {
	data := make([]byte, size)
	for i := range data {
		data[i] = byte(i*7 + i>>8 + index)
	}
	return api.Snapshot{Index: index, Term: 3, Conf: api.Conf{Voters: []int{1, 2, 3}, Learners: []int{4}}, Data: data}
}

// ofBytes: a snapshot at an index whose bytes are so many.
func ofBytes(t *testing.T, index, count int) api.Snapshot {
	t.Helper()
	s := of(index, count)
	s = of(index, 2*count-len(entry.SnapBytes(s)))
	is(t, "how many bytes", len(entry.SnapBytes(s)), count)
	return s
}

// goodSnaps: some, at the edges of numbers, of members and of chunks.
func goodSnaps(t *testing.T) []api.Snapshot {
	t.Helper()
	one := api.Conf{Voters: []int{1}}
	l := []api.Snapshot{
		{Index: 1, Term: 1, Conf: one},
		{Index: 5, Term: 1, Conf: one, Data: []byte("abc")},
		{Index: 64, Term: 8192, Conf: one, Data: []byte{0}},
		{Index: 999999999, Term: 63, Conf: one, Data: []byte("x")},
		{Index: 1000000000, Term: 1, Conf: one},
		{Index: math.MaxInt, Term: math.MaxInt, Conf: api.Conf{Voters: []int{9}, Learners: []int{1, 2, 3, 4, 5, 6, 7, 8}}, Data: []byte("d")},
		{Index: 2, Term: 2, Conf: api.Conf{Voters: []int{1, 2, 3, 4, 5, 6, 7, 8, 9}}, Data: bytes.Repeat([]byte{0xc5}, 300)},
	}
	for _, count := range []int{4095, 4096, 4097, 8191, 8192, 8193, 12288, 12289} {
		l = append(l, ofBytes(t, count, count))
	}
	return append(l, of(7, api.MaxFrame-1), of(7, api.MaxFrame), of(7, 100))
}

// badSnaps: each with one thing that may not be.
func badSnaps() []api.Snapshot {
	l := []api.Snapshot{{}, of(7, api.MaxFrame+1), of(7, 2*api.MaxFrame)}
	for _, n := range []int{math.MinInt, -1, 0} {
		index, term := of(n, 3), of(7, 3)
		term.Term = n
		l = append(l, index, term)
	}
	for _, c := range []api.Conf{
		{}, {Learners: []int{1}}, {Voters: []int{0}}, {Voters: []int{-1}}, {Voters: []int{10}}, {Voters: []int{math.MaxInt}}, {Voters: []int{math.MinInt}},
		{Voters: []int{1, 1}}, {Voters: []int{2, 1}}, {Voters: []int{1}, Learners: []int{1}}, {Voters: []int{1}, Learners: []int{3, 2}}, {Voters: []int{1}, Learners: []int{0}}, {Voters: []int{1}, Learners: []int{10}},
	} {
		s := of(7, 3)
		s.Conf = c
		l = append(l, s)
	}
	return l
}

// onDisk: a disk with so many blocks, with files that are sure: a name and its bytes by turns.
func onDisk(t *testing.T, blocks int, files ...any) *disk.Disk {
	t.Helper()
	d := disk.New(blocks)
	for i := 0; i+1 < len(files); i += 2 {
		name := files[i].(string)
		ok(t, d.Create(name))
		ok(t, d.Append(name, files[i+1].([]byte)))
	}
	ok(t, d.Sync())
	return d
}

// holds: all files of a disk: a name and its bytes by turns.
func holds(t *testing.T, d *disk.Disk, files ...any) {
	t.Helper()
	var names []string
	for i := 0; i+1 < len(files); i += 2 {
		name := files[i].(string)
		names = append(names, name)
		b, err := d.Read(name)
		if err != api.OK || !bytes.Equal(b, files[i+1].([]byte)) {
			t.Fatalf("%s: %s, %v, want %s", name, show(b), err, show(files[i+1]))
		}
	}
	slices.Sort(names)
	if !slices.Equal(d.List(), names) {
		t.Fatalf("List: %q, want %q", d.List(), names)
	}
}

// loads: the disk's snapshot is that one, and no operation is done.
func loads(t *testing.T, d *disk.Disk, want api.Snapshot) {
	t.Helper()
	ops := d.Ops()
	s, is, err := snap.Load(d)
	if err != api.OK || !is || !same(s, want) || d.Ops() != ops {
		t.Fatalf("Load: %s, %t, %v, want %s", show(s), is, err, show(want))
	}
}

// loadsNothing: there is no snapshot, with that error.
func loadsNothing(t *testing.T, d *disk.Disk, want api.Errno) {
	t.Helper()
	ops := d.Ops()
	s, is, err := snap.Load(d)
	if err != want || is || !same(s, api.Snapshot{}) || d.Ops() != ops {
		t.Fatalf("Load: %s, %t, %v, want nothing, %v", show(s), is, err, want)
	}
}
