package snap_test

import (
	"math"
	"strconv"
	"strings"
	"testing"

	"corbel/disk"
	"corbel/snap"
)

func TestName(t *testing.T) {
	for n, want := range map[int]string{
		math.MinInt: "", -1000000000: "", -1: "", 0: "", 1: "snap-1", 2: "snap-2", 9: "snap-9", 10: "snap-10", 100: "snap-100",
		123456789: "snap-123456789", 999999998: "snap-999999998", 999999999: "snap-999999999",
		1000000000: "", 1000000001: "", 1 << 32: "", 1<<32 + 1: "", math.MaxInt - 1: "", math.MaxInt: "",
	} {
		is(t, "Name of "+strconv.Itoa(n), snap.Name(n), want)
	}
}

// TestIndex: it undoes Name, and takes no other names, some of which a disk may have.
func TestIndex(t *testing.T) {
	for n := 1; n <= 999999999; n += 1 + n/7 {
		indexIs(t, snap.Name(n), n)
	}
	indexIs(t, "snap-999999999", 999999999)
	for _, name := range []string{
		"", "s", "snap", "snap-", "snap.", "snap.new", "snap.1", "snap1", "snap--1", "snap-+1", "snap--0", "snap-0", "snap-00", "snap-01", "snap-007", "snap-0000000001",
		"snap-1000000000", "snap-9999999999", "snap-0999999999", "snap-18446744073709551617", "snap-4294967297", "snap-" + strings.Repeat("9", 5000),
		"snap-1 ", "snap- 1", " snap-1", "snap-1a", "snap-a1", "snap-a", "snap-1.", "snap-.1", "snap-1.0", "snap-1-", "snap-1-2", "snap-1e3", "snap-0x1", "snap-1_0", "snap-1\x00", "snap-1\n", "\x00snap-1",
		"xsnap-1", "snapsnap-1", "snap-snap-1", "Snap-1", "SNAP-1", "sna-1", "nap-1", "-1", "1", "01", "+1", "snap-\xff", "snap-１", "snap-١", "wal-1", "snap_1", "snap–1",
	} {
		indexIs(t, name, 0)
	}
}

// indexIs: of a name; 0: it has none.
func indexIs(t *testing.T, name string, want int) {
	t.Helper()
	n, is := snap.Index(name)
	if n != want || is != (want > 0) {
		t.Errorf("Index(%.50q): %d, %t, want %d", name, n, is, want)
	}
}

// TestNamesAreGood: a disk takes them.
func TestNamesAreGood(t *testing.T) {
	for _, n := range []int{1, 10, 999999999} {
		is(t, "Good", disk.Good(snap.Name(n)), true)
	}
}

// TestIndexOfNeighbours: each name with a byte of it changed, gone or doubled, is taken only if it is a name.
func TestIndexOfNeighbours(t *testing.T) {
	for _, n := range []int{1, 9, 10, 101, 999999999} {
		name := snap.Name(n)
		for i := range name {
			for x := range 256 {
				plainly(t, name[:i]+string([]byte{byte(x)})+name[i+1:])
				plainly(t, name[:i]+string([]byte{byte(x)})+name[i:])
				plainly(t, name+string([]byte{byte(x)}))
			}
			plainly(t, name[:i]+name[i+1:])
		}
	}
}

func plainly(t *testing.T, name string) {
	t.Helper()
	indexIs(t, name, plainIndex(name))
}
