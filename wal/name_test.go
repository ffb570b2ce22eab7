package wal_test

import (
	"math"
	"strconv"
	"strings"
	"testing"

	"corbel/disk"
	"corbel/wal"
)

func TestName(t *testing.T) {
	for n, want := range map[int]string{
		math.MinInt: "", -1000000000: "", -1: "", 0: "", 1: "wal-1", 2: "wal-2", 9: "wal-9", 10: "wal-10", 100: "wal-100",
		123456789: "wal-123456789", 999999998: "wal-999999998", 999999999: "wal-999999999",
		1000000000: "", 1000000001: "", 1 << 32: "", 1<<32 + 1: "", math.MaxInt - 1: "", math.MaxInt: "",
	} {
		is(t, "Name of "+strconv.Itoa(n), wal.Name(n), want)
	}
}

// TestNumber: it undoes Name, and takes no other names, some of which a disk may have.
func TestNumber(t *testing.T) {
	for n := 1; n <= 999999999; n += 1 + n/7 {
		numberIs(t, wal.Name(n), n)
	}
	numberIs(t, "wal-999999999", 999999999)
	for _, name := range []string{
		"", "w", "wal", "wal-", "wal.", "wal.new", "wal.1", "wal1", "wal--1", "wal-+1", "wal--0", "wal-0", "wal-00", "wal-01", "wal-007", "wal-0000000001",
		"wal-1000000000", "wal-9999999999", "wal-0999999999", "wal-18446744073709551617", "wal-4294967297", "wal-" + strings.Repeat("9", 5000),
		"wal-1 ", "wal- 1", " wal-1", "wal-1a", "wal-a1", "wal-a", "wal-1.", "wal-.1", "wal-1.0", "wal-1-", "wal-1-2", "wal-1e3", "wal-0x1", "wal-1_0", "wal-1\x00", "wal-1\n", "\x00wal-1",
		"xwal-1", "walwal-1", "wal-wal-1", "Wal-1", "WAL-1", "wa-1", "al-1", "-1", "1", "01", "+1", "wal-\xff", "wal-１", "wal-١", "snap-1", "wal_1", "wal–1",
	} {
		numberIs(t, name, 0)
	}
}

// numberIs: of a name; 0: it has none.
func numberIs(t *testing.T, name string, want int) {
	t.Helper()
	n, is := wal.Number(name)
	if n != want || is != (want > 0) {
		t.Errorf("Number(%.50q): %d, %t, want %d", name, n, is, want)
	}
}

// TestNamesAreGood: a disk takes them.
func TestNamesAreGood(t *testing.T) {
	for _, n := range []int{1, 10, 999999999} {
		is(t, "Good", disk.Good(wal.Name(n)), true)
	}
}

// TestNumberOfNeighbours: each name with a byte of it changed, gone or doubled, is taken only if it is a name.
func TestNumberOfNeighbours(t *testing.T) {
	for _, n := range []int{1, 9, 10, 101, 999999999} {
		name := wal.Name(n)
		for i := range name {
			for x := range 256 {
				plain(t, name[:i]+string([]byte{byte(x)})+name[i+1:])
				plain(t, name[:i]+string([]byte{byte(x)})+name[i:])
				plain(t, name+string([]byte{byte(x)}))
			}
			plain(t, name[:i]+name[i+1:])
		}
	}
}

// plain: the number that the chapter gives a name.
func plain(t *testing.T, name string) {
	t.Helper()
	want := 0
	if l := plainNumbers([]string{name}); len(l) == 1 {
		want = l[0]
	}
	numberIs(t, name, want)
}
