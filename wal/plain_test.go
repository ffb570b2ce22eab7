package wal_test

import (
	"bytes"
	"cmp"
	"encoding/binary"
	"fmt"
	"hash/crc32"
	"math"
	"math/big"
	"slices"
	"strconv"
	"strings"
	"testing"

	"corbel/api"
	"corbel/disk"
	"corbel/entry"
	"corbel/wal"
)

// What chapters 1 and 11 say, told once more without the packages that are tried. Entries and disks are what their own packages say.

// is: an answer is that one.
func is[T comparable](t *testing.T, what string, got, want T) {
	t.Helper()
	if got != want {
		t.Fatalf("%s: %v, want %v", what, got, want)
	}
}

// ok: a call answered no error.
func ok(t *testing.T, err api.Errno) {
	t.Helper()
	is(t, "a call", err, api.OK)
}

// unsigned: a number in as few bytes as hold it.
func unsigned(u uint64) []byte {
	for k := range 8 {
		if u>>(7*(k+1)) == 0 {
			return inBytes(u, k)
		}
	}
	return inBytes(u, 8)
}

// inBytes: a number with k bytes behind its first one, though fewer might hold it.
func inBytes(u uint64, k int) []byte {
	b := binary.BigEndian.AppendUint64(nil, u)
	if k == 8 {
		return append([]byte{0xff}, b...)
	}
	b = b[7-k:]
	b[0] |= []byte{0, 0x80, 0xc0, 0xe0, 0xf0, 0xf8, 0xfc, 0xfe}[k]
	return b
}

// signed: twice each number, and one more if it is below 0; the highest bit falls off.
func signed(numbers ...int) []byte {
	var b []byte
	for _, n := range numbers {
		u := uint64(n) * 2
		if n < 0 {
			u++
		}
		b = append(b, unsigned(u)...)
	}
	return b
}

// framed: what a frame of these bytes is.
func framed(b []byte) []byte {
	head := binary.LittleEndian.AppendUint32(nil, uint32(len(b)))
	f := slices.Concat([]byte{0xc5}, head[:3], b)
	return binary.LittleEndian.AppendUint32(f, crc32.Checksum(f, crc32.MakeTable(crc32.Castagnoli)))
}

// inside: what stands in a record's frame, good or not.
func inside(r wal.Record) []byte {
	switch r.Kind {
	case 1:
		return slices.Concat(signed(1), entry.Bytes(r.Entry))
	case 2:
		return signed(2, r.Hard.Term, r.Hard.Vote, r.Hard.Commit)
	case 3:
		return signed(3, r.Index, r.Term)
	}
	return signed(r.Kind)
}

func plainlyGood(r wal.Record) bool {
	return r.Kind == 1 && entry.Good(r.Entry) ||
		r.Kind == 2 && r.Hard.Term >= 0 && r.Hard.Vote >= 0 && r.Hard.Commit >= 0 ||
		r.Kind == 3 && r.Index >= 0 && r.Term >= 0
}

func plainBytes(r wal.Record) []byte {
	if !plainlyGood(r) {
		return nil
	}
	return framed(inside(r))
}

func allBytes(l ...wal.Record) []byte {
	var b []byte
	for _, r := range l {
		b = append(b, plainBytes(r)...)
	}
	return b
}

// number: the one that bytes begin with, and what follows; all of it, if there is none.
func number(b []byte) (int, []byte) {
	for k := range min(len(b), 9) {
		u := new(big.Int).SetBytes(b[:k+1])
		if k == 8 {
			u.SetBytes(b[1:9])
		} else {
			u.And(u, big.NewInt(1<<(7*(k+1))-1))
		}
		if bytes.Equal(unsigned(u.Uint64()), b[:k+1]) {
			return int(u.Uint64()>>1 | u.Uint64()<<63), b[k+1:]
		}
	}
	return 0, b
}

// plainFirst: the record of which bytes begin with the Bytes.
func plainFirst(b []byte) (wal.Record, bool) {
	if len(b) < 8 {
		return wal.Record{}, false
	}
	count := int(b[1]) | int(b[2])<<8 | int(b[3])<<16
	if len(b) < count+8 {
		return wal.Record{}, false
	}
	var r wal.Record
	kind, rest := number(b[4 : count+4])
	r.Kind = kind
	switch kind {
	case 1:
		r.Entry, _ = entry.Read(rest)
	case 2:
		r.Hard.Term, rest = number(rest)
		r.Hard.Vote, rest = number(rest)
		r.Hard.Commit, _ = number(rest)
	case 3:
		r.Index, rest = number(rest)
		r.Term, _ = number(rest)
	}
	want := plainBytes(r)
	return r, len(want) > 0 && bytes.HasPrefix(b, want)
}

func plainScan(b []byte) ([]wal.Record, int) {
	var l []wal.Record
	at := 0
	for {
		r, there := plainFirst(b[at:])
		if !there {
			return l, at
		}
		l = append(l, r)
		at += len(plainBytes(r))
	}
}

// atMostOneMore: is a number at most one more than another one, in numbers without an end?
func atMostOneMore(n, than int) bool {
	return new(big.Int).Sub(big.NewInt(int64(n)), big.NewInt(int64(than))).Cmp(big.NewInt(1)) <= 0
}

// plainFold: each entry that was there is asked whether it stays.
func plainFold(s wal.State, r wal.Record) (wal.State, bool) {
	next := wal.State{Index: s.Index, Term: s.Term, Hard: s.Hard}
	stay := func(which func(api.Entry) bool) {
		for _, e := range s.Entries {
			if which(e) {
				next.Entries = append(next.Entries, e)
			}
		}
	}
	switch r.Kind {
	case 1:
		last := s.Index
		for _, e := range s.Entries {
			last = e.Index
		}
		if r.Entry.Index <= s.Index || !atMostOneMore(r.Entry.Index, last) {
			return s, false
		}
		stay(func(e api.Entry) bool { return e.Index < r.Entry.Index })
		next.Entries = append(next.Entries, r.Entry)
	case 2:
		next.Hard = r.Hard
		next.Entries = s.Entries
	case 3:
		if r.Index < s.Index {
			return s, false
		}
		next.Index, next.Term = r.Index, r.Term
		there := slices.ContainsFunc(s.Entries, func(e api.Entry) bool { return e.Index == r.Index && e.Term == r.Term })
		if there || r.Index == s.Index {
			stay(func(e api.Entry) bool { return e.Index > r.Index })
		}
	default:
		return s, false
	}
	return next, true
}

// plainNumbers: those of the segments among the names, rising.
func plainNumbers(names []string) []int {
	var l []int
	for _, name := range names {
		digits, cut := strings.CutPrefix(name, "wal-")
		n, err := strconv.ParseUint(digits, 10, 32)
		if cut && err == nil && digits[0] != '0' && len(digits) <= 9 {
			l = append(l, int(n))
		}
	}
	slices.SortFunc(l, cmp.Compare[int])
	return l
}

// plainLoad: the state of a disk's segments, the number of the last one, and its records' bytes and all others; false, if it is corrupt. Each run of segments up to the next one that begins with a Base is looked at on its own: all runs must be right, and the last one's state is told.
func plainLoad(d *disk.Disk) (s wal.State, last int, told, rest []byte, right bool) {
	right = true
	numbers := plainNumbers(d.List())
	runs := [][]wal.Record{nil}
	for i, n := range numbers {
		b, _ := d.Read("wal-" + strconv.Itoa(n))
		l, size := plainScan(b)
		last, told, rest = n, b[:size], b[size:]
		right = right && (len(rest) == 0 || i == len(numbers)-1)
		if len(l) > 0 && l[0].Kind == 3 {
			runs = append(runs, nil)
		}
		runs[len(runs)-1] = append(runs[len(runs)-1], l...)
	}
	for _, run := range runs {
		s = wal.State{}
		for _, r := range run {
			next, fits := plainFold(s, r)
			s, right = next, right && fits
		}
	}
	return s, last, told, rest, right
}

func sameState(a, b wal.State) bool {
	return a.Index == b.Index && a.Term == b.Term && a.Hard == b.Hard && slices.EqualFunc(a.Entries, b.Entries, entry.Same)
}

func sameRecord(a, b wal.Record) bool {
	return a.Kind == b.Kind && entry.Same(a.Entry, b.Entry) && a.Hard == b.Hard && a.Index == b.Index && a.Term == b.Term
}

// stateIs: a state is that one.
func stateIs(t *testing.T, what string, got, want wal.State) {
	t.Helper()
	if !sameState(got, want) {
		t.Fatalf("%s: %s, want %s", what, show(got), show(want))
	}
}

// show: in a line that can be read.
func show(x any) string {
	s := fmt.Sprintf("%+v", x)
	return s[:min(len(s), 1000)]
}

// ends: numbers at and beside the edges, and the ends of int.
func ends() []int {
	return []int{math.MinInt, math.MinInt + 1, -2, -1, 0, 1, 2, 3, 4, 5, 63, 64, 8191, 8192, math.MaxInt - 1, math.MaxInt}
}

func noop(index, term int) api.Entry { return api.Entry{Index: index, Term: term, Kind: api.EntryNoop} }

// noops: so many of a term behind an index.
func noops(index, term, n int) []api.Entry {
	var l []api.Entry
	for i := range n {
		l = append(l, noop(index+1+i, term))
	}
	return l
}

func members(index, term int) api.Entry {
	return api.Entry{Index: index, Term: term, Kind: api.EntryConf, Conf: api.Conf{Voters: []int{1, 2, 3}, Learners: []int{4, 5}}}
}

func put(index, term int, value string) api.Entry {
	return api.Entry{Index: index, Term: term, Kind: api.EntryCommand, Command: api.Command{Kind: api.CmdPut, Session: 1, Seq: 1, Key: "k", Value: value}}
}

func ofEntry(e api.Entry) wal.Record { return wal.Record{Kind: wal.KindEntry, Entry: e} }

func ofHard(term, vote, commit int) wal.Record {
	return wal.Record{Kind: wal.KindHard, Hard: api.Hard{Term: term, Vote: vote, Commit: commit}}
}

func ofBase(index, term int) wal.Record {
	return wal.Record{Kind: wal.KindBase, Index: index, Term: term}
}

func goodEntries() []api.Entry {
	return []api.Entry{
		noop(1, 1), noop(64, 8192), noop(math.MaxInt, math.MaxInt), members(2, 1), members(math.MaxInt, 1),
		put(3, 1, "v"), put(4, 2, strings.Repeat("v", api.MaxValue)),
		{Index: 5, Term: 1, Kind: api.EntryCommand, Command: api.Command{Kind: api.CmdOpen}},
		{Index: 6, Term: 1, Kind: api.EntryCommand, Command: api.Command{Kind: api.CmdScan, Session: 1, Seq: 1, Key: "\x00\xff", Until: "b", Limit: api.MaxScan}},
		{Index: 7, Term: 1, Kind: api.EntryConf, Conf: api.Conf{Voters: []int{1, 2, 3, 4, 5, 6, 7, 8, 9}}},
	}
}

// goodRecords: some of each kind.
func goodRecords() []wal.Record {
	var l []wal.Record
	for _, e := range goodEntries() {
		l = append(l, ofEntry(e))
	}
	for _, n := range ends() {
		if n >= 0 {
			l = append(l, ofHard(n, 0, 0), ofHard(0, n, 0), ofHard(0, 0, n), ofHard(n, n, n), ofBase(n, 0), ofBase(0, n), ofBase(n, n))
		}
	}
	return l
}

// onDisk: a disk with so many blocks, with files that are sure: a name and its bytes by turns.
func onDisk(t *testing.T, blocks int, files ...any) *disk.Disk {
	t.Helper()
	d := disk.New(blocks)
	for i := 0; i+1 < len(files); i += 2 {
		name := files[i].(string)
		ok(t, d.Create(name))
		ok(t, d.Append(name, files[i+1].([]byte)))
	}
	ok(t, d.Sync())
	return d
}

// holds: all files of a disk: a name and its bytes by turns; and nothing is in the buffer.
func holds(t *testing.T, d *disk.Disk, files ...any) {
	t.Helper()
	var names []string
	for i := 0; i+1 < len(files); i += 2 {
		name := files[i].(string)
		names = append(names, name)
		b, err := d.Read(name)
		if err != api.OK || !bytes.Equal(b, files[i+1].([]byte)) {
			t.Fatalf("%s: %d, %v, want %d", name, b, err, files[i+1])
		}
	}
	slices.Sort(names)
	if !slices.Equal(d.List(), names) {
		t.Fatalf("List: %q, want %q", d.List(), names)
	}
	is(t, "Pending", d.Pending(), 0)
}

// opened: a log of that disk, whose state is that, as it tells at once and later.
func opened(t *testing.T, d *disk.Disk, segment int, want wal.State) *wal.Wal {
	t.Helper()
	w, s, err := wal.Open(d, segment)
	if err != api.OK || w == nil {
		t.Fatalf("Open: %v, %v", w, err)
	}
	stateIs(t, "Open", s, want)
	stateIs(t, "State", w.State(), want)
	return w
}

// refused: an error, and nothing beside it.
func refused(t *testing.T, d *disk.Disk, segment int, want api.Errno) {
	t.Helper()
	w, s, err := wal.Open(d, segment)
	if err != want || w != nil || !sameState(s, wal.State{}) {
		t.Fatalf("Open: %v, %s, %v, want %v", w, show(s), err, want)
	}
}

// segments: these are on the disk.
func segments(t *testing.T, w *wal.Wal, want ...int) {
	t.Helper()
	if got := w.Segments(); !slices.Equal(got, want) {
		t.Fatalf("Segments: %d, want %d", got, want)
	}
}
